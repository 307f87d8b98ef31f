/- The reference: Compare, Under, Common. -/
import Derived.Test.YtbgfeonlnhlbfaaRef2
import Derived.Test.YtbgfeonlnhlbfaaFresh
import Derived.Test.YtbgfeonlnhlbfaaOrderV
import Derived.Deep.Upon
import Derived.Deep.AppendSrc
namespace Go.Proofs.Ytbgfeonlnhlbfaa
open Go.RowKit

/-- 'append(v, x...)', v of the call's own, x a list of strings, nil too. -/
theorem run_append_strs {W : World} {ty : TypeId} {base : Nat} {v x : Value} {n : Nat} {xs : List Value} {ss : List ByteArray} (hown : W.ownsRow base 9 1 v n xs) (hv : ∃ g cap, v = .slice (some ⟨g, 0, none⟩) n cap) (hx : StrsAt W x ss)
    (hl : n + ss.length ≤ 100000) (hb : base ≤ W.heap.size) :
    ∃ g cap w', (Builtin.append_ #[22, 22] ty #[v, x]).run Try.prog W = .ok (.slice (some ⟨g, 0, none⟩) (n + ss.length) cap) w' ∧ w'.ownsRow base 9 1 (.slice (some ⟨g, 0, none⟩) (n + ss.length) cap) (n + ss.length) (xs ++ cellsL ss) ∧ W.grownBy w' v.ownBlock := by
  obtain ⟨i0, hi, hz0, hz1, hz2⟩ := info_parts Try.infoStr
  obtain ⟨g, cap, rfl⟩ := hv
  rcases hx with ⟨a, c, rfl, rfl⟩ | ⟨b, o, c, rfl, hc, hlt, hcell⟩
  · have hnc : n ≤ cap := by
      rcases hown.2 with ⟨h, _⟩ | ⟨g', cap', cur, h, _, _, hn, _⟩
      · cases h
      · cases h; exact hn
    have hs : Src Try.prog i0.size 22 (.slice a 0 c) 0 [] W := by
      cases a with
      | none => exact Src.ofNil W Try.underlying22 c
      | some ad => exact Src.ofSlice W Try.underlying22 ad 0 c [] (by simp) (fun j u h => by simp at h) (fun u h => by cases h)
    exact ⟨g, cap, W, run_append_nothing W _ _ ty _ i0 Try.underlying22 hi _ n cap hnc _ hs, by simpa using hown, World.grownBy.refl _ _⟩
  · obtain ⟨v', w', hr, h1, h2, h3⟩ := run_append_own (P := Try.prog) (w := W) base 22 ty 9 i0 (.string ⟨#[]⟩) 1 16 Try.underlying22 hi hz0 hz1 hz2 rfl (by decide) _ n xs hown ⟨b, o, none⟩ ss.length c (cellsL ss) (by simp)
      (fun j u hj => by
        rw [List.getElem?_map] at hj
        have hjl : j < ss.length := by
          rcases Nat.lt_or_ge j ss.length with h | h
          · exact h
          · rw [List.getElem?_eq_none h] at hj; simp at hj
        rw [List.getElem?_eq_getElem hjl] at hj
        simp at hj; subst hj
        rw [addr_add]; exact hcell j hjl)
      (by intro u hu; obtain ⟨s, _, rfl⟩ := List.mem_map.1 hu; rfl) (by unfold maxLen; omega) (by omega) hb
    rcases h1.2 with ⟨h, h0⟩ | ⟨g', cap', cur, h, _⟩
    · have := h3.1 h
      cases this.1
    · subst h
      exact ⟨g', cap', w', hr, h1, h2⟩

/-- An append whose run is known, for the walk. -/
theorem wpList_append_run {P : Program} {w : World} {ops : Array Oper} {rest : List Oper} {o : Oper} {a : Act} {Q : Exit → Act → World → Prop} (hgd : o.guard = none) (s x : Operand) (t : TypeId)
    (ho : o.op = .call { callee := .builtin .append, args := #[s, x], argTypes := #[t, t] }) (v xv v' : Value) (w' : World) (hs : a.eval s = v) (hx : a.eval x = xv)
    (hrun : (Builtin.append_ #[t, t] o.type #[v, xv]).run P w = .ok v' w') (h : wpList P ops Q rest (a.put o.dst v') w') : wpList P ops Q (o :: rest) a w := by
  refine wpList_plain hgd fun K hK => ?_
  unfold Oper.wp
  simp [execOp, ho, resolve, invoke, builtin, hs, hx, hrun, Result.andThen]
  exact hK _ _ h

theorem cmpV_cases {ps qs : List ByteArray} : (lessB ps qs = true → cmpP (bsL ps) (bsL qs) = -1) ∧ (lessB ps qs = false → lessB qs ps = true → cmpP (bsL ps) (bsL qs) = 1) ∧ (lessB ps qs = false → lessB qs ps = false → cmpP (bsL ps) (bsL qs) = 0) := by
  have h1 := cmpP_tot.low (bsL ps) (bsL qs)
  have h2 := cmpP_tot.neg (bsL ps) (bsL qs)
  unfold lessB
  simp only [decide_eq_true_iff, decide_eq_false_iff_not]
  refine ⟨?_, ?_, ?_⟩ <;> intros <;> omega

set_option maxHeartbeats 2000000 in
set_option maxRecDepth 100000 in
theorem CompareR_any (v1 v2 : Value) (ps qs : List ByteArray) (w : World) (h1 : StrsAt w v1 ps) (h2 : StrsAt w v2 qs) (m1 : Modest ps) (m2 : Modest qs) (l1 : ps.length ≤ 1000) (l2 : qs.length ≤ 1000) :
    Calls Try.prog 23 #[v1, v2] w fun e w' => e = .returned (.tuple #[.int .i64 (compareV ps qs), .int .i64 (bothE ps qs)]) ∧ Below w.heap.size w w' := by
  have HC := Lib.hid (bothR_any v1 v2 ps qs w h1 h2 m1 m2)
  have H1 := Lib.hid h1
  have H2 := Lib.hid h2
  obtain ⟨a1, c1, rfl⟩ := h1.shape
  obtain ⟨a2, c2, rfl⟩ := h2.shape
  clear h1 h2 m1 m2
  by_cases h0 : bothE ps qs = 0
  · have HV := Lib.hid (show compareV ps qs = cmpP (bsL ps) (bsL qs) by unfold compareV; rw [if_pos h0])
    have HCC := Lib.hid (cmpV_cases (ps := ps) (qs := qs))
    rw [h0] at HC ⊢
    rw [HV.out]
    have HL := Lib.hid (fun w1 (hb : Below w.heap.size w w1) => lessR_any _ _ ps qs w1 (H1.out.below hb) (H2.out.below hb) l1 l2)
    have HM := Lib.hid (fun w1 (hb : Below w.heap.size w w1) => lessR_any _ _ qs ps w1 (H2.out.below hb) (H1.out.below hb) l2 l1)
    clear h0
    cases e1 : lessB ps qs with
    | true =>
      rw [HCC.out.1 e1]
      rw [e1] at HL
      go_enter Try.func23, Try.ntmps23
      go_wp2_with fail
      refine HC.out.mono ?_
      rintro e w1 ⟨rfl, hb1⟩
      go_wp2_with fail
      refine (HL.out w1 hb1).mono ?_
      rintro e w2 ⟨rfl, n2, rfl⟩
      have hbb := hb1.trans ((drewN_bel w1 n2).mono hb1.size)
      go_wp2_with fail
      go_ret2
      exact ⟨rfl, hbb⟩
    | false =>
      rw [e1] at HL
      cases e2 : lessB qs ps with
      | true =>
        rw [HCC.out.2.1 e1 e2]
        rw [e2] at HM
        go_enter Try.func23, Try.ntmps23
        go_wp2_with fail
        refine HC.out.mono ?_
        rintro e w1 ⟨rfl, hb1⟩
        go_wp2_with fail
        refine (HL.out w1 hb1).mono ?_
        rintro e w2 ⟨rfl, n2, rfl⟩
        have hbb := hb1.trans ((drewN_bel w1 n2).mono hb1.size)
        go_wp2_with fail
        refine (HM.out _ hbb).mono ?_
        rintro e w3 ⟨rfl, n3, rfl⟩
        have hbc := hbb.trans ((drewN_bel _ n3).mono hbb.size)
        rw [World.drewN_drewN] at hbc
        go_wp2_with fail
        go_ret2
        exact ⟨rfl, hbc⟩
      | false =>
        rw [HCC.out.2.2 e1 e2]
        rw [e2] at HM
        go_enter Try.func23, Try.ntmps23
        go_wp2_with fail
        refine HC.out.mono ?_
        rintro e w1 ⟨rfl, hb1⟩
        go_wp2_with fail
        refine (HL.out w1 hb1).mono ?_
        rintro e w2 ⟨rfl, n2, rfl⟩
        have hbb := hb1.trans ((drewN_bel w1 n2).mono hb1.size)
        go_wp2_with fail
        refine (HM.out _ hbb).mono ?_
        rintro e w3 ⟨rfl, n3, rfl⟩
        have hbc := hbb.trans ((drewN_bel _ n3).mono hbb.size)
        rw [World.drewN_drewN] at hbc
        go_wp2_with fail
        go_ret2
        exact ⟨rfl, hbc⟩
  · have HV := Lib.hid (show compareV ps qs = 0 by unfold compareV; rw [if_neg h0])
    rw [HV.out]
    obtain ⟨z, hz⟩ : ∃ z, z = bothE ps qs := ⟨_, rfl⟩
    rw [← hz] at HC h0 ⊢
    have hz' : (z != 0) = true := by simpa using h0
    clear hz
    go_enter Try.func23, Try.ntmps23
    go_wp2_with fail
    refine HC.out.mono ?_
    rintro e w1 ⟨rfl, hb1⟩
    go_wp2_with fail
    go_ret2
    exact ⟨rfl, hb1⟩

set_option maxHeartbeats 2000000 in
set_option maxRecDepth 100000 in
theorem UnderR_any (v1 v2 : Value) (ps qs : List ByteArray) (w : World) (h1 : StrsAt w v1 ps) (h2 : StrsAt w v2 qs) (m1 : Modest ps) (m2 : Modest qs) (l1 : ps.length ≤ 1000) (l2 : qs.length ≤ 1000) :
    Calls Try.prog 25 #[v1, v2] w fun e w' => e = .returned (.tuple #[.bool (UnderV ps qs), .int .i64 (bothE ps qs)]) ∧ Below w.heap.size w w' := by
  have HC := Lib.hid (bothR_any v1 v2 ps qs w h1 h2 m1 m2)
  have H1 := Lib.hid h1
  have H2 := Lib.hid h2
  obtain ⟨a1, c1, rfl⟩ := h1.shape
  obtain ⟨a2, c2, rfl⟩ := h2.shape
  clear h1 h2 m1 m2
  by_cases h0 : bothE ps qs = 0
  · have HL := Lib.hid (fun w1 (hb : Below w.heap.size w w1) => commonR_any _ _ ps qs w1 (H1.out.below hb) (H2.out.below hb) l1 l2)
    have HV := Lib.hid (show UnderV ps qs = ((comN (bsL ps) (bsL qs) : Int) == (qs.length : Int)) by unfold UnderV underB; rw [h0, Bool.eq_iff_iff]; simp; omega)
    rw [h0] at HC ⊢
    rw [HV.out]
    generalize comN (bsL ps) (bsL qs) = k at *
    clear h0 HV
    go_enter Try.func25, Try.ntmps25
    go_wp2_with fail
    refine HC.out.mono ?_
    rintro e w1 ⟨rfl, hb1⟩
    go_wp2_with fail
    refine (HL.out w1 hb1).mono ?_
    rintro e w2 ⟨rfl, n2, rfl⟩
    have hbb := hb1.trans ((drewN_bel w1 n2).mono hb1.size)
    go_wp2_with fail
    go_ret2
    exact ⟨rfl, hbb⟩
  · have HV := Lib.hid (show UnderV ps qs = false by unfold UnderV; simp [h0])
    rw [HV.out]
    obtain ⟨z, hz⟩ : ∃ z, z = bothE ps qs := ⟨_, rfl⟩
    rw [← hz] at HC h0 ⊢
    have hz' : (z == 0) = false := by simpa using h0
    clear hz
    go_enter Try.func25, Try.ntmps25
    go_wp2_with fail
    refine HC.out.mono ?_
    rintro e w1 ⟨rfl, hb1⟩
    go_wp2_with fail
    go_ret2
    exact ⟨rfl, hb1⟩

set_option maxHeartbeats 2000000 in
set_option maxRecDepth 100000 in
theorem CommonR_any (v1 v2 : Value) (ps qs : List ByteArray) (w : World) (h1 : StrsAt w v1 ps) (h2 : StrsAt w v2 qs) (m1 : Modest ps) (m2 : Modest qs) (l1 : ps.length ≤ 1000) (l2 : qs.length ≤ 1000) :
    Calls Try.prog 27 #[v1, v2] w fun e w' => ∃ v, e = .returned (.tuple #[v, .int .i64 (bothE ps qs)]) ∧ StrsAt w' v (CommonP ps qs) ∧ Below w.heap.size w w' := by
  have HC := Lib.hid (bothR_any v1 v2 ps qs w h1 h2 m1 m2)
  have H1 := Lib.hid h1
  have H2 := Lib.hid h2
  have hcap := h1.cap
  obtain ⟨a1, c1, rfl, hc1⟩ := hcap
  obtain ⟨a2, c2, rfl⟩ := h2.shape
  clear h1 h2 m1 m2
  by_cases h0 : bothE ps qs = 0
  · have HV := Lib.hid (show CommonP ps qs = ps.take (comN (bsL ps) (bsL qs)) by unfold CommonP; rw [if_pos h0])
    have hl := (comN_le (bsL ps) (bsL qs)).1
    rw [List.length_map] at hl
    have HL := Lib.hid (fun w1 (hb : Below w.heap.size w w1) => commonR_any _ _ ps qs w1 (H1.out.below hb) (H2.out.below hb) l1 l2)
    rw [h0] at HC ⊢
    rw [HV.out]
    generalize comN (bsL ps) (bsL qs) = k at *
    clear h0 HV
    go_enter Try.func27, Try.ntmps27
    go_wp2_with fail
    refine HC.out.mono ?_
    rintro e w1 ⟨rfl, hb1⟩
    have hs1 := hb1.size
    go_wp2_with fail
    obtain ⟨w2, hw2⟩ : ∃ w2, w1.alloc (.cells #[] 9) = w2 := ⟨_, rfl⟩
    have ho2 : w2.ownsRow w.heap.size 9 1 (.slice (some ⟨w1.heap.size, 0, none⟩) 0 0) 0 [] := by
      rw [← hw2]; exact World.ownsRow_made (base := w.heap.size) (e := 9) (size := 1) w1 #[] 0 hs1 (by unfold maxLen; omega) rfl
    have hb2 : Below w.heap.size w w2 := by rw [← hw2]; exact hb1.alloc hs1 _
    have HO2 := Lib.hid ho2
    try rw [hw2]
    clear hw2 ho2
    refine (HL.out w2 hb2).mono ?_
    rintro e w3 ⟨rfl, n3, rfl⟩
    have hb3 := hb2.trans ((drewN_bel w2 n3).mono hb2.size)
    have HT := Lib.hid ((H1.out.below hb3).take k hl)
    obtain ⟨g, cap, w4, hr, ho4, hg4⟩ := run_append_strs (W := w2.drewN n3) (ty := 22) (base := w.heap.size) HO2.out ⟨_, _, rfl⟩ HT.out (by rw [List.length_take]; omega) hb3.size
    have hb4 : Below w.heap.size w w4 := hb3.grown hg4 hb3.size (fun j e => (HO2.out.lt j e).1)
    have HF := Lib.hid (show StrsAt w4 (.slice (some ⟨g, 0, none⟩) (0 + (ps.take k).length) cap) (ps.take k) from strs_of_row (base := w.heap.size) (by simpa using ho4))
    rw [List.length_take, Nat.min_eq_left hl, Nat.zero_add] at hr HF
    clear ho4 hg4
    go_wp2_with (at_builtin; refine wpList_append_run rfl _ _ _ rfl _ _ _ _ rfl rfl hr ?_)
    go_ret2
    exact ⟨.slice (some ⟨g, 0, none⟩) k cap, rfl, HF.out, hb4⟩
  · have HV := Lib.hid (show CommonP ps qs = [] by unfold CommonP; rw [if_neg h0])
    rw [HV.out]
    obtain ⟨z, hz⟩ : ∃ z, z = bothE ps qs := ⟨_, rfl⟩
    rw [← hz] at HC h0 ⊢
    have hz' : (z != 0) = true := by simpa using h0
    clear hz
    go_enter Try.func27, Try.ntmps27
    go_wp2_with fail
    refine HC.out.mono ?_
    rintro e w1 ⟨rfl, hb1⟩
    go_wp2_with fail
    go_ret2
    exact ⟨.slice none 0 0, rfl, .inl ⟨_, _, rfl, rfl⟩, hb1⟩
end Go.Proofs.Ytbgfeonlnhlbfaa
