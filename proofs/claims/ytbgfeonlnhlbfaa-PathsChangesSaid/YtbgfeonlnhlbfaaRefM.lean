/- The reference: Parent, Join, Move. -/
import Derived.Test.YtbgfeonlnhlbfaaRef3
import Derived.Test.YtbgfeonlnhlbfaaParent
import Derived.Deep.RegionHeld3
import Derived.Deep.DrawnRows
namespace Go.Proofs.Ytbgfeonlnhlbfaa
open Go.RowKit
attribute [local go_sem ↓] Go.wp_at_zero Go.wp_at_succ

/-- 'append(v, x...)', v of the call's own, x a list of strings, at a step of a region that draws. -/
theorem step_append_strs {ops : Array Oper} {o : Oper} {a : Act} {w : World} {K : Act → World → Prop} {Q : Exit → Act → World → Prop} {E : Prop} (hgd : o.guard = none) (s x : Operand)
    (ho : o.op = .call { callee := .builtin .append, args := #[s, x], argTypes := #[22, 22] })
    (base : Nat) (v xv : Value) (n : Nat) (xs : List Value) (ss : List ByteArray) (hs : a.eval s = v) (hx : a.eval x = xv)
    (hown : w.ownsRow base 9 1 v n xs) (hv : ∃ g cap, v = .slice (some ⟨g, 0, none⟩) n cap) (hxs : StrsAt w xv ss) (hl : n + ss.length ≤ 100000) (hb : base ≤ w.heap.size)
    (h : ∀ g cap w', w'.ownsRow base 9 1 (.slice (some ⟨g, 0, none⟩) (n + ss.length) cap) (n + ss.length) (xs ++ cellsL ss) → w.grownBy w' v.ownBlock → K (a.put o.dst (.slice (some ⟨g, 0, none⟩) (n + ss.length) cap)) w') :
    if Region.wanted o (yielded ops a.tmps) = true then Oper.wp Try.prog o a w K Q else E := by
  have hw : Region.wanted o (yielded ops a.tmps) = true := by simp [Region.wanted, hgd]
  rw [if_pos hw]
  obtain ⟨g, cap, w', hr, h1, h2⟩ := run_append_strs (ty := o.type) hown hv hxs hl hb
  unfold Oper.wp
  simp [execOp, ho, resolve, invoke, builtin, hs, hx, hr, Result.andThen]
  exact h _ _ _ h1 h2

/-- The same in a plain region's list. -/
theorem wpList_append_strs {w : World} {ops : Array Oper} {rest : List Oper} {o : Oper} {a : Act} {Q : Exit → Act → World → Prop} (hgd : o.guard = none) (s x : Operand)
    (ho : o.op = .call { callee := .builtin .append, args := #[s, x], argTypes := #[22, 22] })
    (base : Nat) (v xv : Value) (n : Nat) (xs : List Value) (ss : List ByteArray) (hs : a.eval s = v) (hx : a.eval x = xv)
    (hown : w.ownsRow base 9 1 v n xs) (hv : ∃ g cap, v = .slice (some ⟨g, 0, none⟩) n cap) (hxs : StrsAt w xv ss) (hl : n + ss.length ≤ 100000) (hb : base ≤ w.heap.size)
    (h : ∀ g cap w', w'.ownsRow base 9 1 (.slice (some ⟨g, 0, none⟩) (n + ss.length) cap) (n + ss.length) (xs ++ cellsL ss) → w.grownBy w' v.ownBlock → wpList Try.prog ops Q rest (a.put o.dst (.slice (some ⟨g, 0, none⟩) (n + ss.length) cap)) w') :
    wpList Try.prog ops Q (o :: rest) a w := by
  obtain ⟨g, cap, w', hr, h1, h2⟩ := run_append_strs (ty := o.type) hown hv hxs hl hb
  exact wpList_append_run hgd s x 22 ho v xv _ w' hs hx hr (h g cap w' h1 h2)

theorem made0 (w : World) (base : Nat) (hb : base ≤ w.heap.size) : (w.alloc (.cells #[] 9)).ownsRow base 9 1 (.slice (some ⟨w.heap.size, 0, none⟩) 0 0) 0 [] :=
  World.ownsRow_made (base := base) (e := 9) (size := 1) w #[] 0 hb (by unfold maxLen; omega) rfl

set_option maxHeartbeats 4000000 in
set_option maxRecDepth 100000 in
theorem ParentR_any (v1 : Value) (ps : List ByteArray) (w : World) (h1 : StrsAt w v1 ps) (m1 : Modest ps) :
    Calls Try.prog 29 #[v1] w fun e w' => ∃ v, e = .returned (.tuple #[v, .string (parentL ps), .int .i64 (parentE ps)]) ∧ StrsAt w' v (parentP ps) ∧ Below w.heap.size w w' := by
  have HC := Lib.hid (checkR_any v1 ps w h1 m1)
  have H1 := Lib.hid h1
  by_cases h0 : checkE (bsL ps) = 0
  · rw [h0] at HC
    have HS := Lib.hid (checked_small h0)
    have hl8 := HS.out.1
    by_cases hn : ps = []
    · subst hn
      obtain ⟨a1, c1, rfl⟩ := h1.shape
      clear h0 h1 m1
      rw [show parentE [] = 4 by decide +kernel, show parentP [] = [] by decide +kernel, show parentL [] = ⟨#[]⟩ by decide +kernel]
      go_enter Try.func29, Try.ntmps29
      go_wp2_with fail
      refine HC.out.mono ?_
      rintro e w1 ⟨rfl, hb1⟩
      go_wp2_with fail
      go_ret3
      exact ⟨.slice none 0 0, rfl, .inl ⟨_, _, rfl, rfl⟩, hb1⟩
    · have hpos : 0 < ps.length := by cases ps with | nil => exact absurd rfl hn | cons a r => simp
      have HE := Lib.hid (show parentE ps = 0 by unfold parentE; rw [if_pos h0, if_neg hn])
      have HP := Lib.hid (show parentP ps = ps.take (ps.length - 1) by unfold parentP; rw [if_pos h0])
      have HL := Lib.hid (show parentL ps = ps[ps.length - 1] by unfold parentL; rw [if_pos h0, List.getLastD_eq_getLast?, List.getLast?_eq_getElem?, List.getElem?_eq_getElem (by omega)]; rfl)
      rw [HE.out, HP.out, HL.out]
      obtain ⟨m, hm⟩ : ∃ m, ps.length = m + 1 := ⟨ps.length - 1, by omega⟩
      have hmlt : m < ps.length := by omega
      obtain ⟨a1, c1, hv1, hc1⟩ := h1.cap
      subst hv1
      obtain ⟨g, o, rfl, hp⟩ := H1.out.at' m hmlt
      have HT : Hid (∀ W, Below w.heap.size w W → StrsAt W (.slice (some ⟨g, o, none⟩) m c1) (ps.take m)) := Lib.hid (fun W hb => by
        have := (H1.out.below hb).take m (by omega); exact this)
      obtain ⟨last, hlast⟩ : ∃ x, ps[m] = x := ⟨_, rfl⟩
      have hx0 : ps[ps.length - 1] = last := by rw [← hlast]; congr 1; omega
      rw [hx0, show ps.length - 1 = m by omega]
      have HTL : Hid ((ps.take m).length = m) := Lib.hid (by rw [List.length_take]; omega)
      obtain ⟨tk, htk⟩ : ∃ tk, ps.take m = tk := ⟨_, rfl⟩
      rw [htk] at HT HTL ⊢
      have hp' := fun W hb => (hp W hb).trans (by rw [hlast])
      rw [hm] at hc1 hl8 HC ⊢
      have HSP : Hid (∀ W, Below w.heap.size w W → W.cell? ⟨g, o + m, none⟩ = some (.string last)) := Lib.hid hp'
      have hne : ((((m + 1 : Nat)) : Int) - 1) = (m : Int) := by omega
      clear h0 hn h1 m1 hp hp' hx0 hlast htk
      have i0 : (0 : Int) ≤ (m : Int) := by omega
      have i1 : (m : Int) < (m : Int) + 1 := by omega
      have i3 : (m : Int) ≤ (c1 : Int) := by omega
      clear HE HP HL H1 hm hmlt hpos
      have HSD : Hid (∀ W', (W'.cell? ⟨g, o + m, none⟩ = some (.string last) ∧ Below w.heap.size w W') → (W'.drew.cell? ⟨g, o + m, none⟩ = some (.string last) ∧ Below w.heap.size w W'.drew)) := Lib.hid (fun W' h => ⟨h.1, h.2.trans ((drewN_bel W' 1).mono h.2.size)⟩)
      have HSA : Hid (∀ W' ob, (W'.cell? ⟨g, o + m, none⟩ = some (.string last) ∧ Below w.heap.size w W') → ((W'.alloc ob).cell? ⟨g, o + m, none⟩ = some (.string last) ∧ Below w.heap.size w (W'.alloc ob))) := Lib.hid (fun W' ob h => ⟨HSP.out _ (h.2.alloc h.2.size _), h.2.alloc h.2.size _⟩)
      go_enter Try.func29, Try.ntmps29
      go_wp2_with fail
      refine HC.out.mono ?_
      rintro e w1 ⟨rfl, hb1⟩
      have hs1 := hb1.size
      have HG := Lib.hid (show w1.cell? ⟨g, o + m, none⟩ = some (.string last) ∧ Below w.heap.size w w1 from ⟨HSP.out _ hb1, hb1⟩)
      go_wp2_with fail
      have HB2 : Hid (Below w.heap.size w (w1.alloc (.cells #[] 9)).drew) := Lib.hid (hb1.alloc hs1 _).drew
      have HO2 : Hid ((w1.alloc (.cells #[] 9)).drew.ownsRow w.heap.size 9 1 (.slice (some ⟨w1.heap.size, 0, none⟩) 0 0) 0 []) := Lib.hid (made0 w1 _ hs1).drew
      have HGR : Hid (∀ W2, (w1.alloc (.cells #[] 9)).drew.grownBy W2 (Value.slice (some ⟨w1.heap.size, 0, none⟩) 0 0).ownBlock → (W2.cell? ⟨g, o + m, none⟩ = some (.string last) ∧ Below w.heap.size w W2)) := Lib.hid (fun W2 hg => by
        have := HB2.out.grown hg HB2.out.size (fun j e => (HO2.out.lt j e).1)
        exact ⟨HSP.out _ this, this⟩)
      go_region_held3 (fun W' => W'.cell? ⟨g, o + m, none⟩ = some (.string last) ∧ Below w.heap.size w W') (first | assumption | exact HG.out | exact HSD.out _ (by assumption) | exact HSA.out _ _ (by assumption) | exact HGR.out _ hgrow)
        ((refine step_append_strs (by rfl) _ _ (by rfl) w.heap.size (.slice (some ⟨w1.heap.size, 0, none⟩) 0 0) (.slice (some ⟨g, o, none⟩) m c1) 0 [] tk (by rfl) (by rfl) HO2.out ⟨_, _, rfl⟩ (HT.out _ HB2.out) (by rw [HTL.out]; omega) HB2.out.size ?_; intro g2 cap2 w2 hown2 hgrow))
      all_goals go_wp2
      have HF : Hid (StrsAt w2 (.slice (some ⟨g2, 0, none⟩) tk.length cap2) tk) := Lib.hid (strs_of_row (base := w.heap.size) (by simpa using hown2))
      have hB := (HGR.out _ hgrow).2
      go_ret3
      exact ⟨.slice (some ⟨g2, 0, none⟩) tk.length cap2, rfl, HF.out, hB⟩
  · have HE := Lib.hid (show parentE ps = checkE (bsL ps) by unfold parentE; rw [if_neg h0])
    have HP := Lib.hid (show parentP ps = [] by unfold parentP; rw [if_neg h0])
    have HL := Lib.hid (show parentL ps = ⟨#[]⟩ by unfold parentL; rw [if_neg h0])
    rw [HE.out, HP.out, HL.out]
    obtain ⟨a1, c1, rfl⟩ := h1.shape
    obtain ⟨z, hz⟩ : ∃ z, z = checkE (bsL ps) := ⟨_, rfl⟩
    rw [← hz] at HC h0 ⊢
    have hz' : (z != 0) = true := by simpa using h0
    clear hz h1 m1
    go_enter Try.func29, Try.ntmps29
    go_wp2_with fail
    refine HC.out.mono ?_
    rintro e w1 ⟨rfl, hb1⟩
    go_wp2_with fail
    go_ret3
    exact ⟨.slice none 0 0, rfl, .inl ⟨_, _, rfl, rfl⟩, hb1⟩
set_option maxHeartbeats 400000 in
set_option maxRecDepth 100000 in
theorem JoinR_any (v1 : Value) (ps : List ByteArray) (s : ByteArray) (w : World) (h1 : StrsAt w v1 ps) (m1 : Modest ps) (hs : s.size ≤ maxLen) :
    Calls Try.prog 31 #[v1, .string s] w fun e w' => ∃ v, e = .returned (.tuple #[v, .int .i64 (JoinE ps s)]) ∧ StrsAt w' v (JoinP ps s) ∧ Below w.heap.size w w' := by
  have HC := Lib.hid (checkR_any v1 ps w h1 m1)
  have H1 := Lib.hid h1
  obtain ⟨a1, c1, rfl⟩ := h1.shape
  clear h1 m1
  by_cases h0 : checkE (bsL ps) = 0
  · by_cases hn : nameE s.data.toList = 0
    · have HN := Lib.hid (fun w => nameR_any s w hs)
      have hl8 : ps.length ≤ 8 := by have := (checkE_zero.1 h0).1; rwa [List.length_map] at this
      by_cases h8 : ps.length = 8
      · have HE := Lib.hid (show JoinE ps s = 3 by unfold JoinE concE; rw [if_pos h0, if_pos hn, if_pos (by simp; omega)])
        have HP := Lib.hid (show JoinP ps s = [] by unfold JoinP concP; rw [if_pos ⟨h0, hn⟩, if_pos (by simp; omega)])
        rw [HE.out, HP.out]
        rw [h0] at HC
        rw [hn] at HN
        clear h0 hn HE HP hl8
        have k8 : ((ps.length : Int) == 8) = true := by simp; omega
        clear h8
        go_enter Try.func31, Try.ntmps31
        go_wp2_with fail
        refine HC.out.mono ?_
        rintro e w1 ⟨rfl, hb1⟩
        go_wp2_with fail
        refine (HN.out w1).mono ?_
        rintro e w2 ⟨rfl, rfl⟩
        go_wp2_with fail
        go_ret2
        exact ⟨.slice none 0 0, rfl, .inl ⟨_, _, rfl, rfl⟩, hb1⟩
      · have HE := Lib.hid (show JoinE ps s = 0 by unfold JoinE concE; rw [if_pos h0, if_pos hn, if_neg (by simp; omega)])
        have HP := Lib.hid (show JoinP ps s = ps ++ [s] by unfold JoinP concP; rw [if_pos ⟨h0, hn⟩, if_neg (by simp; omega)])
        rw [HE.out, HP.out]
        rw [h0] at HC
        rw [hn] at HN
        clear h0 hn HE HP
        have k8 : ((ps.length : Int) == 8) = false := by simp; omega
        go_enter Try.func31, Try.ntmps31
        go_wp2_with fail
        refine HC.out.mono ?_
        rintro e w1 ⟨rfl, hb1⟩
        have hs1 := hb1.size
        go_wp2_with fail
        refine (HN.out w1).mono ?_
        rintro e w2 ⟨rfl, rfl⟩
        have HB2 : Hid (Below w.heap.size w (w1.alloc (.cells #[] 9))) := Lib.hid (hb1.alloc hs1 _)
        have HO2 := Lib.hid (made0 w1 _ hs1)
        have HP2 := Lib.hid (H1.out.below HB2.out)
        have HS1 := Lib.hid hs1
        go_wp2_with (at_builtin; first
          | (refine wpList_append_strs (by rfl) _ _ (by rfl) w.heap.size (.slice (some ⟨w1.heap.size, 0, none⟩) 0 0) (.slice a1 ps.length c1) 0 [] ps (by rfl) (by rfl) HO2.out ⟨_, _, rfl⟩ HP2.out (by omega) HB2.out.size ?_; intro g1 e1 w3 ho3 hg3; rw [Nat.zero_add, List.nil_append] at ho3)
          | (refine wpList_append_strs (by rfl) _ _ (by rfl) w.heap.size (.slice (some ⟨g1, 0, none⟩) ps.length e1) (.slice (some ⟨w3.heap.size, 0, none⟩) 1 1) ps.length (cellsL ps) [s] (by rfl) (by rfl) (ho3.alloc _) ⟨_, _, rfl⟩ (strs1 s w3) (by simp; omega) (by have := hg3.size; have := HS1.out; simp at *; omega) ?_; intro g2 e2 w5 ho5 hg5))
        have hb3 : Below w.heap.size w w3 := HB2.out.grown hg3 HB2.out.size (fun j e => (HO2.out.lt j e).1)
        have hb4 := hb3.alloc hb3.size (.cells #[.string s] 9)
        have hb5 := hb4.grown hg5 hb4.size (fun j e => ((ho3.alloc (.cells #[.string s] 9)).lt j e).1)
        have HF : Hid (StrsAt w5 (.slice (some ⟨g2, 0, none⟩) (ps.length + 1) e2) (ps ++ [s])) := Lib.hid (strs_of_row (base := w.heap.size) (by simpa [cellsL] using ho5))
        clear hb3 hb4 ho3 ho5
        go_ret2
        exact ⟨.slice (some ⟨g2, 0, none⟩) (ps.length + 1) e2, rfl, HF.out, hb5⟩
    · have HE := Lib.hid (show JoinE ps s = nameE s.data.toList by unfold JoinE; rw [if_pos h0, if_neg hn])
      have HP := Lib.hid (show JoinP ps s = [] by unfold JoinP; rw [if_neg (fun h => hn h.2)])
      have HN := Lib.hid (fun w => nameR_any s w hs)
      rw [HE.out, HP.out]
      rw [h0] at HC
      obtain ⟨z, hz⟩ : ∃ z, z = nameE s.data.toList := ⟨_, rfl⟩
      rw [← hz] at HN hn ⊢
      have hz' : (z != 0) = true := by simpa using hn
      have hz2 : (z == 0) = false := by simpa using hn
      clear h0 hz
      go_enter Try.func31, Try.ntmps31
      go_wp2_with fail
      refine HC.out.mono ?_
      rintro e w1 ⟨rfl, hb1⟩
      go_wp2_with fail
      refine (HN.out w1).mono ?_
      rintro e w2 ⟨rfl, rfl⟩
      go_wp2_with fail
      go_ret2
      exact ⟨.slice none 0 0, rfl, .inl ⟨_, _, rfl, rfl⟩, hb1⟩
  · have HE := Lib.hid (show JoinE ps s = checkE (bsL ps) by unfold JoinE; rw [if_neg h0])
    have HP := Lib.hid (show JoinP ps s = [] by unfold JoinP; rw [if_neg (fun h => h0 h.1)])
    rw [HE.out, HP.out]
    obtain ⟨z, hz⟩ : ∃ z, z = checkE (bsL ps) := ⟨_, rfl⟩
    rw [← hz] at HC h0 ⊢
    have hz' : (z != 0) = true := by simpa using h0
    have hz2 : (z == 0) = false := by simpa using h0
    clear hz
    go_enter Try.func31, Try.ntmps31
    go_wp2_with fail
    refine HC.out.mono ?_
    rintro e w1 ⟨rfl, hb1⟩
    go_wp2_with fail
    go_ret2
    exact ⟨.slice none 0 0, rfl, .inl ⟨_, _, rfl, rfl⟩, hb1⟩
end Go.Proofs.Ytbgfeonlnhlbfaa
