/- slices.Clone, copyOf, with; the reference's with. -/
import Derived.Test.YtkknelcolbdphaaChk
namespace Go.Proofs.Ytkknelcolbdphaa
open Go.RowKit
set_option maxRecDepth 100000
noncomputable def appL (ty : TypeId) (xs : Array Value) : Sem Value := Builtin.append_ #[31, 31] ty xs
theorem appL_eq (ty : TypeId) (xs : Array Value) : Builtin.append_ #[31, 31] ty xs = appL ty xs := rfl

/-- 'append([]bool{}, x...)': a copy in new memory. -/
theorem clone_run {w : World} {v : Value} {U : List Bool} (hv : BoolsAt w v U) (hL : U.length ≤ 1000) :
    ∃ g c w', (appL 31 #[.slice (some ⟨w.heap.size, 0, none⟩) 0 0, v]).run Try.prog (w.alloc (.cells #[] 4 (0, 0))) = .ok (.slice (some ⟨g, 0, none⟩) U.length c) w' ∧ OwnB w' w.heap.size (.slice (some ⟨g, 0, none⟩) U.length c) U ∧ Below w.heap.size w w' := by
  obtain ⟨i, hi, hz, hsize, hby⟩ := info_parts Try.infoBool
  have hb0 : Below w.heap.size w (w.alloc (.cells #[] 4 (0, 0))) := (Below.refl _ _).alloc (Nat.le_refl _) _
  have h0 : (w.alloc (.cells #[] 4 (0, 0))).ownsRow w.heap.size 4 1 (.slice (some ⟨w.heap.size, 0, none⟩) 0 0) 0 [] := ⟨by simp, .inr ⟨w.heap.size, 0, #[], rfl, Nat.le_refl _, heap_alloc_new w _, Nat.le_refl _, by unfold maxLen; omega, by simp, by simp⟩⟩
  rcases hv with ⟨a, c, rfl, rfl⟩ | ⟨g, o, c, rfl, hg, hc⟩
  · have hs : Src Try.prog i.size 31 (.slice a 0 c) 0 [] (w.alloc (.cells #[] 4 (0, 0))) := by
      cases a with
      | none => exact Src.ofNil _ Try.underlying31 c
      | some ad => exact Src.ofSlice _ Try.underlying31 ad 0 c [] (by simp) (fun j u h => by simp at h) (fun u h => by cases h)
    exact ⟨w.heap.size, 0, _, run_append_nothing _ _ _ 31 _ i Try.underlying31 hi _ 0 0 (Nat.le_refl _) _ hs, h0, hb0⟩
  · obtain ⟨v', w', hr, ho, hgr, hnil, hat⟩ := run_append_own_at (P := Try.prog) (w.alloc (.cells #[] 4 (0, 0))) w.heap.size 31 31 4 i (.bool false) 1 1 Try.underlying31 hi hz hsize hby rfl (by decide) _ 0 [] h0 ⟨g, o, none⟩ U.length c (U.map Value.bool) (by simp)
      (fun j u hj => by
        have hjl : j < U.length := by
          rcases Nat.lt_or_ge j (U.map Value.bool).length with hh | hh
          · rwa [List.length_map] at hh
          · rw [List.getElem?_eq_none hh] at hj; cases hj
        rw [addr_add0, hb0.cell (p := ⟨g, o + j, none⟩) hg, hc j hjl]
        rw [List.getElem?_map, List.getElem?_eq_getElem hjl] at hj
        exact hj) (by intro u hu; obtain ⟨_, _, rfl⟩ := List.mem_map.1 hu; rfl) (by unfold maxLen; omega) (by omega) (by simp)
    rw [Nat.zero_add, List.nil_append] at ho
    rcases ho.2 with ⟨hv0, h00⟩ | ⟨g', c', cur, rfl, _⟩
    · rw [hv0] at hnil; have := (hnil.1 rfl).1; cases this
    · exact ⟨g', c', w', hr, ho, hb0.grown hgr (by simp) (fun k e => by simp [Value.ownBlock] at e; omega)⟩
attribute [local go_sem ↓] appL_eq
theorem cloneB_any {w : World} {v : Value} {U : List Bool} (hv : BoolsAt w v U) (hL : U.length ≤ 1000) :
    Calls Try.prog 50 #[v] w fun e w' => ∃ v', e = .returned v' ∧ OwnB w' w.heap.size v' U ∧ Below w.heap.size w w' := by
  obtain ⟨a, c, rfl⟩ := hv.val
  obtain ⟨g, c', w', hr, ho, hb⟩ := clone_run hv hL
  have hq := Lib.run_eql_slice_nil (P := Try.prog) w 31 4 a U.length c 0 0 Try.underlying31
  have HO := Lib.hid ho
  have HB := Lib.hid hb
  have HV := Lib.hid hv
  clear ho hb hv
  cases a with
  | none =>
    have h0 : U = [] := by
      rcases HV.out with ⟨_, _, _, h⟩ | ⟨_, _, _, h, _⟩
      · exact h
      · cases h
    subst h0
    rw [List.length_nil] at *
    clear HV HO hr
    go_enter Try.func50, Try.ntmps50
    go_wp2
    go_ret
    exact ⟨_, rfl, World.ownsRow_nil _ _ _ _, Below.refl _ _⟩
  | some p =>
    go_enter Try.func50, Try.ntmps50
    go_wp2
    go_ret
    exact ⟨_, rfl, HO.out, HB.out⟩

theorem bodyRet_st1 {fn : Func} {p : Tmp} {T' : Nat} (h : fn.results = #[.cell p 33]) {tmps : Array Value} {w : World} {g : Nat} {cs : Array Value} (hp : tmps.getD p undef = .pointer (some ⟨g, 0, none⟩))
    (hg : Row w g cs T') (hsz : cs.size = 4) :
    (results fn tmps).run Try.prog w = .ok (.agg cs) w :=
  results_cell_row (P := Try.prog) h tmps w g T' cs (0, 0) _ hp hg Try.underlying33 rfl (by rw [szSt, hsz])
/-- Two boxes of states. -/
theorem box_two (l : Lay) (v : Value) (w : World) : ∃ w2, (w.alloc (.cells (stA l v) 33 (0, 0))).alloc (.cells zeroSt 33 (0, 0)) = w2 ∧
    Row w2 w.heap.size (stA l v) 33 ∧ Row w2 (w.heap.size + 1) zeroSt 33 ∧ Below w.heap.size w w2 := by
  refine ⟨_, rfl, (Row.new _ _ _).alloc _, ?_, ((Below.refl _ _).alloc (Nat.le_refl _) _).alloc (by simp) _⟩
  have := Row.new (w.alloc (.cells (stA l v) 33 (0, 0))) zeroSt 33
  rwa [World.size_alloc] at this
/-- A row of the call's own behind a cell of another block. -/
theorem OwnB.other {w : World} {base b o n : Nat} {v x : Value} {U : List Bool} (h : OwnB w base v U) (hn : n ≤ base) (hb : b < base) : OwnB (w.setCell ⟨b, o, none⟩ x) base v U :=
  ownsRow_setCell_below h hb _
def CopyPost (l : Lay) (U : List Bool) (w : World) (e : Ending) (w' : World) : Prop := ∃ v, e = .returned (.agg (stA l v)) ∧ OwnB w' w.heap.size v U ∧ Below w.heap.size w w'
set_option maxHeartbeats 1000000 in
theorem copyOf_any {w : World} {l : Lay} {v : Value} {U : List Bool} (hv : BoolsAt w v U) (hL : U.length ≤ 1000) :
    Calls Try.prog 41 #[.agg (stA l v)] w (CopyPost l U w) := by
  obtain ⟨s, c, rfl⟩ := hv.val
  obtain ⟨w2, hw2, hr1, hr2, hb2⟩ := box_two l (.slice s U.length c) w
  have HC := Lib.hid (cloneB_any (hv.below hb2 (Nat.le_refl _)) hL)
  have HB2 := Lib.hid hb2
  have HR1 := Lib.hid hr1
  have HR2 := Lib.hid hr2
  unfold stA at *
  obtain ⟨hx0, hx1, hx2, hx3⟩ := hr1.four
  clear hr1 hr2 hb2 hv
  go_enter Try.func41, Try.ntmps41
  go_wp2_with (rw [hw2])
  refine HC.out.mono ?_
  rintro e w' ⟨v', rfl, ho, hb⟩
  obtain ⟨s', c', rfl⟩ := ho.at_.val
  have HO := Lib.hid ho
  have HA := Lib.hid (HR1.out.below hb HR1.out.lt)
  have HZ := Lib.hid (HR2.out.below hb HR2.out.lt)
  have HB := Lib.hid (HB2.out.trans (hb.mono HB2.out.size))
  have hlt := HR2.out.lt
  have HLT : Hid (w.heap.size + 1 < w2.heap.size) := Lib.hid hlt
  have HSZ := Lib.hid hb.size
  clear hx0 hx1 hx2 hx3 hb ho hlt hw2
  obtain ⟨hx0, hx1, hx2, hx3⟩ := HA.out.four
  have hxf := HA.out.froz
  obtain ⟨hy0, hy1, hy2, hy3⟩ := HZ.out.four
  have hyf := HZ.out.froz
  go_wp2
  exact bodyPost_ret (bodyRet_st1 rfl rfl ((HZ.out.other (g := w.heap.size) (by omega)).sets4 _ _ _ _) rfl) rfl ⟨_, rfl,
    (((HO.out.other (b := w.heap.size) (n := 0) (Nat.zero_le _) (by have := HLT.out; omega)).sub (by have := HLT.out; omega)).sets4 (b := w.heap.size + 1) (by have := HLT.out; have := HSZ.out; simp; omega) (fun g o n c e => by
      have := (HO.out.lt g (by rw [e]; rfl)).1; have := HLT.out; omega) _ _ _ _), below_sets4 (below_sets HB.out _ (Nat.le_refl _) _ _) _ (by omega) _ _ _ _⟩

/-! ### with -/
theorem OwnB.addr {w : World} {base n c : Nat} {s : Option Addr} {U : List Bool} (h : OwnB w base (.slice s n c) U) (h0 : 0 < U.length) : ∃ g, s = some ⟨g, 0, none⟩ ∧ base ≤ g ∧ g < w.heap.size := by
  rcases h.2 with ⟨e, hn⟩ | ⟨g, cap, cur, e, hb, hg, _⟩
  · omega
  · cases e; exact ⟨g, rfl, hb, (Array.getElem?_eq_some_iff.1 hg).1⟩
theorem OwnB.set {w : World} {base g c : Nat} {U : List Bool} (h : OwnB w base (.slice (some ⟨g, 0, none⟩) U.length c) U) (k : Nat) (u : Bool) :
    OwnB (w.setCell ⟨g, k, none⟩ (.bool u)) base (.slice (some ⟨g, 0, none⟩) U.length c) (U.set k u) := by
  have := (World.ownsRow.stored h k (.bool u)).1
  unfold OwnB
  rw [List.length_set, List.map_set]
  exact this
theorem OwnB.cellB {w : World} {base g c : Nat} {U : List Bool} (h : OwnB w base (.slice (some ⟨g, 0, none⟩) U.length c) U) (k : Nat) (hk : k < U.length) : w.cell? ⟨g, k, none⟩ = some (.bool (U.getD k false)) := by
  rw [World.ownsRow.cellAt h k (by omega), List.getElem?_map, List.getElem?_eq_getElem hk, List.getD_eq_getElem?_getD, List.getElem?_eq_getElem hk]; rfl
theorem ret_st1 {l l' : Lay} {v : Value} (h : l = l') : Ending.returned (.agg (stA l v)) = .returned (.agg (stA l' v)) := by rw [h]
theorem take_snocN (L : List Nat) (k : Nat) (h : k < L.length) : L.take (k + 1) = L.take k ++ [L[k]] := by rw [List.take_succ_eq_append_getElem h]
set_option maxHeartbeats 2000000 in
theorem with_any {w : World} {l : Lay} {v vl : Value} {U : List Bool} {L : List Nat} {u : Bool} (hv : BoolsAt w v U) (hl : NatsAt w vl L) (hU : U.length ≤ 1000) (hL : L.length ≤ 100000) (hb : ∀ b ∈ L, b < U.length) :
    Calls Try.prog 43 #[.agg (stA l v), vl, .bool u] w (CopyPost l (withL U L u) w) := by
  obtain ⟨s, c, rfl⟩ := hv.val
  obtain ⟨sl, cl, rfl⟩ := hl.val
  obtain ⟨w2, hw2, hr1, hr2, hb2⟩ := box_two l (.slice s U.length c) w
  have HC := Lib.hid (copyOf_any (l := l) (hv.below hb2 (Nat.le_refl _)) hU)
  have HB2 := Lib.hid hb2
  have HR2 := Lib.hid hr2
  have HLL := Lib.hid (hl.below hb2 (Nat.le_refl _))
  have HBD := Lib.hid hb
  unfold stA at *
  obtain ⟨hx0, hx1, hx2, hx3⟩ := hr1.four
  clear hr1 hr2 hb2 hv hl hb
  go_enter Try.func43, Try.ntmps43
  go_wp2_with (rw [hw2])
  refine HC.out.mono ?_
  rintro e w' ⟨v', rfl, ho, hb⟩
  obtain ⟨s', c', rfl⟩ := ho.at_.val
  obtain ⟨w3, hw3⟩ : ∃ w3, w'.alloc (.cells (stA l (.slice s' U.length c')) 33 (0, 0)) = w3 := ⟨_, rfl⟩
  have HO : Hid (OwnB w3 w2.heap.size (.slice s' U.length c') (withL U (L.take 0) u)) := Lib.hid (by rw [← hw3, List.take_zero]; exact World.ownsRow.alloc ho _)
  have HT : Hid (Row w3 w'.heap.size (stA l (.slice s' U.length c')) 33) := Lib.hid (by rw [← hw3]; exact Row.new _ _ _)
  have HB3 : Hid (Below w2.heap.size w2 w3) := Lib.hid (by rw [← hw3]; exact hb.alloc hb.size _)
  have HN : Hid (w2.heap.size ≤ w'.heap.size ∧ w.heap.size + 1 < w2.heap.size ∧ w'.heap.size < w3.heap.size ∧ ∀ g, s' = some ⟨g, 0, none⟩ → g < w'.heap.size) := Lib.hid ⟨hb.size, HR2.out.lt, HT.out.lt, fun g e => (ho.lt g (by rw [e]; rfl)).2⟩
  clear hx0 hx1 hx2 hx3 ho hb
  have HW3 := Lib.hid hw3
  clear hw3 hw2
  unfold stA at HW3 ⊢
  go_wp2_with (rw [HW3.out])
  go_loopw [14] (fun i wr => ∃ k : Nat, k ≤ L.length ∧ i = .int .i64 k ∧ Hid (OwnB wr w2.heap.size (.slice s' U.length c') (withL U (L.take k) u)) ∧ Hid (Row wr w'.heap.size (stA l (.slice s' U.length c')) 33) ∧ Hid (Below w2.heap.size w2 wr)) (fun i _ => L.length - (intOf i).toNat)
  case atStart => exact ⟨0, Nat.zero_le _, rfl, HO, HT, HB3⟩
  case round =>
    obtain ⟨k, hk, rfl, hO, hT, hB⟩ := hrel
    clear HO HT HB3
    have hT2 := hT.out
    unfold stA at hT2
    obtain ⟨ht0, ht1, ht2, ht3⟩ := hT2.four
    clear hT2
    by_cases hlt : k < L.length
    · have hd : decide ((k : Int) < L.length) = true := by simpa using hlt
      obtain ⟨gl, ol, rfl, hgl, hcl⟩ := (HLL.out.below hB.out (Nat.le_refl _)).addr (by omega)
      have hck : wr.cell? ⟨gl, ol + k, none⟩ = some (.int .i64 ((L[k] : Nat) : Int)) := hcl k hlt
      have hbd := HBD.out L[k] (List.getElem_mem hlt)
      have hlen : (withL U (L.take k) u).length = U.length := withL_len _ _ _
      have HO2 : Hid (OwnB wr w2.heap.size (.slice s' (withL U (L.take k) u).length c') (withL U (L.take k) u)) := Lib.hid (by rw [hlen]; exact hO.out)
      have HLN := Lib.hid hlen
      obtain ⟨g, hs', hg1, hg2⟩ := HO2.out.addr (by omega)
      subst hs'
      have HNG := Lib.hid (HN.out.2.2.2 g rfl)
      have HST : Hid (withL U (L.take (k + 1)) u = (withL U (L.take k) u).set L[k] u) := Lib.hid (by rw [take_snocN L k hlt, withL_snoc])
      have hcg := HO2.out.cellB L[k] (by omega)
      have hfg : wr.frozen? ⟨g, L[k], none⟩ = false := World.ownsRow.frozenAt HO2.out _
      generalize L[k] = b at *
      clear hcl hgl hlen
      go_wp2
      go_roundw
      case rel => exact ⟨k + 1, by omega, by go_num, Lib.hid (by have := HO2.out.set b u; rw [HST.out]; rw [HLN.out] at this; exact this), Lib.hid (hT.out.other (by have := HNG.out; omega)), Lib.hid (hB.out.setCell (p := ⟨g, b, none⟩) hg1 _)⟩
      case measure => simp [intOf]; omega
    · obtain rfl : k = L.length := by omega
      have hd : decide ((L.length : Int) < L.length) = false := by simp
      have HZ := Lib.hid (HR2.out.below hB.out HR2.out.lt)
      obtain ⟨hy0, hy1, hy2, hy3⟩ := HZ.out.four
      have hyf := HZ.out.froz
      have HOE : Hid (OwnB wr w2.heap.size (.slice s' U.length c') (withL U L u)) := Lib.hid (by have := hO.out; rwa [List.take_length] at this)
      clear hlt
      go_wp2
      exact bodyPost_ret (bodyRet_st1 rfl rfl (HZ.out.sets4 _ _ _ _) rfl) rfl ⟨_, rfl,
        ((HOE.out.sub (by have := HN.out; omega)).sets4 (b := w.heap.size + 1) (by have := HN.out.2.1; have := hB.out.size; omega) (fun g o n c e => by
          have := (hO.out.lt g (by rw [e]; rfl)).1; have := HN.out.2.1; omega) _ _ _ _), below_sets4 (HB2.out.trans (hB.out.mono HB2.out.size)) _ (by omega) _ _ _ _⟩
end Go.Proofs.Ytkknelcolbdphaa
