/- isInRange. -/
import Derived.Test.YtbaibmndmcdfdaaDoorDClone
namespace Go.Proofs.YtbaibmndmcdfdaaDoor.D
open Go.RowKit Go.MapKept
attribute [local go_sem ↓] loadS_eq storeS_eq loadW_eq storeW_eq allocW_eq boxW_eq clearX_eq updX_eq appW_eq bslW_eq bldW_eq boxS_eq
set_option maxRecDepth 100000

/-- A state as the five cells of its struct. -/
def stA (vs vc : Value) (D : Dv) : Array Value := #[vs, vc, .int .i64 D.tk, .int .i64 D.pw, .bool D.off]
structure StateAt (w : World) (vs vc : Value) (D : Dv) : Prop where
  st : SecsAt w vs D.st
  ca : WrsAt w vc D.ca
theorem StateAt.below {n : Nat} {A B : World} {vs vc : Value} {D : Dv} (h : StateAt A vs vc D) (hk : Below n A B) (hn : A.heap.size ≤ n) : StateAt B vs vc D := ⟨h.st.below hk hn, h.ca.below hk hn⟩
theorem StateAt.kept {X : Nat → Prop} {A B : World} {vs vc : Value} {D : Dv} (h : StateAt A vs vc D) (hk : Kept X A B) (h1 : offX X vs) (h2 : offX X vc) : StateAt B vs vc D := ⟨h.st.kept hk h1, h.ca.kept hk h2⟩
theorem StateAt.vals {w : World} {vs vc : Value} {D : Dv} (h : StateAt w vs vc D) : (∃ a c, vs = .slice a D.st.length c) ∧ ∃ a c, vc = .slice a D.ca.length c := by
  obtain ⟨a, c, h1⟩ := h.st.val
  obtain ⟨a', c', h2⟩ := h.ca.val
  rw [List.length_map] at h1 h2
  exact ⟨⟨a, c, h1⟩, ⟨a', c', h2⟩⟩
/-- A block that holds a state. -/
theorem block_five {w : World} {b : Nat} {T : TypeId} {a0 a1 a2 a3 a4 : Value} (h : w.heap[b]? = some (.cells #[a0, a1, a2, a3, a4] T (0, 0))) : w.cell? ⟨b, 0, none⟩ = some a0 ∧ w.cell? ⟨b, 1, none⟩ = some a1 ∧ w.cell? ⟨b, 2, none⟩ = some a2 ∧ w.cell? ⟨b, 3, none⟩ = some a3 ∧ w.cell? ⟨b, 4, none⟩ = some a4 := by
  refine ⟨?_, ?_, ?_, ?_, ?_⟩ <;> simp [World.cell?, h]
theorem elems_some {sz n c : Nat} {w : World} {a : Option Addr} {L : List (List Value)} (h : ElemsAt sz w (.slice a n c) L) (h0 : 0 < L.length) : ∃ g o, a = some ⟨g, o, none⟩ := by
  rcases h with ⟨a', c', hv, rfl⟩ | ⟨g, o, c', hv, _, _⟩
  · simp at h0
  · cases hv; exact ⟨g, o, rfl⟩
theorem block_wr0 {w : World} {b : Nat} {T : TypeId} {x : Wr} (h : w.heap[b]? = some (.cells x.A T (0, 0))) : w.cell? ⟨b, 0, none⟩ = some (.int .i64 x.at_) := by
  rw [cell_of_row w b 0 _ T (0, 0) h]; rfl
theorem all_take_w {p : Wr → Bool} {L : List Wr} {k : Nat} (hk : k < L.length) (h : (L.take k).all p = true) (h2 : p L[k] = true) : (L.take (k + 1)).all p = true := by
  rw [List.take_succ_eq_append_getElem hk, List.all_append, h]; simp [h2]
theorem all_not_w {p : Wr → Bool} {L : List Wr} {k : Nat} (hk : k < L.length) (h2 : p L[k] = false) : L.all p = false := by
  cases hq : L.all p with
  | false => rfl
  | true => have := List.all_eq_true.1 hq L[k] (List.getElem_mem hk); rw [h2] at this; cases this

noncomputable def boxT (x : Value) : Sem Value := Instr.box 51 x
theorem boxT_eq (x : Value) : Instr.box 51 x = boxT x := rfl
theorem run_boxT (cs : Array Value) (w : World) : (boxT (.agg cs)).run Tryd.prog w = .ok (.pointer (some ⟨w.heap.size, 0, none⟩)) (w.alloc (.cells cs 51 (0, 0))) := by
  simp [boxT, Instr.box, newVar, newRow, Value.cells]
attribute [local go_sem ↓] boxT_eq
set_option maxHeartbeats 2000000 in
theorem isInRange_any {w : World} {vs vc : Value} {D : Dv} (h : StateAt w vs vc D) (hs : D.st.length ≤ maxLen) (hc : D.ca.length ≤ maxLen) :
    Calls Tryd.prog 48 #[.agg #[vs, vc, .int .i64 D.tk, .int .i64 D.pw, .bool D.off]] w fun e w' => e = .returned (.bool (rangeB D)) ∧ Below w.heap.size w w' := by
  unfold maxLen at hs hc
  obtain ⟨⟨a, c, rfl⟩, ⟨a', c', rfl⟩⟩ := h.vals
  have HC := Lib.hid (isCount_any (D.st.length : Int))
  have HP := Lib.hid (isPower_any D.pw)
  obtain ⟨w0, hw0⟩ : ∃ w0, w.alloc (.cells #[.slice a D.st.length c, .slice a' D.ca.length c', .int .i64 D.tk, .int .i64 D.pw, .bool D.off] 51 (0, 0)) = w0 := ⟨_, rfl⟩
  have hbx : (boxT (.agg #[.slice a D.st.length c, .slice a' D.ca.length c', .int .i64 D.tk, .int .i64 D.pw, .bool D.off])).run Tryd.prog w = .ok (.pointer (some ⟨w.heap.size, 0, none⟩)) w0 := by rw [← hw0]; exact run_boxT _ w
  have hB0 : Below w.heap.size w w0 := by rw [← hw0]; exact (Below.refl _ _).alloc (Nat.le_refl _) _
  have hblk : w0.heap[w.heap.size]? = some (.cells #[.slice a D.st.length c, .slice a' D.ca.length c', .int .i64 D.tk, .int .i64 D.pw, .bool D.off] 51 (0, 0)) := by rw [← hw0]; exact heap_alloc_new _ _
  have HST := Lib.hid (h.below hB0 (Nat.le_refl _))
  have HB0 := Lib.hid hB0
  have HBLK := Lib.hid hblk
  obtain ⟨k0, k1, k2, k3, k4⟩ := block_five hblk
  have hgt : w.heap.size < w0.heap.size := (Array.getElem?_eq_some_iff.1 hblk).1
  clear hw0 hB0 hblk h
  cases hct : isCt D.st.length with
  | false =>
    have HE : Hid (rangeB D = false) := Lib.hid (by unfold rangeB; simp [hct])
    rw [hct] at HC
    clear hct
    go_enter Tryd.func48, Tryd.ntmps48
    go_wp2_with fail
    refine (HC.out _).mono ?_
    rintro e w' ⟨rfl, rfl⟩
    go_wp2_with fail
    go_ret
    exact ⟨ret_bool HE.out.symm, HB0.out⟩
  | true =>
    rw [hct] at HC
    have hct2 : D.st.length ≤ 256 := by unfold isCt at hct; simp at hct; omega
    by_cases c1 : D.tk < 0
    · have d1 : decide (D.tk < 0) = true := by simpa using c1
      have HE : Hid (rangeB D = false) := Lib.hid (by unfold rangeB; simp [c1])
      clear hct
      go_enter Tryd.func48, Tryd.ntmps48
      go_wp2_with fail
      refine (HC.out _).mono ?_
      rintro e w' ⟨rfl, rfl⟩
      go_wp2_with fail
      go_ret
      exact ⟨ret_bool HE.out.symm, HB0.out⟩
    · have d1 : decide (D.tk < 0) = false := by simpa using c1
      by_cases c2 : 1000000000000 < D.tk
      · have d2 : decide (1000000000000 < D.tk) = true := by simpa using c2
        have HE : Hid (rangeB D = false) := Lib.hid (by unfold rangeB; simp [c2])
        clear hct
        go_enter Tryd.func48, Tryd.ntmps48
        go_wp2_with fail
        refine (HC.out _).mono ?_
        rintro e w' ⟨rfl, rfl⟩
        go_wp2_with fail
        go_ret
        exact ⟨ret_bool HE.out.symm, HB0.out⟩
      · have d2 : decide (1000000000000 < D.tk) = false := by simpa using c2
        cases hpw : isPw D.pw with
        | false =>
          have HE : Hid (rangeB D = false) := Lib.hid (by unfold rangeB; simp [hpw])
          rw [hpw] at HP
          clear hct hpw
          go_enter Tryd.func48, Tryd.ntmps48
          go_wp2_with fail
          refine (HC.out _).mono ?_
          rintro e w' ⟨rfl, rfl⟩
          go_wp2_with fail
          refine (HP.out _).mono ?_
          rintro e w' ⟨rfl, rfl⟩
          go_wp2_with fail
          go_ret
          exact ⟨ret_bool HE.out.symm, HB0.out⟩
        | true =>
          have HE : Hid (rangeB D = D.ca.all (fun w => inS D.st.length w.at_)) := Lib.hid (by unfold rangeB; simp [hpw, c1, c2, hct])
          rw [hpw] at HP
          have haw := run_allocW
          have hsw := run_storeW_new
          clear hct hpw c1 c2
          go_enter Tryd.func48, Tryd.ntmps48
          go_wp2_with fail
          refine (HC.out _).mono ?_
          rintro e w' ⟨rfl, rfl⟩
          go_wp2_with fail
          refine (HP.out _).mono ?_
          rintro e w' ⟨rfl, rfl⟩
          go_wp2_with fail
          clear k0 k1 k2 k3 k4
          go_loopw [29] (fun i wr => ∃ k : Nat, k ≤ D.ca.length ∧ i = .int .i64 k ∧ Hid ((D.ca.take k).all (fun w => inS D.st.length w.at_) = true) ∧ Hid (Below w0.heap.size w0 wr)) (fun i _ => D.ca.length - (intOf i).toNat)
          case atStart => exact ⟨0, Nat.zero_le _, rfl, Lib.hid rfl, Lib.hid (Below.refl _ _)⟩
          case round =>
            obtain ⟨k, hk, rfl, HA, HB⟩ := hrel
            have HBF : Hid (Below w.heap.size w wr) := Lib.hid (HB0.out.trans (HB.out.mono (Nat.le_of_lt hgt)))
            by_cases hlt : k < D.ca.length
            · obtain ⟨g, o, rfl⟩ := elems_some HST.out.ca (by rw [List.length_map]; omega)
              have hld := run_loadW_elem (HST.out.ca.below HB.out (Nat.le_refl _)) k hlt
              have hblk1 : (wr.alloc (.cells D.ca[k].A 95 (0, 0))).heap[wr.heap.size]? = some (.cells D.ca[k].A 95 (0, 0)) := heap_alloc_new _ _
              have hx0 := block_wr0 hblk1
              have hst0 : (wr.alloc (.cells D.ca[k].A 95 (0, 0))).cell? ⟨w.heap.size, 0, none⟩ = some (.slice a D.st.length c) :=
                (block_five ((((Below.refl wr.heap.size wr).alloc (Nat.le_refl _) (.cells D.ca[k].A 95 (0, 0))).block _ (Nat.lt_of_lt_of_le hgt HB.out.size)).trans ((HB.out.block _ hgt).trans HBLK.out))).1
              have HBN := Lib.hid (HB.out.trans (((Below.refl wr.heap.size wr).alloc (Nat.le_refl _) (.cells D.ca[k].A 95 (0, 0))).mono HB.out.size))
              have HBF2 := Lib.hid (HBF.out.trans (((Below.refl wr.heap.size wr).alloc (Nat.le_refl _) (.cells D.ca[k].A 95 (0, 0))).mono HBF.out.size))
              have hkl : (k : Int) < (D.ca.length : Int) := by omega
              clear hblk1
              by_cases e1 : D.ca[k].at_ < 0
              · have f1 : decide (D.ca[k].at_ < 0) = true := by simpa using e1
                have HN := Lib.hid (all_not_w (p := fun w => inS D.st.length w.at_) hlt (inS_no (by omega)))
                generalize D.ca[k] = x at *
                go_wp2
                go_ret
                exact ⟨ret_bool (by rw [HE.out, HN.out]), HBF2.out⟩
              · have f1 : decide (D.ca[k].at_ < 0) = false := by simpa using e1
                by_cases e2 : (D.st.length : Int) ≤ D.ca[k].at_
                · have f2 : decide ((D.st.length : Int) ≤ D.ca[k].at_) = true := by simpa using e2
                  have HN := Lib.hid (all_not_w (p := fun w => inS D.st.length w.at_) hlt (inS_no (by omega)))
                  generalize D.ca[k] = x at *
                  go_wp2
                  go_ret
                  exact ⟨ret_bool (by rw [HE.out, HN.out]), HBF2.out⟩
                · have f2 : decide ((D.st.length : Int) ≤ D.ca[k].at_) = false := by simpa using e2
                  have HN := Lib.hid (all_take_w (p := fun w => inS D.st.length w.at_) hlt HA.out (inS_mk (by omega) (by omega)))
                  generalize D.ca[k] = x at *
                  go_wp2
                  go_roundw
                  case rel => exact ⟨k + 1, by omega, by go_num, HN, HBN⟩
                  case measure => simp [intOf]; omega
            · have f1 : decide ((k : Int) < D.ca.length) = false := by simp; omega
              have HT := Lib.hid (take_all D.ca hlt)
              go_wp2
              go_ret
              exact ⟨ret_bool (by rw [HE.out]; have := HA.out; rw [HT.out] at this; exact this.symm), HBF.out⟩
end Go.Proofs.YtbaibmndmcdfdaaDoor.D
