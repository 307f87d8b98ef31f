/- checkList. -/
import Derived.Test.YtkknelcolbdphaaSame
namespace Go.Proofs.Ytkknelcolbdphaa
open Go.RowKit
set_option maxRecDepth 100000
attribute [local irreducible] World.setCells

/-- Which of the 256 places were met among the first k. -/
def metL (L : List Int) (k : Nat) : List Bool := (List.range 256).map fun (i : Nat) => decide ((i : Int) ∈ L.take k)
def metA (L : List Int) (k : Nat) : Array Value := ((metL L k).map Value.bool).toArray
theorem metA_get (L : List Int) (k i : Nat) (h : i < 256) : (metA L k)[i]? = some (.bool (decide ((i : Int) ∈ L.take k))) := by
  unfold metA metL
  rw [List.getElem?_toArray]
  simp [h]
theorem metA_zero (L : List Int) : metA L 0 = (List.replicate 256 (Value.bool false)).toArray := by
  unfold metA metL
  rw [List.take_zero]
  have h : (List.map Value.bool ((List.range 256).map fun (i : Nat) => decide ((i : Int) ∈ ([] : List Int)))) = List.replicate 256 (Value.bool false) := by
    refine List.eq_replicate_iff.2 ⟨by rw [List.length_map, List.length_map, List.length_range], fun b hb => ?_⟩
    obtain ⟨x, hx, rfl⟩ := List.mem_map.1 hb
    obtain ⟨y, _, rfl⟩ := List.mem_map.1 hx
    simp
  rw [h]
theorem metA_step (L : List Int) (k b : Nat) (hk : k < L.length) (hb : L.getD k 0 = (b : Int)) (h : b < 256) : (metA L k).setIfInBounds b (.bool true) = metA L (k + 1) := by
  have hg : L[k] = (b : Int) := by rw [← hb, List.getD_eq_getElem?_getD, List.getElem?_eq_getElem hk]; rfl
  unfold metA metL
  rw [List.setIfInBounds_toArray]
  congr 1
  apply List.ext_getElem
  · simp
  · intro i h1 h2
    simp at h1
    rw [List.getElem_set]
    simp only [List.getElem_map, List.getElem_range]
    rw [List.take_succ_eq_append_getElem hk, hg]
    by_cases e : b = i
    · subst e; simp
    · rw [if_neg e]
      have : ((i : Int) = (b : Int)) = False := by simp; omega
      simp [this]
theorem Try.infoMet : (Try.prog.info? 79).map (fun i => (i.zero, i.size, i.bytes)) = some (some (.agg (metA [] 0)), 256, 256) := by kernel_rfl
noncomputable def allocB : Sem Value := Instr.alloc 79 true (.tuple #[])
theorem allocB_eq : Instr.alloc 79 true (.tuple #[]) = allocB := rfl
theorem run_allocB (w : World) : allocB.run Try.prog w = .ok (.pointer (some ⟨w.heap.size, 0, none⟩)) (w.alloc (.cells (metA [] 0) 79 (0, 0))) := by
  obtain ⟨i, hi, hz0, _, _⟩ := info_parts Try.infoMet
  simp [allocB, Instr.alloc, zeroValue, typeInfo, hi, hz0, newVar, newRow, Value.cells]
theorem metA_nil (L : List Int) : metA [] 0 = metA L 0 := by rw [metA_zero, metA_zero]
theorem listE_stop {n : Int} {L : List Int} {k : Nat} (hk : k < L.length) (h0 : listN n L k = 0) (h : okAt n L k ≠ 0) : listE n L = okAt n L k := by
  have h1 : listN n L (k + 1) = okAt n L k := by rw [listN, if_pos h0]
  unfold listE
  rw [listN_stop (k := k + 1) (by rw [h1]; exact h) L.length (by omega), h1]
attribute [local go_sem ↓] allocB_eq
set_option maxHeartbeats 2000000 in
theorem checkList_any {w : World} {v : Value} {L : List Int} (n : Nat) (hv : IntsAt w v L) (hn : n ≤ 256) (hL : L.length ≤ 100000) :
    Calls Try.prog 52 #[v, .int .i64 (n : Int)] w fun e w' => e = .returned (.int .i64 (listE n L)) ∧ Below w.heap.size w w' := by
  obtain ⟨s, c, rfl⟩ := hv.val
  have HI := Lib.hid isFrom_any
  obtain ⟨w0, hw0⟩ : ∃ w0, w.alloc (.cells (metA [] 0) 79 (0, 0)) = w0 := ⟨_, rfl⟩
  have ham := run_allocB w
  rw [hw0] at ham
  have HB0 : Hid (Below w.heap.size w w0) := Lib.hid (by rw [← hw0]; exact (Below.refl _ _).alloc (Nat.le_refl _) _)
  have HR0 : Hid (Row w0 w.heap.size (metA L 0) 79) := Lib.hid (by rw [← hw0, ← metA_nil L]; exact Row.new _ _ _)
  have HV := Lib.hid hv
  clear hw0 hv
  go_enter Try.func52, Try.ntmps52
  go_wp2
  go_loopw [10] (fun i wr => ∃ k : Nat, k ≤ L.length ∧ i = .int .i64 k ∧ Hid (listN n L k = 0) ∧ Hid (Row wr w.heap.size (metA L k) 79) ∧ Hid (Below w.heap.size w wr)) (fun i _ => L.length - (intOf i).toNat)
  case atStart => exact ⟨0, Nat.zero_le _, rfl, Lib.hid rfl, HR0, HB0⟩
  case round =>
    obtain ⟨k, hk, rfl, hN, hR, hB⟩ := hrel
    clear HR0
    by_cases hlt : k < L.length
    · have hd : decide ((k : Int) < L.length) = true := by simpa using hlt
      obtain ⟨g, o, rfl, h1⟩ := (HV.out.below hB.out (Nat.le_refl _)).at_ k hlt
      have hgd : L[k] = L.getD k 0 := by rw [List.getD_eq_getElem?_getD, List.getElem?_eq_getElem hlt]; rfl
      rw [hgd] at h1
      unfold intV at h1
      have HS := Lib.hid (listE_stop (n := n) hlt hN.out)
      have HM := Lib.hid (metA_step L k)
      have HOK : Hid (okAt n L k = if inB (L.getD k 0) 0 (n - 1) then (if L.getD k 0 ∈ L.take k then 8 else 0) else 7) := Lib.hid rfl
      cases hin : inB (L.getD k 0) 0 (n - 1) with
      | false =>
        have HE : Hid (listE n L = 7) := Lib.hid (by rw [HS.out (by rw [HOK.out, hin]; simp), HOK.out, hin]; rfl)
        clear hgd
        generalize L.getD k 0 = x at *
        go_wp2_with fail
        refine (HI.out _ _ _ _).mono ?_
        rintro e w' ⟨rfl, rfl⟩
        rw [hin]
        go_wp2_with fail
        go_ret
        exact ⟨ret_int HE.out.symm, hB.out⟩
      | true =>
        have hin2 := hin
        unfold inB at hin2
        rw [Bool.and_eq_true, decide_eq_true_eq, decide_eq_true_eq] at hin2
        obtain ⟨b, hb⟩ := Int.eq_ofNat_of_zero_le hin2.1
        have hbn : b < 256 := by omega
        have HCB : Hid (L.getD k 0 = (b : Int)) := Lib.hid hb
        rw [hb] at h1 hin HOK
        have hcb := hR.out.cell b _ (metA_get L k b hbn)
        have hfb := hR.out.froz b
        by_cases hm : (b : Int) ∈ L.take k
        · have HE : Hid (listE n L = 8) := Lib.hid (by rw [HS.out (by rw [HOK.out, hin, if_pos rfl, if_pos hm]; decide), HOK.out, hin, if_pos rfl, if_pos hm])
          rw [decide_eq_true hm] at hcb
          clear hgd hm hin2 hb
          go_wp2_with fail
          refine (HI.out _ _ _ _).mono ?_
          rintro e w' ⟨rfl, rfl⟩
          rw [hin]
          go_wp2_with fail
          go_ret
          exact ⟨ret_int HE.out.symm, hB.out⟩
        · have HN1 : Hid (listN n L (k + 1) = 0) := Lib.hid (by rw [listN, if_pos hN.out, HOK.out, hin, if_pos rfl, if_neg hm])
          have HR1 : Hid (Row (wr.setCell ⟨w.heap.size, b, none⟩ (.bool true)) w.heap.size (metA L (k + 1)) 79) := Lib.hid (by rw [← HM.out b hlt HCB.out hbn]; exact hR.out.set b _)
          rw [decide_eq_false hm] at hcb
          clear hgd hm hin2 hb
          go_wp2_with fail
          refine (HI.out _ _ _ _).mono ?_
          rintro e w' ⟨rfl, rfl⟩
          rw [hin]
          go_wp2_with fail
          go_roundw
          case rel => exact ⟨k + 1, by omega, by go_num, HN1, HR1, below_sets hB.out _ (Nat.le_refl _) _ _⟩
          case measure => simp [intOf]; omega
    · obtain rfl : k = L.length := by omega
      have hd : decide ((L.length : Int) < L.length) = false := by simp
      go_wp2
      go_ret
      exact ⟨ret_int hN.out.symm, hB.out⟩
end Go.Proofs.Ytkknelcolbdphaa
