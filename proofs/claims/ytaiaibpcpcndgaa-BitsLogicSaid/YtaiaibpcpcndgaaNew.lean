/- New maps; Len, Get, Set, Turn. -/
import Derived.Test.YtaiaibpcpcndgaaPut
namespace Go.Proofs.Ytaiaibpcpcndgaa
open Go.RowKit

theorem wordV_zero (n k : Nat) : wordV (List.replicate n false) k = 0 := by
  apply Nat.eq_of_testBit_eq
  intro j
  rw [Nat.zero_testBit]
  by_cases hj : j < 64
  · rw [wordV_bit _ _ _ hj, List.getD_eq_getElem?_getD, List.getElem?_replicate]
    split <;> rfl
  · exact wordV_high _ _ _ (by omega)

theorem mapCells_zero (b n : Nat) : mapCells b (List.replicate n false) = ⟨.pointer (some ⟨b, 0, none⟩) :: .int .i64 n :: List.replicate 64 (.int .u64 0)⟩ := by
  unfold mapCells
  rw [List.length_replicate]
  congr 3
  simp only [wordV_zero]
  rfl
theorem zeroMap (w : World) : Sem.run Try.prog (zeroValue 65) w = .ok (.agg #[.pointer none, .int .i64 0, .int .u64 0, .int .u64 0, .int .u64 0, .int .u64 0, .int .u64 0, .int .u64 0, .int .u64 0, .int .u64 0, .int .u64 0, .int .u64 0, .int .u64 0, .int .u64 0, .int .u64 0, .int .u64 0, .int .u64 0, .int .u64 0, .int .u64 0, .int .u64 0, .int .u64 0, .int .u64 0, .int .u64 0, .int .u64 0, .int .u64 0, .int .u64 0, .int .u64 0, .int .u64 0, .int .u64 0, .int .u64 0, .int .u64 0, .int .u64 0, .int .u64 0, .int .u64 0, .int .u64 0, .int .u64 0, .int .u64 0, .int .u64 0, .int .u64 0, .int .u64 0, .int .u64 0, .int .u64 0, .int .u64 0, .int .u64 0, .int .u64 0, .int .u64 0, .int .u64 0, .int .u64 0, .int .u64 0, .int .u64 0, .int .u64 0, .int .u64 0, .int .u64 0, .int .u64 0, .int .u64 0, .int .u64 0, .int .u64 0, .int .u64 0, .int .u64 0, .int .u64 0, .int .u64 0, .int .u64 0, .int .u64 0, .int .u64 0, .int .u64 0, .int .u64 0]) w := by kernel_rfl

set_option maxHeartbeats 400000 in
theorem blank_any (n : Nat) (w : World) (hn : n ≤ 4096) :
    Calls Try.prog 47 #[.int .i64 n] w fun e w' => e = .returned (.pointer (some ⟨w.heap.size, 0, none⟩)) ∧ MapAt w' w.heap.size (List.replicate n false) ∧ Below w.heap.size w w' ∧ w'.heap.size = w.heap.size + 1 := by
  have hz := zeroMap w
  go_enter Try.func47, Try.ntmps47
  go_wp2
  go_ret
  refine ⟨rfl, ⟨?_, by simpa using hn⟩, (Below.refl _ _).alloc (Nat.le_refl _) _, by simp⟩
  rw [mapCells_zero]
  exact heap_alloc_new w _

theorem new_any (n : Nat) (w : World) (hn : n ≤ 4096) :
    Calls Try.prog 15 #[.int .i64 n] w fun e w' => e = .returned (.tuple #[.pointer (some ⟨w.heap.size, 0, none⟩), .int .i64 0]) ∧ MapAt w' w.heap.size (List.replicate n false) ∧ Below w.heap.size w w' ∧ w'.heap.size = w.heap.size + 1 := by
  have HC := Lib.hid (blank_any n w hn)
  have d1 : decide ((n : Int) < 0) = false := by simp
  have d2 : decide ((4096 : Int) < n) = false := by simp; omega
  go_enter Try.func15, Try.ntmps15
  go_wp2_with fail
  refine HC.out.mono ?_
  rintro e w' ⟨rfl, hm, hb, hs⟩
  have HS := Lib.hid hs
  clear hs
  go_wp2_with fail
  go_ret2
  exact ⟨rfl, hm, hb, HS.out⟩
theorem new_no (n : Int) (w : World) (hn : n < 0 ∨ 4096 < n) :
    Calls Try.prog 15 #[.int .i64 n] w fun e w' => e = .returned (.tuple #[.pointer none, .int .i64 7]) ∧ w = w' := by
  rcases hn with hn | hn
  · have d1 : decide (n < 0) = true := by simpa using hn
    go_enter Try.func15, Try.ntmps15
    go_wp2_with fail
    go_ret2
    exact ⟨rfl, rfl⟩
  · have d1 : decide (n < 0) = false := by simp; omega
    have d2 : decide (4096 < n) = true := by simpa using hn
    go_enter Try.func15, Try.ntmps15
    go_wp2_with fail
    go_ret2
    exact ⟨rfl, rfl⟩

theorem len_any (b : Nat) (L : List Bool) (w : World) (h : MapAt w b L) :
    Calls Try.prog 19 #[.pointer (some ⟨b, 0, none⟩)] w fun e w' => e = .returned (.int .i64 L.length) ∧ w = w' := by
  have HC := Lib.hid (isMade_any b L w h)
  have hz := h.size
  clear h
  go_enter Try.func19, Try.ntmps19
  go_wp2_with fail
  refine HC.out.mono ?_
  rintro e w' ⟨rfl, rfl⟩
  go_wp2_with fail
  go_ret
  exact ⟨rfl, rfl⟩

theorem len_no (v : Value) (w : World) (hc : Calls Try.prog 51 #[v] w fun e w' => e = .returned (.bool false) ∧ w = w') :
    Calls Try.prog 19 #[v] w fun e w' => e = .returned (.int .i64 0) ∧ w = w' := by
  have HC := Lib.hid hc
  clear hc
  go_enter Try.func19, Try.ntmps19
  go_wp2_with fail
  refine HC.out.mono ?_
  rintro e w' ⟨rfl, rfl⟩
  go_wp2_with fail
  go_ret
  exact ⟨rfl, rfl⟩

/-! ### One bit -/
/-- The bit at any place: none where there is none. -/
def getV (L : List Bool) (i : Int) : Bool := if inR L.length i 1 then L.getD i.toNat false else false
/-- The bits when one is put at any place. -/
def setL (L : List Bool) (i : Int) (v : Bool) : List Bool := if inR L.length i 1 then L.set i.toNat v else L
theorem inR_one {n : Nat} {i : Int} (h : inR n i 1 = true) : ∃ k : Nat, i = k ∧ k < n := by
  unfold inR at h
  have := of_decide_eq_true h
  exact ⟨i.toNat, by omega, by omega⟩
theorem lookE_eq (n : Nat) (a m : Int) : lookE n a m = if inR n a m then 0 else 7 := rfl

theorem get_any (b : Nat) (L : List Bool) (i : Int) (w : World) (h : MapAt w b L) (l0 : -9223372036854775808 ≤ i) (l1 : i ≤ 9223372036854775807) :
    Calls Try.prog 32 #[.pointer (some ⟨b, 0, none⟩), .int .i64 i] w fun e w' => e = .returned (.tuple #[.bool (getV L i), .int .i64 (lookE L.length i 1)]) ∧ w = w' := by
  have HC := Lib.hid (lookAt_any b L i 1 w h l1 (by omega) l0 (by omega))
  cases hr : inR L.length i 1 with
  | false =>
    have HF : Hid (getV L i = false) := Lib.hid (by unfold getV; rw [hr]; rfl)
    have HE : lookE L.length i 1 = 7 := by rw [lookE_eq, hr]; rfl
    rw [HE] at HC; rw [HE]
    clear HE hr h
    go_enter Try.func32, Try.ntmps32
    go_wp2_with fail
    refine HC.out.mono ?_
    rintro e w' ⟨rfl, rfl⟩
    go_wp2_with fail
    go_ret2
    exact ⟨by rw [HF.out]; rfl, rfl⟩
  | true =>
    obtain ⟨k, rfl, hk⟩ := inR_one hr
    have HF : Hid (getV L k = L.getD k false) := Lib.hid (by unfold getV; rw [hr]; rfl)
    have HE : lookE L.length k 1 = 0 := by rw [lookE_eq, hr]; rfl
    rw [HE] at HC; rw [HE]
    have HB := Lib.hid (bit_any b L k w h (by have := h.2; omega))
    generalize L.getD k false = x at *
    clear HE hr h
    go_enter Try.func32, Try.ntmps32
    go_wp2_with fail
    refine HC.out.mono ?_
    rintro e w' ⟨rfl, rfl⟩
    go_wp2_with fail
    refine HB.out.mono ?_
    rintro e w' ⟨rfl, rfl⟩
    go_wp2_with fail
    go_ret2
    exact ⟨by rw [HF.out]; rfl, rfl⟩

theorem set_any (b : Nat) (L : List Bool) (i : Int) (v : Bool) (w : World) (h : MapAt w b L) (l0 : -9223372036854775808 ≤ i) (l1 : i ≤ 9223372036854775807) :
    Calls Try.prog 36 #[.pointer (some ⟨b, 0, none⟩), .int .i64 i, .bool v] w fun e w' => e = .returned (.int .i64 (lookE L.length i 1)) ∧ Upd b (setL L i v) w w' := by
  have HC := Lib.hid (lookAt_any b L i 1 w h l1 (by omega) l0 (by omega))
  cases hr : inR L.length i 1 with
  | false =>
    have HF : Hid (Upd b (setL L i v) w w) := Lib.hid (by unfold setL; rw [hr]; exact Upd.refl h)
    have HE : lookE L.length i 1 = 7 := by rw [lookE_eq, hr]; rfl
    rw [HE] at HC; rw [HE]
    clear HE hr h
    go_enter Try.func36, Try.ntmps36
    go_wp2_with fail
    refine HC.out.mono ?_
    rintro e w' ⟨rfl, rfl⟩
    go_wp2_with fail
    go_ret
    exact ⟨rfl, HF.out⟩
  | true =>
    obtain ⟨k, rfl, hk⟩ := inR_one hr
    have HF : Hid (setL L k v = L.set k v) := Lib.hid (by unfold setL; rw [hr]; rfl)
    have HE : lookE L.length k 1 = 0 := by rw [lookE_eq, hr]; rfl
    rw [HE] at HC; rw [HE]
    have HB := Lib.hid (put_any b L k v w h hk)
    clear HE hr h
    go_enter Try.func36, Try.ntmps36
    go_wp2_with fail
    refine HC.out.mono ?_
    rintro e w' ⟨rfl, rfl⟩
    go_wp2_with fail
    refine HB.out.mono ?_
    rintro e w' ⟨rfl, hu⟩
    go_wp2_with fail
    go_ret
    exact ⟨rfl, by rw [HF.out]; exact hu⟩

theorem turn_any (b : Nat) (L : List Bool) (i : Int) (w : World) (h : MapAt w b L) (l0 : -9223372036854775808 ≤ i) (l1 : i ≤ 9223372036854775807) :
    Calls Try.prog 37 #[.pointer (some ⟨b, 0, none⟩), .int .i64 i] w fun e w' => e = .returned (.int .i64 (lookE L.length i 1)) ∧ Upd b (setL L i (!getV L i)) w w' := by
  have HC := Lib.hid (lookAt_any b L i 1 w h l1 (by omega) l0 (by omega))
  cases hr : inR L.length i 1 with
  | false =>
    have HF : Hid (Upd b (setL L i (!getV L i)) w w) := Lib.hid (by unfold setL; rw [hr]; exact Upd.refl h)
    have HE : lookE L.length i 1 = 7 := by rw [lookE_eq, hr]; rfl
    rw [HE] at HC; rw [HE]
    clear HE hr h
    go_enter Try.func37, Try.ntmps37
    go_wp2_with fail
    refine HC.out.mono ?_
    rintro e w' ⟨rfl, rfl⟩
    go_wp2_with fail
    go_ret
    exact ⟨rfl, HF.out⟩
  | true =>
    obtain ⟨k, rfl, hk⟩ := inR_one hr
    have HF : Hid (setL L k (!getV L k) = L.set k (!L.getD k false)) := Lib.hid (by unfold setL getV; rw [hr]; rfl)
    have HE : lookE L.length k 1 = 0 := by rw [lookE_eq, hr]; rfl
    rw [HE] at HC; rw [HE]
    have HG := Lib.hid (bit_any b L k w h (by have := h.2; omega))
    have HB := Lib.hid (put_any b L k (!L.getD k false) w h hk)
    generalize L.getD k false = x at *
    clear HE hr h
    go_enter Try.func37, Try.ntmps37
    go_wp2_with fail
    refine HC.out.mono ?_
    rintro e w' ⟨rfl, rfl⟩
    go_wp2_with fail
    refine HG.out.mono ?_
    rintro e w' ⟨rfl, rfl⟩
    go_wp2_with fail
    refine HB.out.mono ?_
    rintro e w' ⟨rfl, hu⟩
    go_wp2_with fail
    go_ret
    exact ⟨rfl, by rw [HF.out]; exact hu⟩
end Go.Proofs.Ytaiaibpcpcndgaa
