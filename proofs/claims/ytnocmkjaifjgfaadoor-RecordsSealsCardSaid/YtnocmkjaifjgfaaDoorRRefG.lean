/- The reference's number, grouped. -/
import Derived.Test.YtnocmkjaifjgfaaDoorRRefA
import Derived.Test.YtnocmkjaifjgfaaDoorRDecA
namespace Go.Proofs.YtnocmkjaifjgfaaDoor.R
open Go.RowKit

theorem numL_drop {l : List UInt8} {k : Nat} (h : k < l.length) : numL (l.drop k) = l[k].toNat + 256 * numL (l.drop (k + 1)) := by
  rw [List.drop_eq_getElem_cons h]; rfl

set_option maxHeartbeats 2000000 in
theorem refNumber_any (v : Value) (l : List UInt8) (w : World) (hv : BytesAt w v l) (hl : l.length ≤ 8) :
    Calls Tryd.prog 23 #[v] w fun e w' => e = .returned (.int .u64 (numL l : Nat)) ∧ w = w' := by
  obtain ⟨s, d, rfl⟩ := hv.shape
  have HV := Lib.hid hv
  clear hv
  go_enter Tryd.func23, Tryd.ntmps23
  go_wp2_with fail
  go_loop [3, 4] (fun n i => ∃ k : Nat, k ≤ l.length ∧ i = .int .i64 ((k : Int) - 1) ∧ n = .int .u64 (numL (l.drop k) : Nat)) (fun _ i => (intOf i + 1).toNat)
  case atStart => exact ⟨l.length, by omega, rfl, by rw [List.drop_of_length_le (Nat.le_refl _)]; rfl⟩
  case round =>
    obtain ⟨k, hk, rfl, rfl⟩ := hrel
    cases k with
    | zero =>
      rw [show ((0 : Nat) : Int) - 1 = -1 from rfl]
      go_wp2_with fail
      go_ret
      exact ⟨rfl, rfl⟩
    | succ j =>
      rw [show ((j + 1 : Nat) : Int) - 1 = (j : Int) from by omega]
      rcases HV.out with ⟨a, c, hva, hl0⟩ | ⟨g, i, c, hva, hg, hcs⟩
      · rw [hl0] at hk; simp at hk
      · obtain ⟨rfl, rfl⟩ : s = some ⟨g, i, none⟩ ∧ d = c := by cases hva; exact ⟨rfl, rfl⟩
        have hjl : j < l.length := by omega
        have hcl := hcs j hjl
        have hby := byte_lt l j hjl
        have HS := Lib.hid (numL_drop hjl)
        have hnl := numL_lt (l.drop (j + 1))
        have hdl : (l.drop (j + 1)).length = l.length - (j + 1) := List.length_drop
        rw [hdl] at hnl
        have hp : 256 ^ (l.length - (j + 1)) ≤ 256 ^ 7 := Nat.pow_le_pow_right (by omega) (by omega)
        generalize l[j].toNat = z at *
        generalize numL (l.drop (j + 1)) = n at *
        clear hva hcs hdl
        have hn7 : n < 72057594037927936 := by omega
        clear hnl hp
        have hw1 : IntKind.u64.wrap (256 * (n : Int)) = 256 * n := by rw [IntKind.wrap_u64]; omega
        have hw2 : IntKind.u64.wrap (256 * (n : Int) + z) = 256 * n + z := by rw [IntKind.wrap_u64]; omega
        have hw3 : IntKind.u64.wrap (z : Int) = z := by rw [IntKind.wrap_u64]; omega
        go_wp2_with fail
        go_round
        case rel => exact ⟨j, by omega, by go_num, by rw [HS.out]; congr 1; omega⟩
        case measure => simp [intOf]

end Go.Proofs.YtnocmkjaifjgfaaDoor.R
