/- The reference's low, groups. -/
import Derived.Test.YtnocmkjaifjgfaaDoorRRefA
namespace Go.Proofs.YtnocmkjaifjgfaaDoor.R
open Go.RowKit

/-- A slice that the call has made. -/
def OutPost (w : World) (l : List UInt8) (e : Ending) (w' : World) : Prop := ∃ v, e = .returned v ∧ Row w' w.heap.size v l ∧ Below w.heap.size w w'

set_option maxHeartbeats 2000000 in
theorem low_any (n k : Nat) (w : World) (hn : n < 18446744073709551616) (hk8 : k ≤ 8) : Calls Tryd.prog 27 #[.int .u64 n, .int .i64 k] w (OutPost w (lowL n k)) := by
  go_enter Tryd.func27, Tryd.ntmps27
  go_wp2_with fail
  go_loopw [0, 5, 6] (fun nv b i wr => ∃ (j q : Nat) (l : List UInt8), j ≤ k ∧ nv = .int .u64 q ∧ q < 18446744073709551616 ∧ i = .int .i64 j ∧ l.length = j ∧ Hid (Row wr w.heap.size b l) ∧ Hid (Below w.heap.size w wr) ∧ Hid (lowL n k = l ++ lowL q (k - j))) (fun _ _ i _ => k - (intOf i).toNat)
  case atStart => exact ⟨0, n, [], by omega, rfl, hn, rfl, rfl, Lib.hid (Row.nil _ _), Lib.hid (Below.refl _ _), Lib.hid rfl⟩
  case round =>
    obtain ⟨j, q, l, hj, rfl, hq, rfl, hl, hR, hB, hE⟩ := hrel
    by_cases hlt : j < k
    · have HQ : ((q : Int) % 256) = ((UInt8.ofNat q).toNat : Nat) := by rw [u8_of]; omega
      have HB := Lib.hid ((Below.refl wr.heap.size wr).alloc (Nat.le_refl _) (.cells #[.int .u8 (UInt8.ofNat q).toNat] 5 (0, 0)))
      have HR2 := Lib.hid (hR.out.kept (Kept.of_below HB.out (fun _ => False)) (fun _ _ h => h))
      have HE2 := Lib.hid (show lowL n k = (l ++ [UInt8.ofNat q]) ++ lowL (q / 256) (k - (j + 1)) by
        rw [hE.out, show k - j = (k - (j + 1)) + 1 from by omega, lowL, List.append_assoc]; rfl)
      have HBY := Lib.hid (byte_new wr (UInt8.ofNat q) 5 (0, 0))
      have hsz := hB.out.size
      generalize UInt8.ofNat q = c at *
      go_wp2_with (at_builtin; refine wpList_append_row (by rfl) _ _ (by rfl) w.heap.size u5 _ l [c] (by rfl) (by rfl) HR2.out HBY.out (by simp) (by simp; omega) (by simp; omega) ?_; intro v2 w2 hr2 hm2)
      have HK := Lib.hid (hB.out.trans (((Kept.of_below HB.out _).trans hm2.kept).toBelow hsz (fun i hi e => by have := (hR.out.ge e).1; omega)))
      have HR3 := Lib.hid hr2
      go_roundw
      case rel => exact ⟨j + 1, q / 256, l ++ [c], by omega, by go_num, by omega, by go_num, by simp [hl], HR3, HK, HE2⟩
      case measure => simp [intOf]; omega
    · obtain rfl : j = k := by omega
      go_wp2_with fail
      go_ret
      exact ⟨_, rfl, by rw [hE.out, Nat.sub_self]; simpa [lowL] using hR.out, hB.out⟩

theorem Row.one (w : World) (c : UInt8) (x : Int) (h : x = (c.toNat : Nat)) : Row (w.alloc (.cells #[.int .u8 x] 5 (0, 0))) w.heap.size (.slice (some ⟨w.heap.size, 0, none⟩) 1 1) [c] := by
  subst h
  exact ⟨by simp [Lib.byteCells], .inr ⟨w.heap.size, 1, _, rfl, Nat.le_refl _, heap_alloc_new w _, Nat.le_refl _, by unfold maxLen; omega, by simp, by simp [Lib.byteCells]⟩⟩

end Go.Proofs.YtnocmkjaifjgfaaDoor.R
