/- The reference's low, groups. -/
import Derived.Test.YtnocmkjaifjgfaaRRefA
namespace Go.Proofs.Ytnocmkjaifjgfaa.R
open Go.RowKit

/-- A slice that the call has made. -/
def OutPost (w : World) (l : List UInt8) (e : Ending) (w' : World) : Prop := ∃ v, e = .returned v ∧ Row w' w.heap.size v l ∧ Below w.heap.size w w'

set_option maxHeartbeats 2000000 in
theorem low_any (n k : Nat) (w : World) (hn : n < 18446744073709551616) (hk8 : k ≤ 8) : Calls Try.prog 28 #[.int .u64 n, .int .i64 k] w (OutPost w (lowL n k)) := by
  go_enter Try.func28, Try.ntmps28
  go_wp2_with fail
  go_loopw [0, 5, 6] (fun nv b i wr => ∃ (j q : Nat) (l : List UInt8), j ≤ k ∧ nv = .int .u64 q ∧ q < 18446744073709551616 ∧ i = .int .i64 j ∧ l.length = j ∧ Hid (Row wr w.heap.size b l) ∧ Hid (Below w.heap.size w wr) ∧ Hid (lowL n k = l ++ lowL q (k - j))) (fun _ _ i _ => k - (intOf i).toNat)
  case atStart => exact ⟨0, n, [], by omega, rfl, hn, rfl, rfl, Lib.hid (Row.nil _ _), Lib.hid (Below.refl _ _), Lib.hid rfl⟩
  case round =>
    obtain ⟨j, q, l, hj, rfl, hq, rfl, hl, hR, hB, hE⟩ := hrel
    by_cases hlt : j < k
    · have HQ : ((q : Int) % 256) = ((UInt8.ofNat q).toNat : Nat) := by rw [u8_of]; omega
      have HB := Lib.hid ((Below.refl wr.heap.size wr).alloc (Nat.le_refl _) (.cells #[.int .u8 (UInt8.ofNat q).toNat] 5 (0, 0)))
      have HR2 := Lib.hid (hR.out.kept (Kept.of_below HB.out (fun _ => False)) (fun _ _ h => h))
      have HE2 := Lib.hid (show lowL n k = (l ++ [UInt8.ofNat q]) ++ lowL (q / 256) (k - (j + 1)) by
        rw [hE.out, show k - j = (k - (j + 1)) + 1 from by omega, lowL, List.append_assoc]; rfl)
      have HBY := Lib.hid (byte_new wr (UInt8.ofNat q) 5 (0, 0))
      have hsz := hB.out.size
      generalize UInt8.ofNat q = c at *
      go_wp2_with (at_builtin; refine wpList_append_row (by rfl) _ _ (by rfl) w.heap.size u5 _ l [c] (by rfl) (by rfl) HR2.out HBY.out (by simp) (by simp; omega) (by simp; omega) ?_; intro v2 w2 hr2 hm2)
      have HK := Lib.hid (hB.out.trans (((Kept.of_below HB.out _).trans hm2.kept).toBelow hsz (fun i hi e => by have := (hR.out.ge e).1; omega)))
      have HR3 := Lib.hid hr2
      go_roundw
      case rel => exact ⟨j + 1, q / 256, l ++ [c], by omega, by go_num, by omega, by go_num, by simp [hl], HR3, HK, HE2⟩
      case measure => simp [intOf]; omega
    · obtain rfl : j = k := by omega
      go_wp2_with fail
      go_ret
      exact ⟨_, rfl, by rw [hE.out, Nat.sub_self]; simpa [lowL] using hR.out, hB.out⟩

theorem Row.one (w : World) (c : UInt8) (x : Int) (h : x = (c.toNat : Nat)) : Row (w.alloc (.cells #[.int .u8 x] 5 (0, 0))) w.heap.size (.slice (some ⟨w.heap.size, 0, none⟩) 1 1) [c] := by
  subst h
  exact ⟨by simp [Lib.byteCells], .inr ⟨w.heap.size, 1, _, rfl, Nat.le_refl _, heap_alloc_new w _, Nat.le_refl _, by unfold maxLen; omega, by simp, by simp [Lib.byteCells]⟩⟩

attribute [local go_sem ↓] appB_eq
set_option maxHeartbeats 2000000 in
theorem refGroups_in : ∀ (f n : Nat) (w : World), n < 2 * 128 ^ f → f ≤ 9 → Calls Try.prog 27 #[.int .u64 n] w (OutPost w (grpF f n)) := by
  intro f
  induction f with
  | zero =>
    intro n w hn _
    simp at hn
    have h1 : decide ((n : Int) < 128) = true := decide_eq_true (by omega)
    have HQ := Lib.hid (show (n : Int) = ((UInt8.ofNat n).toNat : Nat) by rw [u8_of]; omega)
    have HO := Lib.hid (Row.one w (UInt8.ofNat n) n HQ.out)
    go_enter Try.func27, Try.ntmps27
    go_wp2_with fail
    go_ret
    exact ⟨_, rfl, HO.out, (Below.refl _ _).alloc (Nat.le_refl _) _⟩
  | succ f ih =>
    intro n w hn hf
    by_cases h : n < 128
    · have h1 : decide ((n : Int) < 128) = true := decide_eq_true (by omega)
      have HQ := Lib.hid (show (n : Int) = ((UInt8.ofNat n).toNat : Nat) by rw [u8_of]; omega)
      have HO := Lib.hid (Row.one w (UInt8.ofNat n) n HQ.out)
      have HE := Lib.hid (show grpF (f + 1) n = [UInt8.ofNat n] by rw [grpF, if_pos h])
      clear ih hn
      go_enter Try.func27, Try.ntmps27
      go_wp2_with fail
      go_ret
      exact ⟨_, rfl, by rw [HE.out]; exact HO.out, (Below.refl _ _).alloc (Nat.le_refl _) _⟩
    · have h1 : decide ((n : Int) < 128) = false := decide_eq_false (by omega)
      have HQ : ((n : Int) % 128 + 128) = ((UInt8.ofNat (n % 128 + 128)).toNat : Nat) := by rw [u8_of]; omega
      have HE := Lib.hid (show grpF (f + 1) n = [UInt8.ofNat (n % 128 + 128)] ++ grpF f (n / 128) by rw [grpF, if_neg h]; rfl)
      have h64 : n < 18446744073709551616 := by
        have : 128 ^ (f + 1) ≤ 128 ^ 9 := Nat.pow_le_pow_right (by omega) hf
        omega
      rw [Nat.pow_succ] at hn
      have HIH := Lib.hid (fun W => ih (n / 128) W (by omega) (by omega))
      unfold OutPost at HIH
      clear ih hn h
      generalize UInt8.ofNat (n % 128 + 128) = c at *
      have HB := Lib.hid ((Below.refl w.heap.size w).alloc (Nat.le_refl _) (.cells #[.int .u8 c.toNat] 5 (0, 0)))
      have HO := Lib.hid (Row.one w c c.toNat rfl)
      have hdiv : IntKind.u64.wrap ((n : Int) / 128) = ((n / 128 : Nat) : Int) := by rw [IntKind.wrap_u64]; omega
      have HLN := Lib.hid (grpF_len f (n / 128))
      go_enter Try.func27, Try.ntmps27
      go_wp2_with fail
      refine (HIH.out _).mono ?_
      rintro e w2 ⟨v, rfl, hv, hB2⟩
      have hl := HLN.out
      obtain ⟨i0, hi, hz0, hz1, hz2⟩ := info_parts infoByte
      have hB02 := HB.out.trans (hB2.mono HB.out.size)
      obtain ⟨g, cc, w3, hr, ho, hk⟩ := app_src (ty := 25) Try.underlying25 hi hz0 hz1 hz2 rfl (by decide) (n := 1) (HO.out.kept (Kept.of_below hB2 (fun _ => False)) (fun _ _ h => h)) (srcBytes hv.at_) (by omega) (by omega) hB02.size
      have HB3 := Lib.hid (hB02.trans (hk.toBelow hB02.size (fun i hi e => by have := (HO.out.ge rfl).1; omega)))
      have HR3 : Hid (Row w3 w.heap.size (.slice (some ⟨g, 0, none⟩) (1 + (grpF f (n / 128)).length) cc) ([c] ++ grpF f (n / 128))) := Lib.hid (by
        unfold Row
        rw [List.length_append, byteCells_append]
        exact ho)
      obtain ⟨a2, d2, rfl⟩ := hv.shape
      have hr' : Sem.run Try.prog (appB 25 #[.slice (some ⟨w.heap.size, 0, none⟩) 1 1, .slice a2 (grpF f (n / 128)).length d2]) w2 = .ok (.slice (some ⟨g, 0, none⟩) (1 + (grpF f (n / 128)).length) cc) w3 := hr
      clear hv hB2 hB02 hk ho hr hi hz0 hz1 hz2
      generalize (grpF f (n / 128)).length = m at *
      go_wp2_with fail
      go_ret
      exact ⟨_, rfl, by rw [HE.out]; exact HR3.out, HB3.out⟩
theorem refGroups_any (n : Nat) (w : World) (hn : n < 18446744073709551616) : Calls Try.prog 27 #[.int .u64 n] w (OutPost w (grpL n)) := refGroups_in 9 n w (by simpa using hn) (Nat.le_refl _)
end Go.Proofs.Ytnocmkjaifjgfaa.R
