/- The reference's Pad; Pad at numbers that no padding has. (The seat with cards.) -/
import Derived.Test.YtnocmkjaifjgfaaDoorRRefT
import Derived.Test.YtnocmkjaifjgfaaDoorRPad3
namespace Go.Proofs.YtnocmkjaifjgfaaDoor.R
open Go.RowKit
attribute [local go_sem ↓] appB_eq

theorem pad_out (a : Option Addr) (d : Nat) (l : List UInt8) (z : Int) (w : World) (hz : z < 1 ∨ 4000 < z) :
    Calls Tryd.prog 9 #[.slice a l.length d, .int .i64 z] w fun e w' => e = .returned (.tuple #[.slice none 0 0, .int .i64 7]) ∧ w = w' := by
  by_cases h1 : z < 1
  · have d1 : decide (z < 1) = true := decide_eq_true h1
    go_enter Tryd.func9, Tryd.ntmps9
    go_wp2_with fail
    go_ret2
    exact ⟨rfl, rfl⟩
  · have d1 : decide (z < 1) = false := decide_eq_false h1
    have d2 : decide (4000 < z) = true := decide_eq_true (by omega)
    go_enter Tryd.func9, Tryd.ntmps9
    go_wp2_with fail
    go_ret2
    exact ⟨rfl, rfl⟩
theorem refPad_out (a : Option Addr) (d : Nat) (l : List UInt8) (z : Int) (w : World) (hz : z < 1 ∨ 4000 < z) :
    Calls Tryd.prog 10 #[.slice a l.length d, .int .i64 z] w fun e w' => e = .returned (.tuple #[.slice none 0 0, .int .i64 7]) ∧ w = w' := by
  by_cases h1 : z < 1
  · have d1 : decide (z < 1) = true := decide_eq_true h1
    go_enter Tryd.func10, Tryd.ntmps10
    go_wp2_with fail
    go_ret2
    exact ⟨rfl, rfl⟩
  · have d1 : decide (z < 1) = false := decide_eq_false h1
    have d2 : decide (4000 < z) = true := decide_eq_true (by omega)
    go_enter Tryd.func10, Tryd.ntmps10
    go_wp2_with fail
    go_ret2
    exact ⟨rfl, rfl⟩

set_option maxHeartbeats 2000000 in
set_option maxRecDepth 100000 in
theorem refPad_any (a : Option Addr) (d : Nat) (l : List UInt8) (n : Nat) (w : World) (hv : BytesAt w (.slice a l.length d) l) (hl : l.length ≤ 800000) (hn1 : 1 ≤ n) (hn : n ≤ 4000) :
    Calls Tryd.prog 10 #[.slice a l.length d, .int .i64 n] w fun e w' => ∃ v, e = .returned (.tuple #[v, .int .i64 (padE l n : Nat)]) ∧ BytesAt w' v (padL l n) ∧ Below w.heap.size w w' := by
  have HL := Lib.hid (show padL l n = if padE l n = 0 then l ++ 1 :: List.replicate (n - l.length - 1) 0 else [] from rfl)
  have d1 : decide ((n : Int) < 1) = false := decide_eq_false (by omega)
  have d2 : decide ((4000 : Int) < n) = false := decide_eq_false (by omega)
  by_cases h3 : n ≤ l.length
  · have d3 : decide (n ≤ l.length) = true := decide_eq_true (by omega)
    have HE := Lib.hid (show padE l n = 3 by unfold padE; rw [if_neg (by omega), if_pos h3])
    clear h3 hv
    go_enter Tryd.func10, Tryd.ntmps10
    go_wp2_with fail
    go_ret2
    exact ⟨_, by rw [HE.out]; rfl, by rw [HL.out, if_neg (by rw [HE.out]; decide)]; exact BytesAt.none_ _ _, Below.refl _ _⟩
  have d3 : decide (n ≤ l.length) = false := decide_eq_false (by omega)
  have HE := Lib.hid (show padE l n = 0 by unfold padE; rw [if_neg (by omega), if_neg h3])
  have hln : l.length < n := by omega
  obtain ⟨g1, c1, w1, hr1, ho1, hb1⟩ := one_app hv (by omega)
  have hA1 := (Below.refl w1.heap.size w1).alloc (Nat.le_refl _) (.cells #[.int .u8 1] 5 (0, 0))
  obtain ⟨v2, w2, hr2, ho2, hm2⟩ := run_append_row (ty := 22) (ho1.kept (Kept.of_below hA1 (fun _ => False)) (fun _ _ h => h)) (byte_new w1 1 5 (0, 0)) (by simp) (by simp; omega) (Nat.le_trans hb1.size hA1.size)
  obtain ⟨a2, d2', rfl⟩ := ho2.shape1
  have hr2' : Sem.run Tryd.prog (appB 22 #[.slice (some ⟨g1, 0, none⟩) l.length c1, .slice (some ⟨w1.heap.size, 0, none⟩) 1 1]) (w1.alloc (.cells #[.int .u8 1] 5 (0, 0))) = .ok (.slice a2 (l.length + 1) d2') w2 := hr2
  have hbA : Below w.heap.size w (w1.alloc (.cells #[.int .u8 1] 5 (0, 0))) := hb1.trans (hA1.mono hb1.size)
  have HB2 := Lib.hid (hbA.trans (hm2.kept.toBelow hbA.size (fun i hi e => by have := (ho1.ge e).1; omega)))
  have HR2 := Lib.hid ho2
  clear hv ho1 hb1 hA1 hr2 ho2 hm2 hbA h3
  go_enter Tryd.func10, Tryd.ntmps10
  go_wp2_with fail
  go_loopw [6] (fun p wr => ∃ (j : Nat) (s : Option Addr) (c : Nat), l.length + 1 + j ≤ n ∧ p = .slice s (l.length + 1 + j) c ∧ Hid (Row wr w.heap.size (.slice s (l.length + 1 + j) c) (l ++ 1 :: List.replicate j 0)) ∧ Hid (Below w.heap.size w wr)) (fun p _ => n - sliceLen p)
  case atStart => exact ⟨0, a2, d2', by omega, rfl, HR2, HB2⟩
  case round =>
    obtain ⟨j, s, c, hj, rfl, hR, hB⟩ := hrel
    by_cases hlt : l.length + 1 + j < n
    · have hsz := hB.out.size
      have hA := (Below.refl wr.heap.size wr).alloc (Nat.le_refl _) (.cells #[.int .u8 0] 5 (0, 0))
      have hle : (l ++ 1 :: List.replicate j (0 : UInt8)).length = l.length + 1 + j := by simp; omega
      obtain ⟨v3, w3, hr3, ho3, hm3⟩ := run_append_row (ty := 22) (hR.out.kept (Kept.of_below hA (fun _ => False)) (fun _ _ h => h)) (byte_new wr 0 5 (0, 0)) (by simp) (by rw [hle]; simp; omega) (Nat.le_trans hsz hA.size)
      obtain ⟨a3, d3', rfl⟩ := ho3.shape1
      rw [hle] at hr3 ho3
      have hr3' : Sem.run Tryd.prog (appB 22 #[.slice s (l.length + 1 + j) c, .slice (some ⟨wr.heap.size, 0, none⟩) 1 1]) (wr.alloc (.cells #[.int .u8 0] 5 (0, 0))) = .ok (.slice a3 (l.length + 1 + (j + 1)) d3') w3 := hr3
      have hbA : Below w.heap.size w (wr.alloc (.cells #[.int .u8 0] 5 (0, 0))) := hB.out.trans (hA.mono hsz)
      have HB3 := Lib.hid (hbA.trans (hm3.kept.toBelow hbA.size (fun i hi e => by have := (hR.out.ge e).1; omega)))
      have HR3 : Hid (Row w3 w.heap.size (.slice a3 (l.length + 1 + (j + 1)) d3') (l ++ 1 :: List.replicate (j + 1) 0)) := Lib.hid (by
        have e : l ++ 1 :: List.replicate (j + 1) (0 : UInt8) = (l ++ 1 :: List.replicate j 0) ++ [0] := by simp [List.replicate_succ', List.append_assoc]
        rw [e]; exact ho3)
      obtain ⟨m, hm⟩ : ∃ m, l.length + 1 + j = m := ⟨_, rfl⟩
      obtain ⟨m2, hm2⟩ : ∃ m, l.length + 1 + (j + 1) = m := ⟨_, rfl⟩
      have HM := Lib.hid hm
      have HM2 := Lib.hid hm2
      rw [hm, hm2] at hr3'
      rw [hm2] at HR3
      rw [hm] at hlt ⊢
      have dl : decide (m < n) = true := decide_eq_true hlt
      clear hr3 ho3 hm3 hA hbA hle hm hm2 hj hr1 hr2'
      go_wp2_with fail
      go_roundw
      case rel => exact ⟨j + 1, a3, d3', by rw [HM2.out]; have := HM.out; have := HM2.out; omega, by rw [HM2.out], by rw [HM2.out]; exact HR3, HB3⟩
      case measure => simp [sliceLen]; have := HM.out; have := HM2.out; omega
    · have hjn : l.length + 1 + j = n := by omega
      have hjj : j = n - l.length - 1 := by omega
      have dl : decide (n < n) = false := decide_eq_false (by omega)
      rw [hjn] at hR ⊢
      have HJ := Lib.hid hjj
      clear hjn hjj hlt hj hr1 hr2'
      go_wp2_with fail
      go_ret2
      exact ⟨_, by rw [HE.out]; rfl, by rw [HL.out, if_pos HE.out, ← HJ.out]; exact hR.out.at_, hB.out⟩
end Go.Proofs.YtnocmkjaifjgfaaDoor.R
