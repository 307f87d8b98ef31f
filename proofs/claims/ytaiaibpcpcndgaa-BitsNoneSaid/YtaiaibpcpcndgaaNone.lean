/- BitsNone: the walk. -/
import Derived.Test.YtaiaibpcpcndgaaNoneM
namespace Go.Proofs.Ytaiaibpcpcndgaa
open Go.RowKit

/-- The value v is a pointer that is no map's, here and from here on. -/
def XP (w : World) (v : Value) : Prop := v = .pointer none ∨ ∃ z, v = .pointer (some ⟨z, 0, none⟩) ∧ z < w.heap.size ∧ w.cell? ⟨z, 0, none⟩ = some (.pointer none)
theorem XP.no {w : World} {v : Value} (h : XP w v) : NoMap w v := by
  rcases h with rfl | ⟨z, rfl, _, hc⟩
  · exact noMap_nil w
  · exact noMap_zero z w hc
theorem XP.below {A B : World} {v : Value} (h : XP A v) (hb : Below A.heap.size A B) : XP B v := by
  rcases h with rfl | ⟨z, rfl, hz, hc⟩
  · exact .inl rfl
  · exact .inr ⟨z, rfl, Nat.lt_of_lt_of_le hz hb.size, (hb.cell (p := ⟨z, 0, none⟩) hz).trans hc⟩
theorem XP.drewN {w : World} {v : Value} (h : XP w v) (n : Nat) : NoMap (w.drewN n) v := XP.no (w := w.drewN n) h
theorem XP.val {w : World} {v : Value} (h : XP w v) : ∃ p, v = .pointer p := by
  rcases h with rfl | ⟨z, rfl, _⟩ <;> exact ⟨_, rfl⟩

set_option maxHeartbeats 4000000 in
set_option maxRecDepth 100000 in
theorem bitsNone_any (i n : Int) (x : Bool) (w : World) :
    Calls Try.prog 9 #[.int .i64 i, .int .i64 n, .bool x] w fun e w' => e = .returned (.bool true) ∧ Below w.heap.size w w' := by
  have hz := zeroMap w
  have hz2 : ∀ w, Sem.run Try.prog (zeroValue 66) w = .ok (.agg #[.pointer none, .pointer none]) w := fun w => by kernel_rfl
  go_enter Try.func9, Try.ntmps9
  go_wp2_with fail
  obtain ⟨wA, hwA⟩ : ∃ wA, ((w.alloc (.cells #[.pointer none, .int .i64 0, .int .u64 0, .int .u64 0, .int .u64 0, .int .u64 0, .int .u64 0, .int .u64 0, .int .u64 0, .int .u64 0, .int .u64 0, .int .u64 0, .int .u64 0, .int .u64 0, .int .u64 0, .int .u64 0, .int .u64 0, .int .u64 0, .int .u64 0, .int .u64 0, .int .u64 0, .int .u64 0, .int .u64 0, .int .u64 0, .int .u64 0, .int .u64 0, .int .u64 0, .int .u64 0, .int .u64 0, .int .u64 0, .int .u64 0, .int .u64 0, .int .u64 0, .int .u64 0, .int .u64 0, .int .u64 0, .int .u64 0, .int .u64 0, .int .u64 0, .int .u64 0, .int .u64 0, .int .u64 0, .int .u64 0, .int .u64 0, .int .u64 0, .int .u64 0, .int .u64 0, .int .u64 0, .int .u64 0, .int .u64 0, .int .u64 0, .int .u64 0, .int .u64 0, .int .u64 0, .int .u64 0, .int .u64 0, .int .u64 0, .int .u64 0, .int .u64 0, .int .u64 0, .int .u64 0, .int .u64 0, .int .u64 0, .int .u64 0, .int .u64 0, .int .u64 0] 65)).alloc (.cells #[.pointer none, .pointer (some ⟨w.heap.size, 0, none⟩)] 66)) = wA := ⟨_, rfl⟩
  have hsA : wA.heap.size = w.heap.size + 2 := by rw [← hwA]; simp
  have hBA : Below w.heap.size w wA := by rw [← hwA]; exact ((Below.refl _ _).alloc (Nat.le_refl _) _).alloc (by simp) _
  have ha0 : wA.cell? ⟨w.heap.size + 1, 0, none⟩ = some (.pointer none) := by rw [← hwA]; simp
  have ha1 : wA.cell? ⟨w.heap.size + 1, 1, none⟩ = some (.pointer (some ⟨w.heap.size, 0, none⟩)) := by rw [← hwA]; simp
  have hxz : XP wA (.pointer (some ⟨w.heap.size, 0, none⟩)) := .inr ⟨_, rfl, by omega, by rw [← hwA]; simp⟩
  rw [hwA]
  have HBA := Lib.hid hBA
  have HXZ := Lib.hid hxz
  have HA0 := Lib.hid ha0
  have HA1 := Lib.hid ha1
  clear hwA hBA hxz ha0 ha1 hz hz2
  refine (example_any wA).mono ?_
  rintro e w1 ⟨b, rfl, hb0, hm, hB⟩
  have HM := Lib.hid hm
  have H0 := Lib.hid ((hB.cell (p := ⟨w.heap.size + 1, 0, none⟩) (by simp; omega)).trans HA0.out)
  have H1 := Lib.hid ((hB.cell (p := ⟨w.heap.size + 1, 1, none⟩) (by simp; omega)).trans HA1.out)
  have HX1 := Lib.hid (HXZ.out.below hB)
  have HB1 := Lib.hid (HBA.out.trans (hB.mono (by omega)))
  have hs1 : w.heap.size + 2 ≤ w1.heap.size := by have := hB.size; omega
  clear hm hB hb0 hsA
  go_wp2_with fail
  go_loopw [10] (fun j wr => ∃ k : Nat, k ≤ 2 ∧ j = .int .i64 k ∧ Hid (MapAt wr b exL) ∧ Hid (wr.cell? ⟨w.heap.size + 1, 0, none⟩ = some (.pointer none)) ∧ Hid (wr.cell? ⟨w.heap.size + 1, 1, none⟩ = some (.pointer (some ⟨w.heap.size, 0, none⟩))) ∧ Hid (XP wr (.pointer (some ⟨w.heap.size, 0, none⟩))) ∧ Hid (Below w.heap.size w wr) ∧ w.heap.size + 2 ≤ wr.heap.size) (fun j _ => 2 - (intOf j).toNat)
  case atStart => exact ⟨0, by omega, rfl, HM, H0, H1, HX1, HB1, hs1⟩
  case round =>
    obtain ⟨k, hk, rfl, hm, h0, h1, hx, hbel, hsr⟩ := hrel
    have hcases : k = 0 ∨ k = 1 ∨ k = 2 := by omega
    clear HM H0 H1 HX1 HB1 hk
    rcases hcases with rfl | rfl | rfl
    · have HN : Hid (XP wr (.pointer none)) := Lib.hid (.inl rfl)
      have hc := h0.out
      go_wp2_with fail
      refine (get_no (.pointer none) i wr HN.out.no).mono ?_
      rintro e w' ⟨rfl, rfl⟩
      go_wp2_with fail
      refine (count_no (.pointer none) i n wr HN.out.no).mono ?_
      rintro e w' ⟨rfl, rfl⟩
      go_wp2_with fail
      refine (next_no (.pointer none) i x wr HN.out.no).mono ?_
      rintro e w' ⟨rfl, rfl⟩
      go_wp2_with fail
      refine (last_no (.pointer none) i x wr HN.out.no).mono ?_
      rintro e w' ⟨rfl, rfl⟩
      go_wp2_with fail
      refine (run_no (.pointer none) i n x wr HN.out.no).mono ?_
      rintro e w' ⟨rfl, rfl⟩
      go_wp2_with fail
      refine (and_no1 (.pointer none) _ wr HN.out.no).mono ?_
      rintro e w' ⟨rfl, rfl⟩
      go_wp2_with fail
      refine (or_no2 b exL (.pointer none) wr hm.out HN.out.no).mono ?_
      rintro e w' ⟨rfl, rfl⟩
      go_wp2_with fail
      refine (not_no (.pointer none) wr HN.out.no).mono ?_
      rintro e w' ⟨rfl, rfl⟩
      go_wp2_with fail
      refine (xor_no2 b exL (.pointer none) wr hm.out HN.out.no).mono ?_
      rintro e w' ⟨rfl, rfl⟩
      go_wp2_with fail
      refine (set_no (.pointer none) i x wr HN.out.no).mono ?_
      rintro e w' ⟨rfl, rfl⟩
      go_wp2_with fail
      refine (turn_no (.pointer none) i wr HN.out.no).mono ?_
      rintro e w' ⟨rfl, rfl⟩
      go_wp2_with fail
      refine (fill_no (.pointer none) i n x wr HN.out.no).mono ?_
      rintro e w' ⟨rfl, rfl⟩
      go_wp2_with fail
      refine (len_no (.pointer none) wr HN.out.no).mono ?_
      rintro e w' ⟨rfl, rfl⟩
      go_wp2_with fail
      refine (bytes_no (.pointer none) wr HN.out.no).mono ?_
      rintro e w' ⟨rfl, rfl⟩
      go_wp2_with fail
      clear hc
      refine (same_no1 (.pointer none) _ wr (fun q => HN.out.drewN q)).mono ?_
      rintro e w2 ⟨rfl, hB2⟩
      have hm2 := Lib.hid (hm.out.below hB2 hm.out.lt)
      have HN2 := Lib.hid (HN.out.below hB2)
      go_wp2_with fail
      refine (same_no2 b exL (.pointer none) w2 hm2.out (fun q => HN2.out.drewN q)).mono ?_
      rintro e w3 ⟨rfl, hB3⟩
      have HN3 := Lib.hid (HN2.out.below hB3)
      go_wp2_with fail
      refine (same_no1 (.pointer none) _ w3 (fun q => HN3.out.drewN q)).mono ?_
      rintro e w4 ⟨rfl, hB4⟩
      have hBB : Below wr.heap.size wr w4 := hB2.trans ((hB3.mono hB2.size).trans (hB4.mono (Nat.le_trans hB2.size hB3.size)))
      have hsz := hBB.size
      have q1 := Lib.hid (hm.out.below hBB hm.out.lt)
      have q2 := Lib.hid ((hBB.cell (p := ⟨w.heap.size + 1, 0, none⟩) (by simp; omega)).trans h0.out)
      have q3 := Lib.hid ((hBB.cell (p := ⟨w.heap.size + 1, 1, none⟩) (by simp; omega)).trans h1.out)
      have q4 := Lib.hid (hx.out.below hBB)
      have q5 := Lib.hid (hbel.out.trans (hBB.mono (by omega)))
      clear hB2 hB3 hB4 hBB
      go_wp2_with fail
      go_roundw
      case rel => exact ⟨0 + 1, by omega, by go_num, q1, q2, q3, q4, q5, by omega⟩
      case measure => simp [intOf]
    · have HN : Hid (XP wr (.pointer (some ⟨w.heap.size, 0, none⟩))) := hx
      have hc := h1.out
      go_wp2_with fail
      refine (get_no (.pointer (some ⟨w.heap.size, 0, none⟩)) i wr HN.out.no).mono ?_
      rintro e w' ⟨rfl, rfl⟩
      go_wp2_with fail
      refine (count_no (.pointer (some ⟨w.heap.size, 0, none⟩)) i n wr HN.out.no).mono ?_
      rintro e w' ⟨rfl, rfl⟩
      go_wp2_with fail
      refine (next_no (.pointer (some ⟨w.heap.size, 0, none⟩)) i x wr HN.out.no).mono ?_
      rintro e w' ⟨rfl, rfl⟩
      go_wp2_with fail
      refine (last_no (.pointer (some ⟨w.heap.size, 0, none⟩)) i x wr HN.out.no).mono ?_
      rintro e w' ⟨rfl, rfl⟩
      go_wp2_with fail
      refine (run_no (.pointer (some ⟨w.heap.size, 0, none⟩)) i n x wr HN.out.no).mono ?_
      rintro e w' ⟨rfl, rfl⟩
      go_wp2_with fail
      refine (and_no1 (.pointer (some ⟨w.heap.size, 0, none⟩)) _ wr HN.out.no).mono ?_
      rintro e w' ⟨rfl, rfl⟩
      go_wp2_with fail
      refine (or_no2 b exL (.pointer (some ⟨w.heap.size, 0, none⟩)) wr hm.out HN.out.no).mono ?_
      rintro e w' ⟨rfl, rfl⟩
      go_wp2_with fail
      refine (not_no (.pointer (some ⟨w.heap.size, 0, none⟩)) wr HN.out.no).mono ?_
      rintro e w' ⟨rfl, rfl⟩
      go_wp2_with fail
      refine (xor_no2 b exL (.pointer (some ⟨w.heap.size, 0, none⟩)) wr hm.out HN.out.no).mono ?_
      rintro e w' ⟨rfl, rfl⟩
      go_wp2_with fail
      refine (set_no (.pointer (some ⟨w.heap.size, 0, none⟩)) i x wr HN.out.no).mono ?_
      rintro e w' ⟨rfl, rfl⟩
      go_wp2_with fail
      refine (turn_no (.pointer (some ⟨w.heap.size, 0, none⟩)) i wr HN.out.no).mono ?_
      rintro e w' ⟨rfl, rfl⟩
      go_wp2_with fail
      refine (fill_no (.pointer (some ⟨w.heap.size, 0, none⟩)) i n x wr HN.out.no).mono ?_
      rintro e w' ⟨rfl, rfl⟩
      go_wp2_with fail
      refine (len_no (.pointer (some ⟨w.heap.size, 0, none⟩)) wr HN.out.no).mono ?_
      rintro e w' ⟨rfl, rfl⟩
      go_wp2_with fail
      refine (bytes_no (.pointer (some ⟨w.heap.size, 0, none⟩)) wr HN.out.no).mono ?_
      rintro e w' ⟨rfl, rfl⟩
      go_wp2_with fail
      clear hc
      refine (same_no1 (.pointer (some ⟨w.heap.size, 0, none⟩)) _ wr (fun q => HN.out.drewN q)).mono ?_
      rintro e w2 ⟨rfl, hB2⟩
      have hm2 := Lib.hid (hm.out.below hB2 hm.out.lt)
      have HN2 := Lib.hid (HN.out.below hB2)
      go_wp2_with fail
      refine (same_no2 b exL (.pointer (some ⟨w.heap.size, 0, none⟩)) w2 hm2.out (fun q => HN2.out.drewN q)).mono ?_
      rintro e w3 ⟨rfl, hB3⟩
      have HN3 := Lib.hid (HN2.out.below hB3)
      go_wp2_with fail
      refine (same_no1 (.pointer (some ⟨w.heap.size, 0, none⟩)) _ w3 (fun q => HN3.out.drewN q)).mono ?_
      rintro e w4 ⟨rfl, hB4⟩
      have hBB : Below wr.heap.size wr w4 := hB2.trans ((hB3.mono hB2.size).trans (hB4.mono (Nat.le_trans hB2.size hB3.size)))
      have hsz := hBB.size
      have q1 := Lib.hid (hm.out.below hBB hm.out.lt)
      have q2 := Lib.hid ((hBB.cell (p := ⟨w.heap.size + 1, 0, none⟩) (by simp; omega)).trans h0.out)
      have q3 := Lib.hid ((hBB.cell (p := ⟨w.heap.size + 1, 1, none⟩) (by simp; omega)).trans h1.out)
      have q4 := Lib.hid (hx.out.below hBB)
      have q5 := Lib.hid (hbel.out.trans (hBB.mono (by omega)))
      clear hB2 hB3 hB4 hBB
      go_wp2_with fail
      go_roundw
      case rel => exact ⟨1 + 1, by omega, by go_num, q1, q2, q3, q4, q5, by omega⟩
      case measure => simp [intOf]
    · go_wp2_with fail
      refine (awake_any wr).mono ?_
      rintro e w2 ⟨rfl, hB2⟩
      go_wp2_with fail
      go_ret
      exact ⟨rfl, hbel.out.trans (hB2.mono (by omega))⟩
end Go.Proofs.Ytaiaibpcpcndgaa
