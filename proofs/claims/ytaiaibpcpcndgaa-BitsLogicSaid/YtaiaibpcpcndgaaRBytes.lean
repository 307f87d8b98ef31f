/- The reference's Bytes. -/
import Derived.Test.YtaiaibpcpcndgaaLoad
namespace Go.Proofs.Ytaiaibpcpcndgaa
open Go.RowKit

/-- The slice v reads as the list L. -/
def BoolsAt (w : World) (v : Value) (L : List Bool) : Prop :=
  (v = .slice none 0 0 ∧ L = []) ∨
  ∃ b o c, v = .slice (some ⟨b, o, none⟩) L.length c ∧ b < w.heap.size ∧ ∀ k (h : k < L.length), w.cell? ⟨b, o + k, none⟩ = some (.bool L[k])
theorem BoolsAt.below {A B : World} {v : Value} {L : List Bool} (h : BoolsAt A v L) (hk : Below A.heap.size A B) : BoolsAt B v L := by
  rcases h with h | ⟨b, o, c, rfl, hb, hc⟩
  · exact .inl h
  · exact .inr ⟨b, o, c, rfl, Nat.lt_of_lt_of_le hb hk.size, fun k hk' => (hk.cell (p := ⟨b, o + k, none⟩) hb).trans (hc k hk')⟩
theorem BoolsAt.kept {X : Nat → Prop} {A B : World} {v : Value} {l : List Bool} (h : BoolsAt A v l) (hk : Kept X A B) (hx : ∀ b o, (∃ n c, v = .slice (some ⟨b, o, none⟩) n c) → ¬ X b) : BoolsAt B v l := by
  rcases h with h | ⟨b, o, c, rfl, hb, hc⟩
  · exact .inl h
  · exact .inr ⟨b, o, c, rfl, Nat.lt_of_lt_of_le hb hk.size, fun k hk' => (World.cell?_of_block (w := A) (a := ⟨b, o + k, none⟩) (hk.block b hb (hx b o ⟨_, _, rfl⟩))).trans (hc k hk')⟩
theorem BoolsAt.val {w : World} {v : Value} {L : List Bool} (h : BoolsAt w v L) : ∃ s d, v = .slice s L.length d := by
  rcases h with ⟨rfl, rfl⟩ | ⟨b, o, d, rfl, _⟩
  · exact ⟨none, 0, rfl⟩
  · exact ⟨some ⟨b, o, none⟩, d, rfl⟩
/-- The cell of a place that there is. -/
theorem BoolsAt.at_ {w : World} {s : Option Addr} {n d : Nat} {L : List Bool} (h : BoolsAt w (.slice s n d) L) (k : Nat) (hk : k < L.length) : ∃ b o, s = some ⟨b, o, none⟩ ∧ b < w.heap.size ∧ w.cell? ⟨b, o + k, none⟩ = some (.bool (L.getD k false)) := by
  rcases h with ⟨_, rfl⟩ | ⟨b, o, c, h, hb, hc⟩
  · simp at hk
  · cases h
    refine ⟨b, o, rfl, hb, ?_⟩
    rw [hc k hk, List.getD_eq_getElem?_getD, List.getElem?_eq_getElem hk]; rfl

theorem add8_val (a b : Nat) (ha : a < 2 ^ b) (hb : b < 8) : ((a : Int) + 2 ^ b) % 256 = ((a + 2 ^ b : Nat) : Int) := by
  have hp : (2 : Nat) ^ (b + 1) ≤ 2 ^ 8 := Nat.pow_le_pow_right (by omega) (by omega)
  rw [Nat.pow_succ] at hp
  have e : (2 : Int) ^ b = ((2 ^ b : Nat) : Int) := by simp
  rw [e]
  generalize (2 : Nat) ^ b = p at hp ha
  omega

set_option maxHeartbeats 1000000 in
theorem refBytes_any (v : Value) (L : List Bool) (w : World) (h : BoolsAt w v L) (hL : L.length ≤ 4096) :
    Calls Try.prog 28 #[v] w (NewBytes (bytesL L) w) := by
  obtain ⟨c, hc⟩ : ∃ c, (L.length + 7) / 8 = c := ⟨_, rfl⟩
  have HCC := Lib.hid hc
  have hcl : c ≤ 512 := by omega
  have hc8 : L.length ≤ 8 * c := by omega
  have hcI : ((L.length : Int) + 7) / 8 = c := by omega
  obtain ⟨i0, hi, hz0, hz1, hz2⟩ := info_parts Try.infoByte
  obtain ⟨w1, hmk, hown, hg⟩ := run_make_full (P := Try.prog) (w := w) w.heap.size 23 5 i0 (.int .u8 0) 1 Try.underlying23 hi hz0 hz1 .i64 .i64 c (by rw [hz2]; omega) (by unfold maxLen; omega) (Nat.le_refl _)
  have hB1 : Below w.heap.size w w1 := (Below.refl _ _).grown hg (Nat.le_refl _) (fun k e => by cases e)
  rw [show (madeCells (Value.int .u8 0).cells (c * 1)).toList = Lib.byteCells (bytesN (L.take 0) c) from by rw [bytesN_zero]; show (madeCells #[.int .u8 0] (c * 1)).toList = _; rw [toList_madeCells_one, Nat.mul_one]] at hown
  obtain ⟨s, d, rfl⟩ := h.val
  have HB := Lib.hid h
  clear h hc hg hz2
  go_enter Try.func28, Try.ntmps28
  go_wp2_with fail
  clear hmk hcI
  go_loopw [4] (fun i wr => ∃ k : Nat, k ≤ L.length ∧ i = .int .i64 k ∧ wr.ownsRow w.heap.size 5 1 (.slice (some ⟨w.heap.size, 0, none⟩) c c) c (Lib.byteCells (bytesN (L.take k) c)) ∧ Below w.heap.size w wr) (fun i _ => L.length - (intOf i).toNat)
  case atStart => exact ⟨0, Nat.zero_le _, rfl, hown, hB1⟩
  case round =>
    obtain ⟨k, hk, rfl, hrow, hbel⟩ := hrel
    by_cases hlt : k < L.length
    · obtain ⟨b, o, rfl, hb, hcb⟩ := (HB.out.below hbel).at_ k hlt
      have hcell : wr.cell? ⟨w.heap.size, k / 8, none⟩ = some (.int .u8 (byteV (L.take k) (k / 8) : Nat)) := by
        rw [hrow.cellAt _ (by omega)]; exact cells_get _ _ _ (by omega)
      have hfz := hrow.frozenAt (k / 8)
      have hbv := byteV_lt (L.take k) (k / 8)
      have hkc : k / 8 < c := by omega
      have HV := Lib.hid (add8_val (byteV (L.take k) (k / 8)) (k % 8) (byteV_part L k hk) (by omega))
      cases hx : L.getD k false with
      | false =>
        rw [hx] at hcb
        have HS := Lib.hid (cells_step_false L k c hx)
        clear hx
        go_wp2_with fail
        go_roundw
        case rel => exact ⟨k + 1, by omega, by go_num, by rw [HS.out]; exact hrow, hbel⟩
        case measure => simp [intOf]; omega
      | true =>
        rw [hx] at hcb
        have HS := Lib.hid (cells_step_true L k c hkc)
        have HW := Lib.hid (byteV_step_add L k hlt hx)
        have HR := Lib.hid hrow
        clear hx hrow
        go_wp2_with fail
        go_roundw
        case rel =>
          have hst := (HR.out.stored (k / 8) (.int .u8 (((byteV (L.take k) (k / 8) : Nat) + 2 ^ (k % 8)) % 256))).1
          rw [HS.out _ (by rw [HV.out, HW.out])] at hst
          exact ⟨k + 1, by omega, by go_num, hst, hbel.setCell (p := ⟨w.heap.size, k / 8, none⟩) (Nat.le_refl _) _⟩
        case measure => simp [intOf]; omega
    · obtain rfl : k = L.length := by omega
      have hl : (bytesL L).length = c := by rw [bytesL_len]; exact HCC.out
      have hrow' : wr.ownsRow w.heap.size 5 1 (.slice (some ⟨w.heap.size, 0, none⟩) (bytesL L).length c) (bytesL L).length (Lib.byteCells (bytesL L)) := by
        rw [hl]
        have e : bytesL L = bytesN (L.take L.length) c := by unfold bytesL; rw [List.take_length, HCC.out]
        rw [e]; exact hrow
      have HL := Lib.hid hl
      have HR := Lib.hid hrow'
      clear hl hrow' hrow
      go_wp2_with fail
      go_ret
      exact ⟨_, rfl, ⟨w.heap.size, c, by rw [HL.out]; rfl, Nat.le_refl _⟩, by have := bytesAt_of_row HR.out; rw [HL.out] at this; exact this, hbel⟩
end Go.Proofs.Ytaiaibpcpcndgaa
