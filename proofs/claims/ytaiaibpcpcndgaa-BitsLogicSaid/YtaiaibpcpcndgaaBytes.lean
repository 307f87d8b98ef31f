/- Bytes: the walk; bytes in memory and as strings. -/
import Derived.Test.YtaiaibpcpcndgaaBytesV
import Derived.OwnWalk
import Derived.Lib.UnsafeStr
import Derived.Lib.BufferRead
import Derived.Maps.AppendAt
namespace Go.Proofs.Ytaiaibpcpcndgaa
open Go.RowKit

theorem byteCount_nat (n c : Nat) (w : World) (h1 : n ≤ 4096) (hc : (n + 7) / 8 = c) :
    Calls Try.prog 48 #[.int .i64 n] w fun e w' => e = .returned (.int .i64 c) ∧ w = w' := by
  refine (byteCount_any n w (by omega) (by omega)).mono ?_
  rintro e w' ⟨rfl, rfl⟩
  exact ⟨ret_int (by omega), rfl⟩

theorem Try.infoByte : (Try.prog.info? 5).map (fun i => (i.zero, i.size, i.bytes)) = some (some (.int .u8 0), 1, 1) := by kernel_rfl

/-- The slice v reads as the bytes l. -/
def BytesAt (w : World) (v : Value) (l : List UInt8) : Prop :=
  (∃ a c, v = .slice a 0 c ∧ l = []) ∨
  ∃ b o c, v = .slice (some ⟨b, o, none⟩) l.length c ∧ b < w.heap.size ∧ ∀ k (h : k < l.length), w.cell? ⟨b, o + k, none⟩ = some (.int .u8 l[k].toNat)
theorem addr_add (g o j : Nat) : (⟨g, o, none⟩ : Addr).add j = ⟨g, o + j, none⟩ := by
  unfold Addr.add; split <;> simp_all
theorem BytesAt.kept {X : Nat → Prop} {A B : World} {v : Value} {l : List UInt8} (h : BytesAt A v l) (hk : Kept X A B) (hx : ∀ b o, (∃ n c, v = .slice (some ⟨b, o, none⟩) n c) → ¬ X b) : BytesAt B v l := by
  rcases h with h | ⟨b, o, c, rfl, hb, hc⟩
  · exact .inl h
  · exact .inr ⟨b, o, c, rfl, Nat.lt_of_lt_of_le hb hk.size, fun k hk' => (World.cell?_of_block (w := A) (a := ⟨b, o + k, none⟩) (hk.block b hb (hx b o ⟨_, _, rfl⟩))).trans (hc k hk')⟩
theorem BytesAt.below {A B : World} {v : Value} {l : List UInt8} (h : BytesAt A v l) (hk : Below A.heap.size A B) : BytesAt B v l := by
  rcases h with h | ⟨b, o, c, rfl, hb, hc⟩
  · exact .inl h
  · exact .inr ⟨b, o, c, rfl, Nat.lt_of_lt_of_le hb hk.size, fun k hk' => (hk.cell (p := ⟨b, o + k, none⟩) hb).trans (hc k hk')⟩
theorem BytesAt.conv {w : World} {v : Value} {l : List UInt8} (h : BytesAt w v l) : (convert 23 9 v).run Try.prog w = .ok (.string ⟨l.toArray⟩) w := by
  rcases h with ⟨a, c, rfl, rfl⟩ | ⟨b, o, c, rfl, _, hc⟩
  · cases a with
    | none => exact Lib.run_convert_nil_bytes w _ _ _ _ Try.underlying23 Try.underlying5 Try.underlying9
    | some p => exact run_convert_bytes_back w _ _ _ p c [] Try.underlying23 Try.underlying5 Try.underlying9 (fun j hj => by simp at hj)
  · refine run_convert_bytes_back w _ _ _ ⟨b, o, none⟩ c l Try.underlying23 Try.underlying5 Try.underlying9 fun j hj => ?_
    rw [addr_add]; exact hc j hj
theorem bytesAt_of_row {w : World} {base : Nat} {v : Value} {l : List UInt8} (h : w.ownsRow base 5 1 v l.length (Lib.byteCells l)) : BytesAt w v l := by
  rcases h.2 with ⟨rfl, h0⟩ | ⟨g, cap, cur, rfl, _, hg, _⟩
  · have : l = [] := List.eq_nil_of_length_eq_zero h0
    subst this
    exact .inl ⟨none, 0, rfl, rfl⟩
  · refine .inr ⟨g, 0, cap, rfl, (Array.getElem?_eq_some_iff.1 hg).1, fun j hj => ?_⟩
    have := h.cells (g := g) rfl j (.int .u8 (l[j].toNat : Int)) (by simp [Lib.byteCells, List.getElem?_map, List.getElem?_eq_getElem hj])
    rw [addr_add] at this
    exact this

theorem or8_val (a b : Nat) (ha : a < 256) (hb : b < 8) : bits BinOp.or IntKind.u8 (a : Int) (IntKind.u8.wrap (2 ^ b)) = ((a ||| 2 ^ b : Nat) : Int) := by
  have hp : (2 : Nat) ^ b < 2 ^ 8 := Nat.pow_lt_pow_right (by omega) hb
  have e : IntKind.u8.wrap (2 ^ b) = ((2 ^ b : Nat) : Int) := by
    rw [IntKind.wrap_u8']
    have e : (2 : Int) ^ b = ((2 ^ b : Nat) : Int) := by simp
    rw [e]
    generalize (2 : Nat) ^ b = p at hp
    omega
  rw [e]
  exact u8_or_nat a (2 ^ b) ha (by omega)

/-- What Bytes leaves: a new slice with the bytes. -/
def NewBytes (l : List UInt8) (w : World) (e : Ending) (w' : World) : Prop := ∃ v, e = .returned v ∧ (∃ b c, v = .slice (some ⟨b, 0, none⟩) l.length c ∧ w.heap.size ≤ b) ∧ BytesAt w' v l ∧ Below w.heap.size w w'

set_option maxHeartbeats 1000000 in
theorem bytes_any (b : Nat) (L : List Bool) (w : World) (h : MapAt w b L) :
    Calls Try.prog 20 #[.pointer (some ⟨b, 0, none⟩)] w (NewBytes (bytesL L) w) := by
  have HC := Lib.hid (isMade_any b L w h)
  have hz := h.size
  have hL := h.2
  have hbw := h.lt
  obtain ⟨c, hc⟩ : ∃ c, (L.length + 7) / 8 = c := ⟨_, rfl⟩
  have HN := Lib.hid (byteCount_nat L.length c w hL hc)
  have HCC := Lib.hid hc
  have hcl : c ≤ 512 := by omega
  have hc8 : L.length ≤ 8 * c := by omega
  obtain ⟨i0, hi, hz0, hz1, hz2⟩ := info_parts Try.infoByte
  obtain ⟨w1, hmk, hown, hg⟩ := run_make_full (P := Try.prog) (w := w) w.heap.size 23 5 i0 (.int .u8 0) 1 Try.underlying23 hi hz0 hz1 .i64 .i64 c (by rw [hz2]; omega) (by unfold maxLen; omega) (Nat.le_refl _)
  have hB1 : Below w.heap.size w w1 := (Below.refl _ _).grown hg (Nat.le_refl _) (fun k e => by cases e)
  rw [show (madeCells (Value.int .u8 0).cells (c * 1)).toList = Lib.byteCells (bytesN (L.take 0) c) from by rw [bytesN_zero]; show (madeCells #[.int .u8 0] (c * 1)).toList = _; rw [toList_madeCells_one, Nat.mul_one]] at hown
  have HM1 := Lib.hid (h.below hB1 hbw)
  have hz1' := HM1.out.size
  have HB := Lib.hid h
  clear h hc hg hz2
  go_enter Try.func20, Try.ntmps20
  go_wp2_with fail
  refine HC.out.mono ?_
  rintro e w' ⟨rfl, rfl⟩
  go_wp2_with fail
  refine HN.out.mono ?_
  rintro e w' ⟨rfl, rfl⟩
  go_wp2_with fail
  clear hmk
  go_loopw [18] (fun i wr => ∃ k : Nat, k ≤ L.length ∧ i = .int .i64 k ∧ wr.ownsRow w.heap.size 5 1 (.slice (some ⟨w.heap.size, 0, none⟩) c c) c (Lib.byteCells (bytesN (L.take k) c)) ∧ Below w.heap.size w wr) (fun i _ => L.length - (intOf i).toNat)
  case atStart => exact ⟨0, Nat.zero_le _, rfl, hown, hB1⟩
  case round =>
    obtain ⟨k, hk, rfl, hrow, hbel⟩ := hrel
    by_cases hlt : k < L.length
    · have HBB := Lib.hid (bit_any b L k wr (HB.out.below hbel hbw) (by omega))
      have hcell : wr.cell? ⟨w.heap.size, k / 8, none⟩ = some (.int .u8 (byteV (L.take k) (k / 8) : Nat)) := by
        rw [hrow.cellAt _ (by omega)]; exact cells_get _ _ _ (by omega)
      have hfz := hrow.frozenAt (k / 8)
      have hbv := byteV_lt (L.take k) (k / 8)
      have hkc : k / 8 < c := by omega
      have HV := Lib.hid (or8_val (byteV (L.take k) (k / 8)) (k % 8) hbv (by omega))
      cases hx : L.getD k false with
      | false =>
        rw [hx] at HBB
        have HS := Lib.hid (cells_step_false L k c hx)
        clear hx
        go_wp2_with fail
        refine HBB.out.mono ?_
        rintro e w' ⟨rfl, rfl⟩
        go_wp2_with fail
        go_roundw
        case rel => exact ⟨k + 1, by omega, by go_num, by rw [HS.out]; exact hrow, hbel⟩
        case measure => simp [intOf]; omega
      | true =>
        rw [hx] at HBB
        have HS := Lib.hid (cells_step_true L k c hkc)
        have HW := Lib.hid (byteV_step_true L k hlt hx)
        have HR := Lib.hid hrow
        clear hx hrow
        go_wp2_with fail
        refine HBB.out.mono ?_
        rintro e w' ⟨rfl, rfl⟩
        go_wp2_with fail
        go_region
        all_goals go_wp2_with fail
        all_goals
          go_roundw
          case rel =>
            have hst := (HR.out.stored (k / 8) (.int .u8 (bits BinOp.or IntKind.u8 (byteV (L.take k) (k / 8) : Nat) (IntKind.u8.wrap (2 ^ (k % 8)))))).1
            rw [HS.out _ (by rw [HV.out, HW.out])] at hst
            exact ⟨k + 1, by omega, by go_num, hst.drew, (hbel.setCell (p := ⟨w.heap.size, k / 8, none⟩) (Nat.le_refl _) _).drew⟩
          case measure => simp [intOf]; omega
    · obtain rfl : k = L.length := by omega
      have hl : (bytesL L).length = c := by rw [bytesL_len]; exact HCC.out
      have hrow' : wr.ownsRow w.heap.size 5 1 (.slice (some ⟨w.heap.size, 0, none⟩) (bytesL L).length c) (bytesL L).length (Lib.byteCells (bytesL L)) := by
        rw [hl]
        have e : bytesL L = bytesN (L.take L.length) c := by unfold bytesL; rw [List.take_length, HCC.out]
        rw [e]; exact hrow
      have HL := Lib.hid hl
      have HR := Lib.hid hrow'
      clear hl hrow' hrow
      go_wp2_with fail
      go_ret
      exact ⟨_, rfl, ⟨w.heap.size, c, by rw [HL.out]; rfl, Nat.le_refl _⟩, by have := bytesAt_of_row HR.out; rw [HL.out] at this; exact this, hbel⟩
end Go.Proofs.Ytaiaibpcpcndgaa
