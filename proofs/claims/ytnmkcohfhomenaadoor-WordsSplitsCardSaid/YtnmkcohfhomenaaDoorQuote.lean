/- Quote; the reference's hex, escaped and Quote. -/
import Derived.Test.YtnmkcohfhomenaaDoorShown
import Derived.Lib.AppendStr
namespace Go.Proofs.YtnmkcohfhomenaaDoor
open Go.RowKit

def quoteL (l : List UInt8) : List UInt8 := (34 :: encS l) ++ [34]
theorem encS_snoc (l : List UInt8) (c : UInt8) : encS (l ++ [c]) = encS l ++ encB c := by simp [encS]
theorem encS_len (l : List UInt8) : (encS l).length ≤ 4 * l.length := by
  induction l with
  | nil => simp [encS]
  | cons c r ih =>
    have e : encS (c :: r) = encB c ++ encS r := rfl
    have := (encB_len c).1
    rw [e, List.length_append, List.length_cons]; omega

/-- What lies in the row after k bytes. -/
def quoteP (s : ByteArray) (k : Nat) : List UInt8 := 34 :: encS (s.data.toList.take k)
theorem quoteP_succ (s : ByteArray) (k : Nat) (h : k < s.size) : quoteP s (k + 1) = quoteP s k ++ encB s[k] := by
  unfold quoteP; rw [take_snoc s k h, encS_snoc]; rfl
theorem quoteP_len (s : ByteArray) (k : Nat) : (quoteP s k).length ≤ 4 * s.size + 1 := by
  have h1 := encS_len (s.data.toList.take k)
  have h2 : (s.data.toList.take k).length ≤ s.size := by rw [← size_len]; rw [List.length_take]; exact Nat.min_le_right _ _
  unfold quoteP; rw [List.length_cons]; omega
theorem quoteP_all (s : ByteArray) : quoteP s s.size ++ [34] = quoteL s.data.toList := by
  unfold quoteP quoteL; rw [take_all s _ (Nat.le_refl _)]

def QRow (s : ByteArray) (w : World) (v : Value) (k : Nat) (wr : World) : Prop :=
  wr.ownsRow w.heap.size 5 1 v (quoteP s k).length (Lib.byteCells (quoteP s k)) ∧ Below w.heap.size w wr
theorem qrow_start {s : ByteArray} {w w1 : World} {v : Value} (h : w1.ownsRow w.heap.size 5 1 v (0 + 1) ([] ++ [.int .u8 34])) (hb : Below w.heap.size w w1) : QRow s w v 0 w1 := ⟨h, hb⟩

set_option maxHeartbeats 1000000 in
set_option maxRecDepth 100000 in
theorem quote_any (s : ByteArray) (w : World) (hE : Env w) (hs : s.size ≤ 1000000000) :
    Calls Tryd.prog 21 #[.string s] w fun e w' => e = .returned (.string ⟨(quoteL s.data.toList).toArray⟩) ∧ Below w.heap.size w w' := by
  have hn := hE.nine
  obtain ⟨i0, hi, hz0, hz1, hz2⟩ := info_parts Tryd.infoByte
  go_enter Tryd.func21, Tryd.ntmps21
  go_wp2_with (first
    | (at_make; refine wpList_make_own _ rfl _ _ 38 rfl w.heap.size 5 i0 (.int .u8 0) 1 Tryd.underlying38 hi hz0 hz1 .i64 .i64 _ (s.size + 2) rfl rfl (by omega) (by rw [hz2]; omega) (by unfold maxLen; omega) (Nat.le_refl _) ?_; intro w0 hown0 hgrow0; have hB0 := (Below.refl w.heap.size w).grown hgrow0 (Nat.le_refl _) (fun k e => by cases e); have hs0 := hB0.size)
    | (at_builtin; refine wpList_append_own _ rfl _ _ 38 rfl w.heap.size 5 i0 (.int .u8 0) 1 1 Tryd.underlying38 hi hz0 hz1 hz2 rfl (by decide) _ _ _ rfl (hown0.alloc _) ⟨w0.heap.size, 0, none⟩ 1 1 [.int .u8 34] rfl rfl (cell_one_new _ _ _) (by simp [Value.oneCell']) (by unfold maxLen; omega) (by omega) (by simp; omega) ?_; intro v1 w1 hown1 hgrow1 _))
  have hQ0 : Hid (QRow s w v1 0 w1) := Lib.hid (qrow_start hown1 ((hB0.alloc hs0 _).grown hgrow1 (by simp; omega) (fun k e => (hown0.lt k e).1)))
  clear hown1 hgrow1
  go_loopw [3, 14] (fun v i wr => ∃ k : Nat, k ≤ s.size ∧ i = .int .i64 k ∧ Hid (QRow s w v k wr)) (fun _ i _ => s.size - (intOf i).toNat)
  case atStart => exact ⟨0, Nat.zero_le _, rfl, hQ0⟩
  case round =>
    obtain ⟨k, hk, rfl, hq⟩ := hrel
    obtain ⟨hrow, hbel⟩ := hq.out
    have hz := hbel.size
    have hlen := quoteP_len s k
    have hE2 := Lib.hid (hE.below hbel hn)
    by_cases hlt : k < s.size
    · have hsk := Lib.hid (quoteP_succ s k hlt)
      go_wp2_with fail
      refine (appendByte_any w.heap.size _ _ s[k] _ hE2.out hrow hz (by omega)).mono ?_
      rintro e w2 ⟨v2, rfl, hown2, hB2⟩
      go_wp2_with fail
      go_roundw
      case rel => exact ⟨k + 1, by omega, by go_num, Lib.hid ⟨by rw [hsk.out]; exact hown2, hbel.trans hB2⟩⟩
      case measure => simp [intOf]; omega
    · have hek : k = s.size := by omega
      subst hek
      have hall := Lib.hid (quoteP_all s)
      go_wp2_with (at_builtin; refine wpList_append_own _ rfl _ _ 38 rfl w.heap.size 5 i0 (.int .u8 0) 1 1 Tryd.underlying38 hi hz0 hz1 hz2 rfl (by decide) _ _ _ rfl (hrow.alloc _) ⟨wr.heap.size, 0, none⟩ 1 1 [.int .u8 34] rfl rfl (cell_one_new _ _ _) (by simp [Value.oneCell']) (by unfold maxLen; omega) (by omega) (by simp; omega) ?_; intro v3 w3 hown3 hgrow3 _; have hown4 : w3.ownsRow w.heap.size 5 1 v3 (quoteP s s.size ++ [34]).length (Lib.byteCells (quoteP s s.size ++ [34])) := by { rw [byteCells_append, List.length_append]; exact hown3 }; have hcv := str_of_row hown4)
      go_ret
      exact ⟨congrArg (fun z : List UInt8 => Ending.returned (.string ⟨z.toArray⟩)) hall.out, (hbel.alloc hz _).grown hgrow3 (by simp; omega) (fun q e => (hrow.lt q e).1)⟩
end Go.Proofs.YtnmkcohfhomenaaDoor
