/- The reference's Quote. -/
import Derived.Test.YtnmkcohfhomenaaDoorEsc
namespace Go.Proofs.YtnmkcohfhomenaaDoor
open Go.RowKit

theorem strCells_byte (l : List UInt8) : Lib.strCells ⟨l.toArray⟩ = Lib.byteCells l := by
  simp [Lib.strCells, Lib.byteCells]
theorem row_one (W : World) (base : Nat) (c : UInt8) (hb : base ≤ W.heap.size) : (W.alloc (.cells #[.int .u8 c.toNat] 5)).ownsRow base 5 1 (.slice (some ⟨W.heap.size, 0, none⟩) 1 1) 1 [.int .u8 c.toNat] :=
  ⟨rfl, .inr ⟨W.heap.size, 1, #[.int .u8 c.toNat], rfl, hb, heap_alloc_new W _, Nat.le_refl _, by unfold maxLen; omega, rfl, rfl⟩⟩

set_option maxHeartbeats 1000000 in
set_option maxRecDepth 100000 in
theorem quoteR_any (s : ByteArray) (w : World) (hs : s.size ≤ 1000000000) :
    Calls Tryd.prog 22 #[.string s] w fun e w' => e = .returned (.string ⟨(quoteL s.data.toList).toArray⟩) ∧ Below w.heap.size w w' := by
  obtain ⟨i0, hi, hz0, hz1, hz2⟩ := info_parts Tryd.infoByte
  have hQ0 : Hid (QRow s w (.slice (some ⟨w.heap.size, 0, none⟩) 1 1) 0 (w.alloc (.cells #[.int .u8 34] 5))) := Lib.hid ⟨row_one w w.heap.size 34 (Nat.le_refl _), (Below.refl _ _).alloc (Nat.le_refl _) _⟩
  go_enter Tryd.func22, Tryd.ntmps22
  go_wp2_with fail
  go_loopw [3, 4] (fun v i wr => ∃ k : Nat, k ≤ s.size ∧ i = .int .i64 k ∧ Hid (QRow s w v k wr)) (fun _ i _ => s.size - (intOf i).toNat)
  case atStart => exact ⟨0, Nat.zero_le _, rfl, hQ0⟩
  case round =>
    obtain ⟨k, hk, rfl, hq⟩ := hrel
    obtain ⟨hrow, hbel⟩ := hq.out
    have hz := hbel.size
    have hlen := quoteP_len s k
    by_cases hlt : k < s.size
    · have hsk := Lib.hid (quoteP_succ s k hlt)
      have he4 := (encB_len s[k]).1
      have hes : (⟨(encB s[k]).toArray⟩ : ByteArray).size ≤ 4 := by rw [← size_len]; exact he4
      go_wp2_with fail
      refine (escR_any s[k] _).mono ?_
      rintro e w2 ⟨rfl, hB2⟩
      have hs2 := hB2.size
      have hrow2 := ownsRow_below hrow hB2
      go_wp2_with (at_builtin; go_loud (refine Lib.wpList_append_own_string _ rfl _ _ 38 9 rfl w.heap.size 5 i0 Tryd.underlying38 Tryd.underlying9 hi hz0 hz1 hz2 _ _ _ rfl hrow2 ⟨(encB s[k]).toArray⟩ rfl (by unfold maxLen; omega) (by omega) (by omega) ?_); intro v3 w3 hown3 hgrow3 _)
      go_roundw
      case rel =>
        refine ⟨k + 1, by omega, by go_num, Lib.hid ⟨?_, ?_⟩⟩
        · rw [hsk.out, byteCells_append, List.length_append, ← strCells_byte (encB s[k]), show (encB s[k]).length = (⟨(encB s[k]).toArray⟩ : ByteArray).size from size_len ⟨(encB s[k]).toArray⟩]; exact hown3
        · exact (hbel.trans (hB2.mono hz)).grown hgrow3 (by omega) (fun q e => (hrow2.lt q e).1)
      case measure => simp [intOf]; omega
    · have hek : k = s.size := by omega
      subst hek
      have hall := Lib.hid (quoteP_all s)
      go_wp2_with (at_builtin; refine wpList_append_own _ rfl _ _ 38 rfl w.heap.size 5 i0 (.int .u8 0) 1 1 Tryd.underlying38 hi hz0 hz1 hz2 rfl (by decide) _ _ _ rfl (hrow.alloc _) ⟨wr.heap.size, 0, none⟩ 1 1 [.int .u8 34] rfl rfl (cell_one_new _ _ _) (by simp [Value.oneCell']) (by unfold maxLen; omega) (by omega) (by simp; omega) ?_; intro v3 w3 hown3 hgrow3 _; have hown4 : w3.ownsRow w.heap.size 5 1 v3 (quoteP s s.size ++ [34]).length (Lib.byteCells (quoteP s s.size ++ [34])) := by { rw [byteCells_append, List.length_append]; exact hown3 }; have hcv := str_of_row hown4)
      go_ret
      exact ⟨congrArg (fun z : List UInt8 => Ending.returned (.string ⟨z.toArray⟩)) hall.out, (hbel.alloc hz _).grown hgrow3 (by simp; omega) (fun q e => (hrow.lt q e).1)⟩
end Go.Proofs.YtnmkcohfhomenaaDoor
