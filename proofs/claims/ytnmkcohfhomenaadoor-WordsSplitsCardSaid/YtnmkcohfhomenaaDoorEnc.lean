/- appendByte at whatever byte; a row of bytes of the call's own as a string. -/
import Derived.Test.YtnmkcohfhomenaaDoorApp
import Derived.Lib.BufferRead
import Derived.Laws.IdiomStrings
namespace Go.Proofs.YtnmkcohfhomenaaDoor
open Go.RowKit

/-- 'string(b)', b a row of bytes of the call's own. -/
theorem str_of_row {w : World} {base : Nat} {v : Value} {l : List UInt8} (h : w.ownsRow base 5 1 v l.length (Lib.byteCells l)) :
    (convert 38 9 v).run Tryd.prog w = .ok (.string ⟨l.toArray⟩) w := by
  rcases h.2 with ⟨rfl, h0⟩ | ⟨g, cap, cur, rfl, _, hg, hn, _, hcs, htk⟩
  · have : l = [] := List.eq_nil_of_length_eq_zero h0
    subst this
    exact Lib.run_convert_nil_bytes w _ _ _ 0 Tryd.underlying38 Tryd.underlying5 Tryd.underlying9
  · refine run_convert_bytes_back w _ _ _ ⟨g, 0, none⟩ cap l Tryd.underlying38 Tryd.underlying5 Tryd.underlying9 fun j hj => ?_
    have := h.cells (g := g) rfl j (.int .u8 (l[j].toNat : Int)) (by simp [Lib.byteCells, List.getElem?_map, List.getElem?_eq_getElem hj])
    exact this

theorem hexC_val (n : Nat) (h : n < 16) : ((hexC n).toNat : Int) = hexI n := by
  have : n = 0 ∨ n = 1 ∨ n = 2 ∨ n = 3 ∨ n = 4 ∨ n = 5 ∨ n = 6 ∨ n = 7 ∨ n = 8 ∨ n = 9 ∨ n = 10 ∨ n = 11 ∨ n = 12 ∨ n = 13 ∨ n = 14 ∨ n = 15 := by omega
  rcases this with rfl | rfl | rfl | rfl | rfl | rfl | rfl | rfl | rfl | rfl | rfl | rfl | rfl | rfl | rfl | rfl <;> decide +kernel

theorem appendByte_any (base : Nat) (v : Value) (l : List UInt8) (c : UInt8) (w : World) (hE : Env w) (hown : w.ownsRow base 5 1 v l.length (Lib.byteCells l)) (hb : base ≤ w.heap.size) (hlen : l.length + 4 ≤ 140737488355328) :
    Calls Tryd.prog 46 #[v, .int .u8 c.toNat] w fun e w' => ∃ v', e = .returned v' ∧ w'.ownsRow base 5 1 v' (l ++ encB c).length (Lib.byteCells (l ++ encB c)) ∧ Below base w w' := by
  have h255 : (c.toNat : Int) ≤ 255 := by have := c.toNat_lt; omega
  by_cases hp : plainB c.toNat = true
  · refine (appendByte_plain base v _ _ c.toNat w hp hown hb (by omega)).mono ?_
    rintro e w' ⟨v', rfl, ho, hB⟩
    refine ⟨v', rfl, ?_, hB⟩
    have : encB c = [c] := by unfold encB; rw [if_pos hp]
    rw [this, byteCells_append, List.length_append]; exact ho
  · have hp' : plainB c.toNat = false := by simpa using hp
    by_cases h1 : c.toNat = 34
    · rw [show (c.toNat : Int) = 34 from by omega]
      refine (appendByte_quot base v _ _ w hE hown hb (by omega)).mono ?_
      rintro e w' ⟨v', rfl, ho, hB⟩
      refine ⟨v', rfl, ?_, hB⟩
      have : encB c = [92, 34] := by unfold encB; rw [if_neg hp, if_pos h1]
      rw [this, byteCells_append, List.length_append]; exact ho
    · by_cases h2 : c.toNat = 92
      · rw [show (c.toNat : Int) = 92 from by omega]
        refine (appendByte_back base v _ _ w hE hown hb (by omega)).mono ?_
        rintro e w' ⟨v', rfl, ho, hB⟩
        refine ⟨v', rfl, ?_, hB⟩
        have : encB c = [92, 92] := by unfold encB; rw [if_neg hp, if_neg h1, if_pos h2]
        rw [this, byteCells_append, List.length_append]; exact ho
      · by_cases h3 : c.toNat = 10
        · rw [show (c.toNat : Int) = 10 from by omega]
          refine (appendByte_lf base v _ _ w hE hown hb (by omega)).mono ?_
          rintro e w' ⟨v', rfl, ho, hB⟩
          refine ⟨v', rfl, ?_, hB⟩
          have : encB c = [92, 110] := by unfold encB; rw [if_neg hp, if_neg h1, if_neg h2, if_pos h3]
          rw [this, byteCells_append, List.length_append]; exact ho
        · by_cases h4 : c.toNat = 13
          · rw [show (c.toNat : Int) = 13 from by omega]
            refine (appendByte_cr base v _ _ w hE hown hb (by omega)).mono ?_
            rintro e w' ⟨v', rfl, ho, hB⟩
            refine ⟨v', rfl, ?_, hB⟩
            have : encB c = [92, 114] := by unfold encB; rw [if_neg hp, if_neg h1, if_neg h2, if_neg h3, if_pos h4]
            rw [this, byteCells_append, List.length_append]; exact ho
          · by_cases h5 : c.toNat = 9
            · rw [show (c.toNat : Int) = 9 from by omega]
              refine (appendByte_tab base v _ _ w hE hown hb (by omega)).mono ?_
              rintro e w' ⟨v', rfl, ho, hB⟩
              refine ⟨v', rfl, ?_, hB⟩
              have : encB c = [92, 116] := by unfold encB; rw [if_neg hp, if_neg h1, if_neg h2, if_neg h3, if_neg h4, if_pos h5]
              rw [this, byteCells_append, List.length_append]; exact ho
            · refine (appendByte_hex base v _ _ c.toNat w hE hp' (by omega) h255 (by omega) (by omega) (by omega) (by omega) (by omega) hown hb (by omega)).mono ?_
              rintro e w' ⟨v', rfl, ho, hB⟩
              refine ⟨v', rfl, ?_, hB⟩
              have : encB c = [92, 120, hexC (c.toNat / 16), hexC (c.toNat % 16)] := by unfold encB; rw [if_neg hp, if_neg h1, if_neg h2, if_neg h3, if_neg h4, if_neg h5]
              have e1 : Lib.byteCells (encB c) = [.int .u8 92, .int .u8 120, .int .u8 (hexI ((c.toNat : Int) / 16)), .int .u8 (hexI ((c.toNat : Int) % 16))] := by
                have := c.toNat_lt
                have q1 := hexC_val (c.toNat / 16) (by omega)
                have q2 := hexC_val (c.toNat % 16) (by omega)
                rw [‹encB c = _›]; simp only [Lib.byteCells, List.map_cons, List.map_nil, q1, q2]; rfl
              rw [byteCells_append, e1, List.length_append, this]; exact ho
end Go.Proofs.YtnmkcohfhomenaaDoor
