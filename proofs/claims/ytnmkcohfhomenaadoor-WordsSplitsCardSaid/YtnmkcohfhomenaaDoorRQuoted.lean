/- The reference's quoted. -/
import Derived.Test.YtnmkcohfhomenaaDoorRQuote
import Derived.Test.YtnmkcohfhomenaaDoorFirstP
namespace Go.Proofs.YtnmkcohfhomenaaDoor
open Go.RowKit

/-- What quoted gives back. -/
def quotedV (s : ByteArray) : Value := match cutQ s.data.toList with
  | some (b, r) => .tuple #[.string ⟨b.toArray⟩, .int .i64 ((s.size - r.length : Nat) : Int)]
  | none => .tuple #[.string ⟨#[]⟩, .int .i64 0]

/-- Between two rounds of the outer loop: k bytes are read, b is what they spell. -/
def QtRel (s : ByteArray) (w : World) (v : Value) (k : Nat) (wr : World) : Prop :=
  ∃ b : List UInt8, wr.ownsRow w.heap.size 5 1 v b.length (Lib.byteCells b) ∧ Below w.heap.size w wr ∧ cutQ s.data.toList = scanQ (s.size - k + 1) b (s.data.toList.drop k) ∧ b.length ≤ k

theorem scan_fuel : ∀ (f g : Nat) (b l : List UInt8), l.length < f → l.length < g → scanQ f b l = scanQ g b l
  | 0, _, _, _, h, _ => by omega
  | _ + 1, 0, _, _, _, h => by omega
  | f + 1, g + 1, b, l, hf, hg => by
    cases l with
    | nil => rfl
    | cons a r =>
      rw [scanQ, scanQ]
      split
      · rfl
      · split
        · rfl
        · rename_i hn
          have : ((a :: r).drop (firstB (a :: r)).2).length < (a :: r).length := by
            rw [List.length_drop]; simp only [List.length_cons]; omega
          exact scan_fuel f g _ _ (by omega) (by omega)

theorem qt_start (s : ByteArray) (w : World) (r : List UInt8) (h : s.data.toList = 34 :: r) : QtRel s w (.slice none 0 0) 1 w := by
  refine ⟨[], World.ownsRow_nil _ _ _ _, Below.refl _ _, ?_, Nat.zero_le _⟩
  have hl := size_len s
  rw [h] at hl ⊢
  rw [← hl]
  show (if (34 : UInt8).toNat = 34 then scanQ (r.length + 1) [] r else none) = _
  rw [if_pos (show (34 : UInt8).toNat = 34 from rfl)]
  exact scan_fuel _ _ _ _ (by omega) (by simp)

/-- Is the byte's form written at place k? -/
def formAt (s : ByteArray) (k : Nat) (c : UInt8) : Prop := ∃ r, s.data.toList.drop k = encB c ++ r

theorem form_first {s : ByteArray} {k : Nat} {c : UInt8} (h : formAt s k c) : firstB (s.data.toList.drop k) = (c, (encB c).length) := by
  obtain ⟨r, hr⟩ := h; rw [hr]; exact firstB_enc c r
theorem first_none {s : ByteArray} {k : Nat} (h : ∀ c : UInt8, ¬ formAt s k c) : (firstB (s.data.toList.drop k)).2 = 0 := by
  by_cases h0 : (firstB (s.data.toList.drop k)).2 = 0
  · exact h0
  · obtain ⟨r, hr, _⟩ := firstB_some _ h0
    exact absurd ⟨r, hr⟩ (h _)
theorem drop_cons (s : ByteArray) (k : Nat) (h : k < s.size) : s.data.toList.drop k = s[k] :: s.data.toList.drop (k + 1) := by
  have hl : k < s.data.toList.length := by rw [size_len]; exact h
  rw [List.drop_eq_getElem_cons hl]; rfl

theorem qt_quote {s : ByteArray} {w wr : World} {v : Value} {k : Nat} (h : QtRel s w v k wr) (hk : k < s.size) (h34 : s[k].toNat = 34) :
    ∃ b : List UInt8, wr.ownsRow w.heap.size 5 1 v b.length (Lib.byteCells b) ∧ quotedV s = .tuple #[.string ⟨b.toArray⟩, .int .i64 ((k : Int) + 1)] := by
  obtain ⟨b, hrow, _, hq, _⟩ := h
  refine ⟨b, hrow, ?_⟩
  rw [drop_cons s k hk, scanQ, if_pos h34] at hq
  have hl := size_len s
  unfold quotedV; rw [hq]
  show Value.tuple #[_, .int .i64 ((s.size - (s.data.toList.drop (k + 1)).length : Nat) : Int)] = _
  rw [List.length_drop, hl, show ((s.size - (s.size - (k + 1)) : Nat) : Int) = (k : Int) + 1 by omega]
theorem qt_end {s : ByteArray} {w wr : World} {v : Value} (h : QtRel s w v s.size wr) : quotedV s = .tuple #[.string ⟨#[]⟩, .int .i64 0] := by
  obtain ⟨b, _, _, hq, _⟩ := h
  rw [List.drop_of_length_le (by rw [size_len]; exact Nat.le_refl _), scanQ] at hq
  unfold quotedV; rw [hq]
theorem qt_bad {s : ByteArray} {w wr : World} {v : Value} {k : Nat} (h : QtRel s w v k wr) (hk : k < s.size) (h34 : ¬ s[k].toNat = 34) (hn : ∀ c : UInt8, ¬ formAt s k c) : quotedV s = .tuple #[.string ⟨#[]⟩, .int .i64 0] := by
  obtain ⟨b, _, _, hq, _⟩ := h
  have h0 := first_none hn
  rw [drop_cons s k hk] at h0 hq
  rw [scanQ, if_neg h34, if_pos h0] at hq
  unfold quotedV; rw [hq]
/-- One byte more. -/
theorem qt_step {s : ByteArray} {w w2 : World} {v2 : Value} {k : Nat} {c : UInt8} {b : List UInt8} (hk : k < s.size) (h34 : ¬ s[k].toNat = 34) (hf : formAt s k c)
    (hq : cutQ s.data.toList = scanQ (s.size - k + 1) b (s.data.toList.drop k)) (hl : b.length ≤ k)
    (hrow : w2.ownsRow w.heap.size 5 1 v2 (b ++ [c]).length (Lib.byteCells (b ++ [c]))) (hB : Below w.heap.size w w2) : k + (encB c).length ≤ s.size ∧ QtRel s w v2 (k + (encB c).length) w2 := by
  have h1 := form_first hf
  have hle := encB_len c
  have hsz := size_len s
  have hkl : k + (encB c).length ≤ s.size := by
    obtain ⟨r, hr⟩ := hf
    have := congrArg List.length hr
    rw [List.length_drop, hsz, List.length_append] at this; omega
  refine ⟨hkl, b ++ [c], hrow, hB, ?_, by rw [List.length_append, List.length_singleton]; omega⟩
  have hd := drop_cons s k hk
  rw [hd] at hq h1
  rw [hq, scanQ, if_neg h34, h1, if_neg (by omega), ← hd, List.drop_drop]
  exact scan_fuel _ _ _ _ (by rw [List.length_drop, hsz]; omega) (by rw [List.length_drop, hsz]; omega)
end Go.Proofs.YtnmkcohfhomenaaDoor
