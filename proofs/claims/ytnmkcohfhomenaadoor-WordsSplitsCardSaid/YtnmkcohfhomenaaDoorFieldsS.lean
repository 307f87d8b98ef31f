/- What a line says: its fields one behind the other. -/
import Derived.Test.YtnmkcohfhomenaaDoorScope
namespace Go.Proofs.YtnmkcohfhomenaaDoor
open Go.RowKit

/-- What the iterator hands out: a field's bytes, whether it is quoted, whether it is one. -/
structure Fld where
  s : List UInt8
  q : Bool
  ok : Bool
def Fld.bad : Fld := ⟨[], false, false⟩
def Fld.encs (x : Fld) : Array Value := #[.agg #[.string ⟨x.s.toArray⟩, .bool x.q], .bool x.ok]

/-- The first field, quoted or bare. -/
def cutF (l : List UInt8) : Bool × Option (List UInt8 × List UInt8) := if Lib.hasPrefix l [34] then (true, cutQ l) else (false, cutB l)

mutual
/-- The fields from here on, where one must begin. -/
def fieldsL : Nat → List UInt8 → List Fld
  | 0, _ => []
  | f + 1, l => match cutF l with
    | (_, none) => [Fld.bad]
    | (q, some (t, r)) => ⟨t, q, true⟩ :: fieldsR f r
/-- The fields behind a field. -/
def fieldsR : Nat → List UInt8 → List Fld
  | 0, _ => []
  | _ + 1, [] => []
  | f + 1, a :: r => if a.toNat = 32 then fieldsL f r else [Fld.bad]
end
def seqOf (l : List UInt8) : List Fld := if l = [] then [] else fieldsL (2 * l.length + 2) l

theorem scanQ_len : ∀ (f : Nat) (b l b' r : List UInt8), scanQ f b l = some (b', r) → r.length < l.length
  | 0, _, _, _, _, h => by simp [scanQ] at h
  | _ + 1, _, [], _, _, h => by simp [scanQ] at h
  | f + 1, b, a :: l, b', r, h => by
    simp only [scanQ] at h
    split at h
    · simp at h; rw [h.2]; simp
    · split at h
      · cases h
      · have := scanQ_len f _ _ _ _ h
        simp only [List.length_drop, List.length_cons] at *; omega
theorem cutQ_len (l b r : List UInt8) (h : cutQ l = some (b, r)) : r.length < l.length := by
  unfold cutQ at h
  split at h
  · cases h
  · split at h
    · have := scanQ_len _ _ _ _ _ h; simp; omega
    · cases h
theorem cutB_len (l b r : List UInt8) (h : cutB l = some (b, r)) : r.length < l.length := by
  unfold cutB at h
  split at h
  · cases h
  · rename_i h0
    simp at h
    have := bareN_le l
    rw [← h.2]; simp; omega
theorem cutF_len (l b r : List UInt8) (q : Bool) (h : cutF l = (q, some (b, r))) : r.length < l.length := by
  unfold cutF at h
  split at h
  · simp at h; exact cutQ_len _ _ _ h.2
  · simp at h; exact cutB_len _ _ _ h.2

theorem fuel_both : ∀ (k : Nat), (∀ (f g : Nat) (l : List UInt8), l.length ≤ k → 2 * l.length + 2 ≤ f → 2 * l.length + 2 ≤ g → fieldsL f l = fieldsL g l) ∧ (∀ (f g : Nat) (l : List UInt8), l.length ≤ k → 2 * l.length + 1 ≤ f → 2 * l.length + 1 ≤ g → fieldsR f l = fieldsR g l) := by
  intro k
  induction k with
  | zero =>
    have hR : ∀ (f g : Nat) (l : List UInt8), l.length ≤ 0 → 2 * l.length + 1 ≤ f → 2 * l.length + 1 ≤ g → fieldsR f l = fieldsR g l := by
      intro f g l hl hf hg
      have : l = [] := List.eq_nil_of_length_eq_zero (by omega)
      subst this
      obtain ⟨f, rfl⟩ : ∃ f', f = f' + 1 := ⟨f - 1, by omega⟩
      obtain ⟨g, rfl⟩ : ∃ g', g = g' + 1 := ⟨g - 1, by omega⟩
      rfl
    refine ⟨?_, hR⟩
    intro f g l hl hf hg
    obtain ⟨f, rfl⟩ : ∃ f', f = f' + 1 := ⟨f - 1, by omega⟩
    obtain ⟨g, rfl⟩ : ∃ g', g = g' + 1 := ⟨g - 1, by omega⟩
    rw [fieldsL, fieldsL]
    split
    · rfl
    · rename_i h; have := cutF_len _ _ _ _ h; omega
  | succ k ih =>
    have hR : ∀ (f g : Nat) (l : List UInt8), l.length ≤ k + 1 → 2 * l.length + 1 ≤ f → 2 * l.length + 1 ≤ g → fieldsR f l = fieldsR g l := by
      intro f g l hl hf hg
      obtain ⟨f, rfl⟩ : ∃ f', f = f' + 1 := ⟨f - 1, by omega⟩
      obtain ⟨g, rfl⟩ : ∃ g', g = g' + 1 := ⟨g - 1, by omega⟩
      cases l with
      | nil => rfl
      | cons a r =>
        simp only [List.length_cons] at *
        rw [fieldsR, fieldsR, ih.1 f g r (by omega) (by omega) (by omega)]
    refine ⟨?_, hR⟩
    intro f g l hl hf hg
    obtain ⟨f, rfl⟩ : ∃ f', f = f' + 1 := ⟨f - 1, by omega⟩
    obtain ⟨g, rfl⟩ : ∃ g', g = g' + 1 := ⟨g - 1, by omega⟩
    rw [fieldsL, fieldsL]
    split
    · rfl
    · rename_i h; have := cutF_len _ _ _ _ h; rw [hR f g _ (by omega) (by omega) (by omega)]

/-- The fields from here on, and behind a field, with fuel enough. -/
def goL (l : List UInt8) : List Fld := fieldsL (2 * l.length + 2) l
def goR (l : List UInt8) : List Fld := fieldsR (2 * l.length + 1) l
theorem goL_none (l : List UInt8) (q : Bool) (h : cutF l = (q, none)) : goL l = [Fld.bad] := by unfold goL; rw [fieldsL, h]
theorem goL_some (l t r : List UInt8) (q : Bool) (h : cutF l = (q, some (t, r))) : goL l = ⟨t, q, true⟩ :: goR r := by
  have := cutF_len _ _ _ _ h
  unfold goL goR; rw [fieldsL, h]; simp only []
  rw [(fuel_both r.length).2 _ _ r (Nat.le_refl _) (by omega) (Nat.le_refl _)]
theorem goR_nil : goR [] = [] := rfl
theorem goR_space (a : UInt8) (r : List UInt8) (h : a.toNat = 32) : goR (a :: r) = goL r := by
  unfold goR goL; simp only [List.length_cons]
  rw [show 2 * (r.length + 1) + 1 = (2 * r.length + 2) + 1 from by omega, fieldsR, if_pos h]
theorem goR_bad (a : UInt8) (r : List UInt8) (h : ¬ a.toNat = 32) : goR (a :: r) = [Fld.bad] := by
  unfold goR; simp only [List.length_cons]
  rw [show 2 * (r.length + 1) + 1 = (2 * r.length + 2) + 1 from by omega, fieldsR, if_neg h]
end Go.Proofs.YtnmkcohfhomenaaDoor
