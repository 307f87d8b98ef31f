/- The reference's Split: plain words on lines. -/
import Derived.Test.YtnmkcohfhomenaaDoorInt
import Derived.Test.YtnmkcohfhomenaaDoorRUnq
namespace Go.Proofs.YtnmkcohfhomenaaDoor
open Go.RowKit

theorem scanQ_suffix : ∀ (f : Nat) (b l b' r : List UInt8), scanQ f b l = some (b', r) → r <:+ l
  | 0, _, _, _, _, h => by simp [scanQ] at h
  | _ + 1, _, [], _, _, h => by simp [scanQ] at h
  | f + 1, b, a :: l, b', r, h => by
    simp only [scanQ] at h
    split at h
    · simp at h; rw [h.2]; exact List.suffix_cons _ _
    · split at h
      · cases h
      · exact (scanQ_suffix f _ _ _ _ h).trans (List.drop_suffix _ _)
theorem cutQ_suffix {l b r : List UInt8} (h : cutQ l = some (b, r)) : r <:+ l := by
  cases l with
  | nil => cases h
  | cons a t =>
    have h' : (if a.toNat = 34 then scanQ (t.length + 1) [] t else none) = some (b, r) := h
    split at h'
    · exact (scanQ_suffix _ _ _ _ _ h').trans (List.suffix_cons _ _)
    · cases h'
theorem cutQ_drop {l b r : List UInt8} (h : cutQ l = some (b, r)) : r = l.drop (l.length - r.length) := List.suffix_iff_eq_drop.1 (cutQ_suffix h)
theorem scanQ_size : ∀ (f : Nat) (b l b' r : List UInt8), scanQ f b l = some (b', r) → b'.length ≤ b.length + l.length
  | 0, _, _, _, _, h => by simp [scanQ] at h
  | _ + 1, _, [], _, _, h => by simp [scanQ] at h
  | f + 1, b, a :: l, b', r, h => by
    simp only [scanQ] at h
    split at h
    · simp at h; rw [h.1]; simp
    · split at h
      · cases h
      · rename_i hne
        have := scanQ_size f _ _ _ _ h
        simp only [List.length_drop, List.length_append, List.length_cons, List.length_nil] at this ⊢
        omega
theorem cutQ_size {l b r : List UInt8} (h : cutQ l = some (b, r)) : b.length ≤ l.length := by
  cases l with
  | nil => cases h
  | cons a t =>
    have h' : (if a.toNat = 34 then scanQ (t.length + 1) [] t else none) = some (b, r) := h
    split at h'
    · have := scanQ_size _ _ _ _ _ h'; simp at this ⊢; omega
    · cases h'

/-- How many bytes there are before the first space. -/
def toSp : List UInt8 → Nat
  | [] => 0
  | a :: r => if a.toNat = 32 then 0 else toSp r + 1
theorem toSp_le : ∀ l : List UInt8, toSp l ≤ l.length
  | [] => Nat.le_refl _
  | a :: r => by rw [toSp]; have := toSp_le r; split <;> simp <;> omega
theorem toSp_at : ∀ (l : List UInt8) (k : Nat) (h : k ≤ l.length), (∀ j (hj : j < k), (l[j]'(by omega)).toNat ≠ 32) → (∀ h : k < l.length, (l[k]).toNat = 32) → toSp l = k
  | [], k, h, _, _ => by simp at h; rw [h]; rfl
  | a :: r, 0, _, _, hk => by
    have e : a.toNat = 32 := hk (by simp)
    rw [toSp, if_pos e]
  | a :: r, k + 1, h, hj, hk => by
    have h0 : ¬ a.toNat = 32 := hj 0 (by omega)
    rw [toSp, if_neg h0, toSp_at r k (by simpa using h) (fun j hj' => hj (j + 1) (by omega)) (fun h' => hk (by simpa using h'))]
theorem toSp_before : ∀ (l : List UInt8) (j : Nat) (hj : j < toSp l), (l[j]'(by have := toSp_le l; omega)).toNat ≠ 32
  | [], j, hj => by simp [toSp] at hj
  | a :: r, 0, hj => by
    intro e
    have e' : a.toNat = 32 := e
    simp [toSp, e'] at hj
  | a :: r, j + 1, hj => by
    by_cases e : a.toNat = 32
    · simp [toSp, e] at hj
    · have hj' : j < toSp r := by simp [toSp, e] at hj; exact hj
      exact toSp_before r j hj'
theorem toSp_stop : ∀ (l : List UInt8) (h : toSp l < l.length), (l[toSp l]).toNat = 32
  | [], h => by simp at h
  | a :: r, h => by
    by_cases e : a.toNat = 32
    · have e0 : toSp (a :: r) = 0 := by simp [toSp, e]
      simp only [e0, List.getElem_cons_zero]; exact e
    · have e0 : toSp (a :: r) = toSp r + 1 := by simp [toSp, e]
      simp only [e0, List.getElem_cons_succ]
      exact toSp_stop r (by rw [e0] at h; simpa using h)

/-- Whether a string has only bytes of bare fields, and one at least. -/
def bareR (l : List UInt8) : Bool := !l.isEmpty && l.all bareC
theorem bareC_space {c : UInt8} (h : c.toNat = 32) : bareC c = false := by unfold bareC; simp [h]
theorem bareC_quote {c : UInt8} (h : bareC c = true) : c.toNat ≠ 34 := by
  intro e; unfold bareC plainB at h; simp [e] at h
theorem bareN_seg (l : List UInt8) (h : (l.take (toSp l)).all bareC = true) : bareN l = toSp l := by
  unfold bareN
  have hle := toSp_le l
  have hb : ∀ j (hj : j < toSp l), bareC (l[j]'(by omega)) = true := fun j hj => by
    rw [List.all_eq_true] at h
    refine h _ ?_
    have : (l.take (toSp l))[j]'(by simp; omega) ∈ l.take (toSp l) := List.getElem_mem _
    rwa [List.getElem_take] at this
  by_cases e : toSp l < l.length
  · exact takeWhile_at _ l _ e hb (bareC_space (toSp_stop l e))
  · have hl : toSp l = l.length := by omega
    rw [hl]
    have : l.takeWhile bareC = l := by
      rw [hl, List.take_length] at h
      clear hb e hl hle
      induction l with
      | nil => rfl
      | cons a r ih =>
        rw [List.all_cons, Bool.and_eq_true] at h
        rw [List.takeWhile_cons, h.1]
        simp [ih h.2]
    rw [this]
theorem prefix_quote {l : List UInt8} (h : Lib.hasPrefix l [34] = true) : ∃ r, l = 34 :: r := by
  cases l with
  | nil => simp [Lib.hasPrefix] at h
  | cons a r => exact ⟨r, by simp [Lib.hasPrefix] at h; rw [h]⟩

/-- The field that begins here, as the reference finds it: quoted, or bare. -/
theorem cutF_quoted {l t r : List UInt8} (h : cutQ l = some (t, r)) : cutF l = (true, some (t, r)) := by
  unfold cutF
  have : Lib.hasPrefix l [34] = true := by
    cases l with
    | nil => cases h
    | cons a x =>
      have h' : (if a.toNat = 34 then scanQ (x.length + 1) [] x else none) = some (t, r) := h
      split at h'
      · rename_i e
        have : a = 34 := UInt8.toNat.inj e
        subst this; simp [Lib.hasPrefix]
      · cases h'
  rw [if_pos this, h]
theorem cutF_bare {l : List UInt8} (h : bareR (l.take (toSp l)) = true) : cutF l = (false, some (l.take (toSp l), l.drop (toSp l))) := by
  unfold bareR at h
  rw [Bool.and_eq_true] at h
  obtain ⟨h1, h2⟩ := h
  have hn := bareN_seg l h2
  have hpos : toSp l ≠ 0 := by
    intro e; rw [e] at h1; simp at h1
  unfold cutF
  have hp : ¬ Lib.hasPrefix l [34] = true := by
    intro hp
    obtain ⟨r, rfl⟩ := prefix_quote hp
    have e : toSp ((34 : UInt8) :: r) = toSp r + 1 := rfl
    rw [e, List.take_succ_cons, List.all_cons, Bool.and_eq_true] at h2
    exact bareC_quote h2.1 rfl
  rw [if_neg hp]
  unfold cutB
  rw [hn, if_neg hpos]
/-- What begins here is no field, or is followed by what may not follow one. -/
theorem goL_bad {l : List UInt8} (hq : cutQ l = none) (h : bareR (l.take (toSp l)) = false) : ∃ x ∈ goL l, x.ok = false := by
  cases hc : cutF l with
  | mk q o =>
    cases o with
    | none => exact ⟨Fld.bad, by rw [goL_none l q hc]; simp, rfl⟩
    | some p =>
      obtain ⟨t, r⟩ := p
      rw [goL_some l t r q hc]
      have hc' := hc
      unfold cutF at hc'
      split at hc'
      · rw [hq] at hc'; simp at hc'
      · simp only [Prod.mk.injEq] at hc'
        obtain ⟨rfl, hb⟩ := hc'
        unfold cutB at hb
        split at hb
        · cases hb
        · rename_i hn0
          simp only [Option.some.injEq, Prod.mk.injEq] at hb
          obtain ⟨rfl, rfl⟩ := hb
          have hle := toSp_le l
          have hbl := bareN_le l
          have hall : ∀ j (hj : j < bareN l), bareC (l[j]'(by omega)) = true := fun j hj => by
            have h1 : (l.takeWhile bareC)[j]'hj ∈ l.takeWhile bareC := List.getElem_mem _
            have h2 : (l.takeWhile bareC).all bareC = true := List.all_takeWhile
            rw [List.all_eq_true] at h2
            have h3 := h2 _ h1
            have hp : l.takeWhile bareC <+: l := List.takeWhile_prefix _
            have e := hp.getElem hj
            rw [← e]; exact h3
          by_cases hlt : bareN l < toSp l
          · have hlb : bareN l < l.length := by omega
            have hx := toSp_before l _ hlt
            refine ⟨Fld.bad, ?_, rfl⟩
            rw [List.drop_eq_getElem_cons hlb, goR_bad _ _ hx]
            simp
          · exfalso
            have : bareR (l.take (toSp l)) = true := by
              have hge : toSp l = bareN l := by
                by_cases e : toSp l < bareN l
                · exfalso
                  have hs := toSp_stop l (by omega)
                  have := hall _ e
                  rw [bareC_space hs] at this; cases this
                · omega
              unfold bareR
              rw [Bool.and_eq_true]
              constructor
              · have : (l.take (toSp l)).length ≠ 0 := by rw [List.length_take]; omega
                cases hh : l.take (toSp l) with
                | nil => rw [hh] at this; simp at this
                | cons a b => rfl
              · rw [List.all_eq_true]
                intro x hx
                obtain ⟨j, hj, rfl⟩ := List.mem_iff_getElem.1 hx
                rw [List.getElem_take]
                rw [List.length_take] at hj
                exact hall j (by omega)
            rw [this] at h; cases h
end Go.Proofs.YtnmkcohfhomenaaDoor
