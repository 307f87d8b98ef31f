/- Bits that are counted and looked for: plain words on lists. -/
import Derived.Test.YtaiaibpcpcndgaaNew
namespace Go.Proofs.Ytaiaibpcpcndgaa
open Go.RowKit

theorem find_at {p : Nat → Bool} {n i : Nat} (hi : i < n) (hp : p i = true) (hlt : ∀ j, j < i → p j = false) : (List.range n).find? p = some i := by
  rw [List.find?_range_eq_some]
  exact ⟨hp, by simpa using hi, fun j hj => by rw [hlt j hj]; rfl⟩
theorem find_not {p : Nat → Bool} {n : Nat} (h : ∀ j, j < n → p j = false) : (List.range n).find? p = none := by
  rw [List.find?_range_eq_none]
  exact fun j hj => by rw [h j hj]; rfl
theorem find_spec {p : Nat → Bool} {n : Nat} : (∃ i, (List.range n).find? p = some i ∧ i < n ∧ p i = true ∧ ∀ j, j < i → p j = false) ∨ ((List.range n).find? p = none ∧ ∀ j, j < n → p j = false) := by
  cases h : (List.range n).find? p with
  | none =>
    right
    rw [List.find?_range_eq_none] at h
    exact ⟨rfl, fun j hj => by simpa using h j hj⟩
  | some i =>
    left
    rw [List.find?_range_eq_some] at h
    obtain ⟨h1, h2, h3⟩ := h
    exact ⟨i, rfl, by simpa using h2, h1, fun j hj => by simpa using h3 j hj⟩

/-- How many of the k bits from a on are true. -/
def countTo (L : List Bool) (a : Nat) : Nat → Nat
  | 0 => 0
  | k + 1 => countTo L a k + if L.getD (a + k) false then 1 else 0
theorem countTo_le (L : List Bool) (a : Nat) : ∀ k, countTo L a k ≤ k
  | 0 => Nat.le_refl _
  | k + 1 => by rw [countTo]; have := countTo_le L a k; split <;> omega
/-- The list when k bits from a on are put. -/
def fillTo (L : List Bool) (a : Nat) (v : Bool) : Nat → List Bool
  | 0 => L
  | k + 1 => (fillTo L a v k).set (a + k) v
theorem fillTo_len (L : List Bool) (a : Nat) (v : Bool) : ∀ k, (fillTo L a v k).length = L.length
  | 0 => rfl
  | k + 1 => by rw [fillTo, List.length_set, fillTo_len L a v k]

def nextO (L : List Bool) (v : Bool) (a : Nat) : Option Nat := (List.range L.length).find? fun i => decide (a ≤ i) && (L.getD i false == v)
def lastO (L : List Bool) (v : Bool) (n : Nat) : Option Nat := ((List.range n).find? fun k => L.getD (n - 1 - k) false == v).map fun k => n - 1 - k
def allV (L : List Bool) (v : Bool) (i n : Nat) : Bool := (List.range n).all fun k => L.getD (i + k) false == v
def runO (L : List Bool) (v : Bool) (a n : Nat) : Option Nat := (List.range (L.length + 1)).find? fun i => decide (a ≤ i ∧ i + n ≤ L.length) && allV L v i n

theorem allV_true {L : List Bool} {v : Bool} {i n : Nat} (h : ∀ k, k < n → L.getD (i + k) false = v) : allV L v i n = true := by
  unfold allV; rw [List.all_eq_true]; intro k hk
  rw [h k (by simpa using hk)]; exact beq_self_eq_true _
theorem allV_at {L : List Bool} {v : Bool} {i n : Nat} (h : allV L v i n = true) (k : Nat) (hk : k < n) : L.getD (i + k) false = v := by
  unfold allV at h; rw [List.all_eq_true] at h
  exact beq_iff_eq.1 (h k (by simpa using hk))
theorem allV_false {L : List Bool} {v : Bool} {i n k : Nat} (hk : k < n) (h : L.getD (i + k) false ≠ v) : allV L v i n = false := by
  cases e : allV L v i n with
  | false => rfl
  | true => exact absurd (allV_at e k hk) h

/-- What is returned for a place that may be none. -/
def oN (o : Option Nat) : Int := ((o.getD 0 : Nat) : Int)
def oE (o : Option Nat) : Int := if o.isSome then 0 else 4

def countN (L : List Bool) (a m : Int) : Int := if inR L.length a m then ((countTo L a.toNat m.toNat : Nat) : Int) else 0
def fillL (L : List Bool) (a m : Int) (v : Bool) : List Bool := if inR L.length a m then fillTo L a.toNat v m.toNat else L
def nextN (L : List Bool) (a : Int) (v : Bool) : Int := if inR L.length a 0 then oN (nextO L v a.toNat) else 0
def nextE (L : List Bool) (a : Int) (v : Bool) : Int := if inR L.length a 0 then oE (nextO L v a.toNat) else 7
def lastN (L : List Bool) (a : Int) (v : Bool) : Int := if inR L.length a 0 then oN (lastO L v a.toNat) else 0
def lastE (L : List Bool) (a : Int) (v : Bool) : Int := if inR L.length a 0 then oE (lastO L v a.toNat) else 7
def runN (L : List Bool) (a n : Int) (v : Bool) : Int := if inR L.length a 0 then (if n < 1 then 0 else oN (runO L v a.toNat n.toNat)) else 0
def runE (L : List Bool) (a n : Int) (v : Bool) : Int := if inR L.length a 0 then (if n < 1 then 2 else oE (runO L v a.toNat n.toNat)) else 7

theorem inR_two {n : Nat} {a m : Int} (h : inR n a m = true) : ∃ i k : Nat, a = i ∧ m = k ∧ i + k ≤ n := by
  unfold inR at h
  have := of_decide_eq_true h
  exact ⟨a.toNat, m.toNat, by omega, by omega, by omega⟩
theorem ret2 {a b c d : Int} (h : a = c) (k : b = d) : Ending.returned (.tuple #[.int .i64 a, .int .i64 b]) = .returned (.tuple #[.int .i64 c, .int .i64 d]) := by rw [h, k]

theorem nextO_some {L : List Bool} {v : Bool} {a i : Nat} (h1 : a ≤ i) (h2 : i < L.length) (h3 : L.getD i false = v) (h4 : ∀ j, a ≤ j → j < i → L.getD j false ≠ v) : nextO L v a = some i :=
  find_at h2 (by rw [h3]; simp [h1]) fun j hj => by
    by_cases c : a ≤ j
    · have : (L.getD j false == v) = false := beq_eq_false_iff_ne.2 (h4 j c hj)
      rw [this, Bool.and_false]
    · simp [c]
theorem nextO_none {L : List Bool} {v : Bool} {a : Nat} (h4 : ∀ j, a ≤ j → j < L.length → L.getD j false ≠ v) : nextO L v a = none :=
  find_not fun j hj => by
    by_cases c : a ≤ j
    · have : (L.getD j false == v) = false := beq_eq_false_iff_ne.2 (h4 j c hj)
      rw [this, Bool.and_false]
    · simp [c]
theorem nextO_spec (L : List Bool) (v : Bool) (a : Nat) : (∃ i, nextO L v a = some i ∧ a ≤ i ∧ i < L.length ∧ L.getD i false = v ∧ ∀ j, a ≤ j → j < i → L.getD j false ≠ v) ∨ (nextO L v a = none ∧ ∀ j, a ≤ j → j < L.length → L.getD j false ≠ v) := by
  rcases find_spec (p := fun i => decide (a ≤ i) && (L.getD i false == v)) (n := L.length) with ⟨i, h, h1, h2, h3⟩ | ⟨h, h3⟩
  · left
    rw [Bool.and_eq_true, decide_eq_true_eq, beq_iff_eq] at h2
    refine ⟨i, h, h2.1, h1, h2.2, fun j ha hj e => ?_⟩
    have := h3 j hj
    rw [e] at this; simp [ha] at this
  · right
    refine ⟨h, fun j ha hj e => ?_⟩
    have := h3 j hj
    rw [e] at this; simp [ha] at this

theorem lastO_some {L : List Bool} {v : Bool} {n i : Nat} (h2 : i < n) (h3 : L.getD i false = v) (h4 : ∀ j, i < j → j < n → L.getD j false ≠ v) : lastO L v n = some i := by
  unfold lastO
  rw [find_at (i := n - 1 - i) (by omega) (by rw [show n - 1 - (n - 1 - i) = i from by omega, h3]; exact beq_self_eq_true _) (fun j hj => beq_eq_false_iff_ne.2 (h4 _ (by omega) (by omega)))]
  simp; omega
theorem lastO_none {L : List Bool} {v : Bool} {n : Nat} (h4 : ∀ j, j < n → L.getD j false ≠ v) : lastO L v n = none := by
  unfold lastO
  rw [find_not (fun j hj => beq_eq_false_iff_ne.2 (h4 _ (by omega)))]
  rfl

theorem runO_some {L : List Bool} {v : Bool} {a n i : Nat} (h1 : a ≤ i) (h2 : i + n ≤ L.length) (h3 : allV L v i n = true) (h4 : ∀ j, a ≤ j → j < i → allV L v j n = false) : runO L v a n = some i :=
  find_at (by omega) (by rw [h3]; simp [h1, h2]) fun j hj => by
    by_cases c : a ≤ j
    · rw [h4 j c hj, Bool.and_false]
    · simp [c]
theorem runO_none {L : List Bool} {v : Bool} {a n : Nat} (h4 : ∀ j, a ≤ j → j + n ≤ L.length → allV L v j n = false) : runO L v a n = none :=
  find_not fun j hj => by
    by_cases c : a ≤ j ∧ j + n ≤ L.length
    · rw [h4 j c.1 c.2, Bool.and_false]
    · simp [c]
theorem runO_spec (L : List Bool) (v : Bool) (a n : Nat) : (∃ i, runO L v a n = some i ∧ a ≤ i ∧ i + n ≤ L.length ∧ allV L v i n = true ∧ ∀ j, a ≤ j → j < i → allV L v j n = false) ∨ (runO L v a n = none ∧ ∀ j, a ≤ j → j + n ≤ L.length → allV L v j n = false) := by
  rcases find_spec (p := fun i => decide (a ≤ i ∧ i + n ≤ L.length) && allV L v i n) (n := L.length + 1) with ⟨i, h, h1, h2, h3⟩ | ⟨h, h3⟩
  · left
    rw [Bool.and_eq_true, decide_eq_true_eq] at h2
    refine ⟨i, h, h2.1.1, h2.1.2, h2.2, fun j ha hj => ?_⟩
    have := h3 j hj
    rwa [decide_eq_true (⟨ha, by omega⟩ : a ≤ j ∧ j + n ≤ L.length), Bool.true_and] at this
  · right
    refine ⟨h, fun j ha hj => ?_⟩
    have := h3 j (by omega)
    rwa [decide_eq_true (⟨ha, hj⟩ : a ≤ j ∧ j + n ≤ L.length), Bool.true_and] at this
end Go.Proofs.Ytaiaibpcpcndgaa
