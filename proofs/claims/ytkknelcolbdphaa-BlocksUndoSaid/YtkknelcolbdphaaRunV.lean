/- Runs of free blocks: plain lists. -/
import Derived.Test.YtkknelcolbdphaaVal
namespace Go.Proofs.Ytkknelcolbdphaa

/-- One more at the end of the last run. -/
def bump : List (Nat × Nat) → List (Nat × Nat)
  | [] => []
  | [(f, m)] => [(f, m + 1)]
  | x :: y :: r => x :: bump (y :: r)
theorem bump_snoc (R : List (Nat × Nat)) (f m : Nat) : bump (R ++ [(f, m)]) = R ++ [(f, m + 1)] := by
  induction R with
  | nil => rfl
  | cons x r ih =>
    cases r with
    | nil => rfl
    | cons y r => show x :: bump (y :: r ++ [(f, m)]) = _; rw [ih]; rfl
theorem bump_len : ∀ R, (bump R).length = R.length
  | [] => rfl
  | [(_, _)] => rfl
  | x :: y :: r => by show (bump (y :: r)).length + 1 = _; rw [bump_len]; rfl
/-- The runs among the first k blocks. -/
def runsP (U : List Bool) : Nat → List (Nat × Nat)
  | 0 => []
  | k + 1 => if U.getD k false then runsP U k else if k = 0 ∨ U.getD (k - 1) false = true then runsP U k ++ [(k, 1)] else bump (runsP U k)
def runsL (U : List Bool) : List (Nat × Nat) := runsP U U.length
/-- What a run list looks like at the place k. -/
structure RunsAt (U : List Bool) (k : Nat) (R : List (Nat × Nat)) : Prop where
  one : 0 < k → U.getD (k - 1) false = false → ∃ S f m, R = S ++ [(f, m)] ∧ f + m = k ∧ 1 ≤ m ∧ (∀ x ∈ S, x.1 + x.2 < f)
  two : (k = 0 ∨ U.getD (k - 1) false = true) → ∀ x ∈ R, x.1 + x.2 < k
  three : ∀ x ∈ R, 1 ≤ x.2
  asc : R.Pairwise fun x y => x.1 + x.2 < y.1
theorem runsAt (U : List Bool) : ∀ k, RunsAt U k (runsP U k)
  | 0 => ⟨fun h => by omega, fun _ => by simp [runsP], by simp [runsP], by simp [runsP]⟩
  | k + 1 => by
    have ih := runsAt U k
    unfold runsP
    cases hu : U.getD k false with
    | true =>
      simp only [if_true]
      refine ⟨fun _ h => absurd h (by rw [Nat.add_sub_cancel, hu]; simp), fun _ => ?_, ih.three, ih.asc⟩
      intro x hx
      by_cases hc : k = 0 ∨ U.getD (k - 1) false = true
      · have := ih.two hc x hx; omega
      · obtain ⟨S, f, m, e, hf, _, hS⟩ := ih.one (by omega) (by cases h : U.getD (k - 1) false with | true => exact absurd (.inr h) hc | false => rfl)
        rw [e] at hx
        rcases List.mem_append.1 hx with h | h
        · have := hS x h; omega
        · rw [List.mem_singleton] at h; subst h; simp only; omega
    | false =>
      simp only [Bool.false_eq_true, if_false]
      by_cases hc : k = 0 ∨ U.getD (k - 1) false = true
      · rw [if_pos hc]
        have h2 := ih.two hc
        refine ⟨fun _ _ => ⟨_, k, 1, rfl, rfl, Nat.le_refl _, h2⟩, fun h => ?_, ?_, ?_⟩
        · rcases h with h | h
          · omega
          · rw [Nat.add_sub_cancel, hu] at h; cases h
        · intro x hx
          rcases List.mem_append.1 hx with h | h
          · exact ih.three x h
          · rw [List.mem_singleton] at h; subst h; exact Nat.le_refl _
        · rw [List.pairwise_append]
          refine ⟨ih.asc, List.pairwise_singleton _ _, fun x hx y hy => ?_⟩
          rw [List.mem_singleton] at hy; subst hy; exact h2 x hx
      · rw [if_neg hc]
        obtain ⟨S, f, m, e, hf, h1, hS⟩ := ih.one (by omega) (by cases h : U.getD (k - 1) false with | true => exact absurd (.inr h) hc | false => rfl)
        have hasc := ih.asc
        have hthr := ih.three
        rw [e] at hasc hthr ⊢
        rw [bump_snoc]
        refine ⟨fun _ _ => ⟨S, f, m + 1, rfl, by omega, by omega, hS⟩, fun h => ?_, ?_, ?_⟩
        · rcases h with h | h
          · omega
          · rw [Nat.add_sub_cancel, hu] at h; cases h
        · intro x hx
          rcases List.mem_append.1 hx with h | h
          · exact hthr x (List.mem_append_left _ h)
          · rw [List.mem_singleton] at h; subst h; show 1 ≤ m + 1; omega
        · rw [List.pairwise_append] at hasc ⊢
          refine ⟨hasc.1, List.pairwise_singleton _ _, fun x hx y hy => ?_⟩
          rw [List.mem_singleton] at hy; subst hy; exact hS x hx

/-- What the program does with one more free block. -/
def runsS (R : List (Nat × Nat)) (b : Nat) : List (Nat × Nat) :=
  match R.getLast? with
  | none => [(b, 1)]
  | some (f, m) => if f + m = b then bump R else R ++ [(b, 1)]
def runsG (L : List Nat) : List (Nat × Nat) := L.foldl runsS []
theorem runsG_snoc (L : List Nat) (b : Nat) : runsG (L ++ [b]) = runsS (runsG L) b := by unfold runsG; rw [List.foldl_append]; rfl
theorem runsG_free (U : List Bool) : ∀ k, k ≤ U.length → runsG (freeP U 0 k) = runsP U k
  | 0, _ => rfl
  | k + 1, h => by
    have ih := runsG_free U k (by omega)
    have hm : (0 + k) % U.length = k := mod_small (by omega)
    unfold runsP
    cases hu : U.getD k false with
    | true => rw [freeP_used (by rw [hm]; exact hu), ih]; rfl
    | false =>
      rw [freeP_free (by rw [hm]; exact hu), hm, runsG_snoc, ih]
      simp only [Bool.false_eq_true, if_false]
      have hr := runsAt U k
      by_cases hc : k = 0 ∨ U.getD (k - 1) false = true
      · rw [if_pos hc]
        unfold runsS
        cases hl : (runsP U k).getLast? with
        | none => rw [List.getLast?_eq_none_iff.1 hl]; rfl
        | some x =>
          have hx := hr.two hc x (List.mem_of_getLast? hl)
          obtain ⟨f, m⟩ := x
          show (if f + m = k then _ else _) = _
          rw [if_neg (by simp only at hx; omega)]
      · rw [if_neg hc]
        obtain ⟨S, f, m, e, hf, _⟩ := hr.one (by omega) (by cases h : U.getD (k - 1) false with | true => exact absurd (.inr h) hc | false => rfl)
        unfold runsS
        rw [e, List.getLast?_concat]
        show (if f + m = k then _ else _) = _
        rw [if_pos hf]
theorem runsP_len (U : List Bool) : ∀ k, (runsP U k).length ≤ k
  | 0 => Nat.le_refl _
  | k + 1 => by
    have := runsP_len U k
    unfold runsP
    split
    · omega
    · split
      · simp; omega
      · rw [bump_len]; omega
/-- How many blocks runs have. -/
def sumR (R : List (Nat × Nat)) : Nat := (R.map (·.2)).foldl (· + ·) 0
theorem sumR_snoc (R : List (Nat × Nat)) (f m : Nat) : sumR (R ++ [(f, m)]) = sumR R + m := by unfold sumR; simp
theorem sumR_runs (U : List Bool) : ∀ k, k ≤ U.length → sumR (runsP U k) = (freeP U 0 k).length
  | 0, _ => rfl
  | k + 1, h => by
    have ih := sumR_runs U k (by omega)
    have hm : (0 + k) % U.length = k := mod_small (by omega)
    unfold runsP
    cases hu : U.getD k false with
    | true => rw [freeP_used (by rw [hm]; exact hu), ← ih]; rfl
    | false =>
      rw [freeP_free (by rw [hm]; exact hu), List.length_append, ← ih]
      simp only [Bool.false_eq_true, if_false]
      by_cases hc : k = 0 ∨ U.getD (k - 1) false = true
      · rw [if_pos hc, sumR_snoc]; rfl
      · rw [if_neg hc]
        obtain ⟨S, f, m, e, hf, _⟩ := (runsAt U k).one (by omega) (by cases h : U.getD (k - 1) false with | true => exact absurd (.inr h) hc | false => rfl)
        rw [e, bump_snoc, sumR_snoc, sumR_snoc]; rfl
end Go.Proofs.Ytkknelcolbdphaa
