/- The reference's width, form, low, groups. -/
import Derived.Test.YtnocmkjaifjgfaaDoorRApp
namespace Go.Proofs.YtnocmkjaifjgfaaDoor.R
open Go.RowKit
attribute [local go_sem ↓] appB_eq

theorem eqN {a b : Nat} (h : a = b) : ((a : Int) == (b : Int)) = true := by simp [h]
theorem neN {a b : Nat} (h : ¬ a = b) : ((a : Int) == (b : Int)) = false := by simp; omega
theorem eqN' {a b : Nat} (h : a = b) : ((a : Int) != (b : Int)) = false := by simp [h]
theorem neN' {a b : Nat} (h : ¬ a = b) : ((a : Int) != (b : Int)) = true := by simp; omega
theorem kindB_of {c : Nat} (h : 0 < widV c) : kindB c = true := by
  unfold kindB
  rcases wid_cases c with h' | ⟨rfl, _⟩ | ⟨rfl, _⟩ | ⟨rfl, _⟩ | ⟨rfl, _⟩
  · omega
  all_goals decide
theorem kindB_no {c : Nat} (h0 : widV c = 0) (h1 : ¬ c = 118) (h2 : ¬ c = 115) (h3 : ¬ c = 108) : kindB c = false := by
  unfold kindB
  refine decide_eq_false ?_
  rintro (rfl | rfl | rfl | rfl | rfl | rfl | rfl)
  · exact absurd h0 (by decide)
  · exact absurd h0 (by decide)
  · exact absurd h0 (by decide)
  · exact absurd h0 (by decide)
  · exact h1 rfl
  · exact h2 rfl
  · exact h3 rfl

end Go.Proofs.YtnocmkjaifjgfaaDoor.R
