/- What PathsOrder says, of plain lists. -/
import Derived.Test.YtbgfeonlnhlbfaaMovesV
namespace Go.Proofs.Ytbgfeonlnhlbfaa

theorem sameB_iff {a b : List ByteArray} : sameB a b = true ↔ bsL a = bsL b := by unfold sameB; exact decide_eq_true_iff
section
variable {A B C : List ByteArray}
theorem order_zero : (cmpP (bsL A) (bsL B) == 0) = sameB A B := by
  rw [Bool.eq_iff_iff, beq_iff_eq, sameB_iff]; exact cmpP_tot.eq _ _
theorem order_neg : cmpP (bsL B) (bsL A) = - cmpP (bsL A) (bsL B) := cmpP_tot.neg _ _
theorem order_low : -1 ≤ cmpP (bsL A) (bsL B) ∧ cmpP (bsL A) (bsL B) ≤ 1 := by
  have := cmpP_tot.low (bsL A) (bsL B); omega
theorem order_trans (h : cmpP (bsL A) (bsL B) ≤ 0) (k : cmpP (bsL B) (bsL C) ≤ 0) : cmpP (bsL A) (bsL C) ≤ 0 := cmpP_tot.trans _ _ _ h k
theorem order_under (h : underB A B = true) : 0 ≤ cmpP (bsL A) (bsL B) := cmpP_under (under_pre.1 h)
theorem com_under1 (h : checkE (bsL A) = 0) (k : checkE (bsL B) = 0) : bothE A (CommonP A B) = 0 ∧ UnderV A (CommonP A B) = true ∧ bothE B (CommonP A B) = 0 ∧ UnderV B (CommonP A B) = true ∧ CommonP A B = A.take (comN (bsL A) (bsL B)) := by
  have hc : CommonP A B = A.take (comN (bsL A) (bsL B)) := by unfold CommonP; rw [if_pos (bothE_zero.2 ⟨h, k⟩)]
  have hk : checkE (bsL (CommonP A B)) = 0 := by rw [hc, bsL_take]; exact check_take h _
  have h1 : bothE A (CommonP A B) = 0 := bothE_zero.2 ⟨h, hk⟩
  have h2 : bothE B (CommonP A B) = 0 := bothE_zero.2 ⟨k, hk⟩
  refine ⟨h1, ?_, h2, ?_, hc⟩
  · unfold UnderV; rw [h1]
    show (true && _) = true
    rw [Bool.true_and, under_pre, hc, bsL_take]; exact List.take_prefix _ _
  · unfold UnderV; rw [h2]
    show (true && _) = true
    rw [Bool.true_and, under_pre, hc, bsL_take, comN_take]; exact List.take_prefix _ _
theorem com_same (h : checkE (bsL A) = 0) (k : checkE (bsL B) = 0) : underB A B = sameB (CommonP A B) B := by
  have hc : CommonP A B = A.take (comN (bsL A) (bsL B)) := by unfold CommonP; rw [if_pos (bothE_zero.2 ⟨h, k⟩)]
  rw [Bool.eq_iff_iff, under_pre, sameB_iff, hc, bsL_take, ← comN_pre]
  constructor
  · intro e; rw [comN_take, e, List.take_length]
  · intro e
    have := congrArg List.length e
    rw [List.length_take] at this
    have h1 := (comN_le (bsL A) (bsL B)).1
    have h2 := (comN_le (bsL A) (bsL B)).2
    omega
theorem com_len (h : checkE (bsL A) = 0) (k : checkE (bsL B) = 0) : (CommonP A B).length = comN (bsL A) (bsL B) := by
  have hc : CommonP A B = A.take (comN (bsL A) (bsL B)) := by unfold CommonP; rw [if_pos (bothE_zero.2 ⟨h, k⟩)]
  have h1 := (comN_le (bsL A) (bsL B)).1
  rw [bsL_len] at h1
  rw [hc, List.length_take]; omega
theorem order_pre (h : comN (bsL A) (bsL B) = A.length) : cmpP (bsL A) (bsL B) ≤ 0 := by
  have hp : bsL A <+: bsL B := by
    have h1 := comN_take (bsL A) (bsL B)
    rw [h, ← bsL_len A, List.take_length] at h1
    rw [h1]; exact List.take_prefix _ _
  have h2 := cmpP_under hp
  have := cmpP_tot.neg (bsL A) (bsL B)
  omega
/-- Where they part. -/
theorem com_part : comN (bsL A) (bsL B) = A.length ∨ comN (bsL A) (bsL B) = B.length ∨ ∃ (h1 : comN (bsL A) (bsL B) < A.length) (h2 : comN (bsL A) (bsL B) < B.length), A[comN (bsL A) (bsL B)].data.toList ≠ B[comN (bsL A) (bsL B)].data.toList := by
  have h1 := (comN_le (bsL A) (bsL B)).1
  have h2 := (comN_le (bsL A) (bsL B)).2
  rw [bsL_len] at h1 h2
  by_cases e1 : comN (bsL A) (bsL B) = A.length
  · exact .inl e1
  by_cases e2 : comN (bsL A) (bsL B) = B.length
  · exact .inr (.inl e2)
  refine .inr (.inr ⟨by omega, by omega, fun he => ?_⟩)
  have key : ∀ (p q : List Bs) (k : Nat), comN p q = k → ∀ (h1 : k < p.length) (h2 : k < q.length), p[k] ≠ q[k] := by
    intro p
    induction p with
    | nil => intro q k _ h1; simp at h1
    | cons a p ih =>
      intro q k hk h1 h2
      cases q with
      | nil => simp at h2
      | cons b q =>
        rw [comN] at hk
        split at hk
        · subst hk
          simp only [List.getElem_cons_succ]
          exact ih q _ rfl (by simpa using h1) (by simpa using h2)
        · rename_i hab; subst hk; simpa using hab
  have := key (bsL A) (bsL B) _ rfl (by rw [bsL_len]; omega) (by rw [bsL_len]; omega)
  apply this
  rw [List.getElem_map, List.getElem_map]; exact he
end
theorem StrsAt.cap {w : World} {v : Value} {ss : List ByteArray} (h : StrsAt w v ss) : ∃ a c, v = .slice a ss.length c ∧ ss.length ≤ c := by
  rcases h with ⟨a, c, rfl, rfl⟩ | ⟨b, o, c, rfl, hc, _⟩
  · exact ⟨a, c, rfl, Nat.zero_le _⟩
  · exact ⟨_, c, rfl, hc⟩
end Go.Proofs.Ytbgfeonlnhlbfaa
