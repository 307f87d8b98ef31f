/- What PathsMoves says, of plain lists. -/
import Derived.Test.YtbgfeonlnhlbfaaMove
namespace Go.Proofs.Ytbgfeonlnhlbfaa

theorem bsL_app (a b : List ByteArray) : bsL (a ++ b) = bsL a ++ bsL b := by simp [bsL]
theorem bsL_drop (a : List ByteArray) (k : Nat) : bsL (a.drop k) = (bsL a).drop k := by simp [bsL, List.map_drop]
theorem bsL_take (a : List ByteArray) (k : Nat) : bsL (a.take k) = (bsL a).take k := by simp [bsL, List.map_take]
theorem bsL_len (a : List ByteArray) : (bsL a).length = a.length := by simp [bsL]
theorem under_pre {p q : List ByteArray} : underB p q = true ↔ bsL q <+: bsL p := by
  unfold underB; rw [decide_eq_true_iff, ← bsL_len q, comN_pre]
theorem check_app {p q : List Bs} (hp : checkE p = 0) (hq : checkE q = 0) (hl : p.length + q.length ≤ 8) : checkE (p ++ q) = 0 := by
  rw [checkE_zero] at *
  refine ⟨by rw [List.length_append]; exact hl, fun s hs => ?_⟩
  rcases List.mem_append.1 hs with h | h
  · exact hp.2 s h
  · exact hq.2 s h
theorem check_drop {p : List Bs} (hp : checkE p = 0) (k : Nat) : checkE (p.drop k) = 0 := by
  rw [checkE_zero] at *
  exact ⟨by rw [List.length_drop]; omega, fun s hs => hp.2 s (List.mem_of_mem_drop hs)⟩
theorem check_take {p : List Bs} (hp : checkE p = 0) (k : Nat) : checkE (p.take k) = 0 := by
  rw [checkE_zero] at *
  exact ⟨by rw [List.length_take]; omega, fun s hs => hp.2 s (List.mem_of_mem_take hs)⟩

/-- What a Move that went well says. -/
structure Moved (A C T : List ByteArray) : Prop where
  a : checkE (bsL A) = 0
  c : checkE (bsL C) = 0
  t : checkE (bsL T) = 0
  pre : bsL C <+: bsL A
  len : T.length + (A.length - C.length) ≤ 8
  res : MoveP A C T = T ++ A.drop C.length
theorem moved {A C T : List ByteArray} (h : MoveE A C T = 0) : Moved A C T := by
  unfold MoveE at h
  split at h
  · rename_i h0
    split at h
    · rename_i hu
      have hz := threeE_zero.1 h0
      unfold concE at h
      split at h
      · omega
      · rename_i hl
        rw [List.length_drop] at hl
        exact ⟨hz.1, hz.2.1, hz.2.2, under_pre.1 hu, by omega, by unfold MoveP concP; rw [if_pos ⟨h0, hu⟩, if_neg (by rw [List.length_drop]; exact hl)]⟩
    · omega
  · rename_i h0; exact absurd h h0
theorem MoveP_err {A C T : List ByteArray} (h : MoveE A C T ≠ 0) : MoveP A C T = [] := by
  unfold MoveP; split
  · rename_i hc
    unfold MoveE at h; rw [if_pos hc.1, if_pos hc.2] at h
    unfold concE at h; unfold concP
    split at h
    · rename_i h8; rw [if_pos h8]
    · exact absurd rfl h
  · rfl

section
variable {A B C T : List ByteArray}
theorem Moved.le (h : Moved A C T) : C.length ≤ A.length := by have := h.pre.length_le; rwa [bsL_len, bsL_len] at this
theorem Moved.check (h : Moved A C T) : checkE (bsL (T ++ A.drop C.length)) = 0 := by
  rw [bsL_app]
  exact check_app h.t (by rw [bsL_drop]; exact check_drop h.a _) (by rw [bsL_len, bsL_len, List.length_drop]; exact h.len)
theorem Moved.under (h : Moved A C T) : underB (T ++ A.drop C.length) T = true := by
  rw [under_pre, bsL_app]; exact List.prefix_append _ _
theorem Moved.a8 (h : Moved A C T) : A.length ≤ 8 := by have := (checkE_zero.1 h.a).1; rwa [bsL_len] at this
theorem Moved.backE (h : Moved A C T) : MoveE (T ++ A.drop C.length) T C = 0 := by
  unfold MoveE
  rw [if_pos (threeE_zero.2 ⟨h.check, h.t, h.c⟩), if_pos h.under]
  unfold concE
  have h1 := h.le; have h2 := h.a8
  rw [if_neg (by rw [List.drop_left, List.length_drop]; omega)]
theorem Moved.backP (h : Moved A C T) : MoveP (T ++ A.drop C.length) T C = C ++ A.drop C.length := by
  unfold MoveP
  rw [if_pos ⟨threeE_zero.2 ⟨h.check, h.t, h.c⟩, h.under⟩]
  unfold concP
  have h1 := h.le; have h2 := h.a8
  rw [if_neg (by rw [List.drop_left, List.length_drop]; omega), List.drop_left]
theorem Moved.split (h : Moved A C T) : bsL A = bsL C ++ bsL (A.drop C.length) := by
  obtain ⟨t, ht⟩ := h.pre
  rw [bsL_drop, ← ht, ← bsL_len C, List.drop_left]
theorem Moved.same (h : Moved A C T) : sameB (C ++ A.drop C.length) A = true := by
  unfold sameB; rw [decide_eq_true_iff, bsL_app, h.split]
theorem Moved.underV (h : Moved A C T) : UnderV (T ++ A.drop C.length) T = true := by
  unfold UnderV; rw [h.under, Bool.and_true, decide_eq_true_iff]; exact bothE_zero.2 ⟨h.check, h.t⟩
theorem Moved.underE (h : Moved A C T) : bothE (T ++ A.drop C.length) T = 0 := bothE_zero.2 ⟨h.check, h.t⟩
theorem moved_both (h : Moved A C T) (k : Moved B C T) : bothE A B = 0 ∧ bothE (T ++ A.drop C.length) (T ++ B.drop C.length) = 0 ∧ compareV (T ++ A.drop C.length) (T ++ B.drop C.length) = compareV A B := by
  have h1 := bothE_zero.2 ⟨h.a, k.a⟩
  have h2 := bothE_zero.2 ⟨h.check, k.check⟩
  refine ⟨h1, h2, ?_⟩
  unfold compareV
  rw [if_pos h1, if_pos h2, bsL_app, bsL_app, cmpP_app, h.split, k.split, cmpP_app]
end
end Go.Proofs.Ytbgfeonlnhlbfaa
