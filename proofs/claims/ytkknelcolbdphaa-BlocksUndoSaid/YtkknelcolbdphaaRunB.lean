/- Runs in memory. -/
import Derived.Test.YtkknelcolbdphaaRunV
import Derived.Test.YtkknelcolbdphaaAlloc
namespace Go.Proofs.Ytkknelcolbdphaa
open Go.RowKit
set_option maxRecDepth 100000

def runC (x : Nat × Nat) : List Value := [.int .i64 (x.1 : Int), .int .i64 (x.2 : Int)]
def runsC (R : List (Nat × Nat)) : List Value := R.flatMap runC
theorem runsC_len (R : List (Nat × Nat)) : (runsC R).length = R.length * 2 := by
  unfold runsC
  induction R with
  | nil => rfl
  | cons x r ih => rw [List.flatMap_cons, List.length_append, ih]; show 2 + _ = _; rw [List.length_cons]; omega
theorem runsC_snoc (R : List (Nat × Nat)) (f m : Nat) : runsC (R ++ [(f, m)]) = runsC R ++ [.int .i64 (f : Int), .int .i64 (m : Int)] := by unfold runsC; rw [List.flatMap_append]; rfl
theorem runsC_get (R : List (Nat × Nat)) (k : Nat) (h : k < R.length) : (runsC R)[k * 2]? = some (.int .i64 (R[k].1 : Int)) ∧ (runsC R)[k * 2 + 1]? = some (.int .i64 (R[k].2 : Int)) := by
  induction R generalizing k with
  | nil => simp at h
  | cons x r ih =>
    show (runC x ++ runsC r)[k * 2]? = _ ∧ (runC x ++ runsC r)[k * 2 + 1]? = _
    have hx : (runC x).length = 2 := rfl
    cases k with
    | zero => exact ⟨rfl, rfl⟩
    | succ k =>
      have := ih k (by simpa using h)
      rw [List.getElem?_append_right (by omega), List.getElem?_append_right (by omega), hx]
      rw [show (k + 1) * 2 - 2 = k * 2 by omega, show (k + 1) * 2 + 1 - 2 = k * 2 + 1 by omega]
      simpa using this
theorem runsC_set (S : List (Nat × Nat)) (f m m' : Nat) : (runsC (S ++ [(f, m)])).set (S.length * 2 + 1) (.int .i64 (m' : Int)) = runsC (S ++ [(f, m')]) := by
  rw [runsC_snoc, runsC_snoc, List.set_append, if_neg (by rw [runsC_len]; omega), runsC_len, show S.length * 2 + 1 - S.length * 2 = 1 by omega]; rfl
theorem box_st' (l : Lay) (v : Value) (w : World) : ∃ w0, w.alloc (.cells #[.int .i64 l.s, .int .i64 l.j, .int .i64 l.n, v] 33 (0, 0)) = w0 ∧ Row w0 w.heap.size (stA l v) 33 ∧ Below w.heap.size w w0 :=
  ⟨_, rfl, Row.new _ _ _, (Below.refl _ _).alloc (Nat.le_refl _) _⟩
theorem Row.fourS {w : World} {b T : Nat} {l : Lay} {v : Value} (h : Row w b (stA l v) T) : w.cell? ⟨b, 0, none⟩ = some (.int .i64 l.s) ∧ w.cell? ⟨b, 1, none⟩ = some (.int .i64 l.j) ∧ w.cell? ⟨b, 2, none⟩ = some (.int .i64 l.n) ∧ w.cell? ⟨b, 3, none⟩ = some v :=
  ⟨h.cell 0 _ rfl, h.cell 1 _ rfl, h.cell 2 _ rfl, h.cell 3 _ rfl⟩
/-- A row of runs in new memory. -/
abbrev OwnR (w : World) (base : Nat) (v : Value) (R : List (Nat × Nat)) : Prop := w.ownsRow base 54 2 v R.length (runsC R)
/-- The slice v reads as runs. -/
def RunsMem (w : World) (v : Value) (R : List (Nat × Nat)) : Prop :=
  (∃ a c, v = .slice a 0 c ∧ R = []) ∨
  ∃ g o c, v = .slice (some ⟨g, o, none⟩) R.length c ∧ g < w.heap.size ∧ ∀ k (h : k < R.length), w.cell? ⟨g, o + k * 2, none⟩ = some (.int .i64 (R[k].1 : Int)) ∧ w.cell? ⟨g, o + k * 2 + 1, none⟩ = some (.int .i64 (R[k].2 : Int))
theorem RunsMem.below {n : Nat} {A B : World} {v : Value} {R : List (Nat × Nat)} (h : RunsMem A v R) (hk : Below n A B) (hn : A.heap.size ≤ n) : RunsMem B v R := by
  rcases h with h | ⟨g, o, c, rfl, hg, hc⟩
  · exact .inl h
  · exact .inr ⟨g, o, c, rfl, Nat.lt_of_lt_of_le hg hk.size, fun k hk' => ⟨(hk.cell (p := ⟨g, o + k * 2, none⟩) (by show g < n; omega)).trans (hc k hk').1, (hk.cell (p := ⟨g, o + k * 2 + 1, none⟩) (by show g < n; omega)).trans (hc k hk').2⟩⟩
theorem RunsMem.val {w : World} {v : Value} {R : List (Nat × Nat)} (h : RunsMem w v R) : ∃ s c, v = .slice s R.length c := by
  rcases h with ⟨a, c, rfl, rfl⟩ | ⟨g, o, c, rfl, _⟩
  · exact ⟨a, c, rfl⟩
  · exact ⟨_, c, rfl⟩
theorem OwnR.mem {w : World} {base : Nat} {v : Value} {R : List (Nat × Nat)} (h : OwnR w base v R) : RunsMem w v R := by
  rcases h.2 with ⟨rfl, h0⟩ | ⟨g, cap, cur, rfl, _, hg, _⟩
  · exact .inl ⟨none, 0, rfl, List.eq_nil_of_length_eq_zero h0⟩
  · refine .inr ⟨g, 0, cap, rfl, (Array.getElem?_eq_some_iff.1 hg).1, fun j hj => ?_⟩
    have h1 := h.cells (g := g) rfl (j * 2) _ (runsC_get R j hj).1
    have h2 := h.cells (g := g) rfl (j * 2 + 1) _ (runsC_get R j hj).2
    rw [addr_add0] at h1 h2
    exact ⟨h1, by rw [← Nat.add_assoc] at h2; exact h2⟩
theorem Try.infoRun : (Try.prog.info? 54).map (fun i => (i.zero, i.size, i.bytes)) = some (some (.agg #[.int .i64 0, .int .i64 0]), 2, 16) := by kernel_rfl
theorem run_new (x y : Int) (w : World) : ∀ j u, [Value.int .i64 x, Value.int .i64 y][j]? = some u → (w.alloc (.cells #[.int .i64 x, .int .i64 y] 54 (0, 0))).cell? ((⟨w.heap.size, 0, none⟩ : Addr).add j) = some u := by
  intro j u hj
  rw [addr_add0, Nat.zero_add, cell_of_row _ _ _ _ _ (0, 0) (heap_alloc_new w _)]
  simpa using hj
def runsV (l : Lay) (U : List Bool) : List (Nat × Nat) := if chkE l U = 0 then runsL U else []
theorem snoc_ind {P : List Nat → Prop} (h0 : P []) (h1 : ∀ L b, P L → P (L ++ [b])) : ∀ L, P L := by
  have h : ∀ R : List Nat, P R.reverse := fun R => by
    induction R with
    | nil => exact h0
    | cons b r ih => rw [List.reverse_cons]; exact h1 _ _ ih
  intro L
  have := h L.reverse
  rwa [List.reverse_reverse] at this
theorem runsG_mem (L : List Nat) : ∀ x ∈ runsG L, x.1 ∈ L ∧ x.2 ≤ L.length := by
  refine snoc_ind (P := fun L => ∀ x ∈ runsG L, x.1 ∈ L ∧ x.2 ≤ L.length) (fun x hx => by cases hx) (fun L b ih => ?_) L
  · 
    intro x hx
    rw [runsG_snoc] at hx
    unfold runsS at hx
    rw [List.length_append, List.length_singleton]
    cases hl : (runsG L).getLast? with
    | none =>
      rw [hl] at hx
      rw [List.mem_singleton] at hx
      subst hx
      exact ⟨by simp, by simp⟩
    | some y =>
      obtain ⟨f, m⟩ := y
      rw [hl] at hx
      obtain ⟨S, hS⟩ := List.getLast?_eq_some_iff.1 hl
      simp only at hx
      by_cases he : f + m = b
      · rw [if_pos he, hS, bump_snoc] at hx
        rcases List.mem_append.1 hx with h | h
        · have := ih x (by rw [hS]; exact List.mem_append_left _ h)
          exact ⟨List.mem_append_left _ this.1, by omega⟩
        · rw [List.mem_singleton] at h
          subst h
          have := ih (f, m) (by rw [hS]; simp)
          exact ⟨List.mem_append_left _ this.1, by have := this.2; simp only at this; show m + 1 ≤ _; omega⟩
      · rw [if_neg he] at hx
        rcases List.mem_append.1 hx with h | h
        · have := ih x h
          exact ⟨List.mem_append_left _ this.1, by omega⟩
        · rw [List.mem_singleton] at h
          subst h
          exact ⟨by simp, by simp⟩
theorem runsG_len (L : List Nat) : (runsG L).length ≤ L.length := by
  refine snoc_ind (P := fun L => (runsG L).length ≤ L.length) (Nat.le_refl _) (fun L b ih => ?_) L
  · 
    rw [runsG_snoc, List.length_append, List.length_singleton]
    unfold runsS
    cases hl : (runsG L).getLast? with
    | none => simp
    | some y =>
      obtain ⟨f, m⟩ := y
      simp only
      split
      · rw [bump_len]; omega
      · rw [List.length_append, List.length_singleton]; omega
/-- One more block: the three ways. -/
theorem runsG_nil {L : List Nat} (b : Nat) (h : runsG L = []) : runsG (L ++ [b]) = [(b, 1)] := by rw [runsG_snoc, h]; rfl
theorem runsG_more {L : List Nat} {b f m : Nat} {S : List (Nat × Nat)} (h : runsG L = S ++ [(f, m)]) (he : f + m = b) : runsG (L ++ [b]) = S ++ [(f, m + 1)] := by
  rw [runsG_snoc]; unfold runsS; rw [h, List.getLast?_concat]; simp only; rw [if_pos he, bump_snoc]
theorem runsG_new {L : List Nat} {b f m : Nat} {S : List (Nat × Nat)} (h : runsG L = S ++ [(f, m)]) (he : f + m ≠ b) : runsG (L ++ [b]) = S ++ [(f, m)] ++ [(b, 1)] := by
  rw [runsG_snoc]; unfold runsS; rw [h, List.getLast?_concat]; simp only; rw [if_neg he]
end Go.Proofs.Ytkknelcolbdphaa
