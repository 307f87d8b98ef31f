/- A range over a function whose iterator may write blocks O of its own, and whose rounds may turn the blocks R alone; a round may go on, return, or break (as in the other layers). -/
import Derived.Test.YtkknelcolbdphaaWith
import Derived.RangeFuncBox
import Derived.RangeFuncNested
import Derived.RangeFuncBound
import Derived.RangeFuncCalls
import Derived.RangeFuncLeaves
import Derived.OwnWalkIn
import Derived.TacticsInMore
import Derived.LoopNIn
import Derived.LoopIn
namespace Go.Proofs.Ytkknelcolbdphaa
open Go.RowKit

theorem Kept.putObj (X : Nat → Prop) (W : World) (l : Nat) (o : Obj) (hl : X l) : Kept X W (W.putObj l o) :=
  ⟨rfl, rfl, rfl, by simp, fun k _ hx => World.putObj_heap_other (fun e => hx (e ▸ hl))⟩
theorem Kept.toBelowX {X : Nat → Prop} {A B : World} (h : Kept X A B) {n : Nat} (hn : n ≤ A.heap.size) (hx : ∀ k, X k → n ≤ k) : Below n A B :=
  h.toBelow hn hx

/-- What holds stays, whatever becomes of the blocks X, and whatever is new. -/
def Stays {α : Type} (X : Nat → Prop) (J : List α → World → Prop) : Prop := ∀ s A B, J s A → Kept X A B → J s B

/-- The iterator's contract: it hands yield the elements, one behind the other, till the round says no. -/
def SeqF {α : Type} (F : Fence) (n : Nat) (P : Program) (g : Nat) (lb : Array Value) (encs : α → Array Value) (O R : Nat → Prop) (C S Sp : List α → Prop) (W : World) : Prop :=
  ∀ (l : Nat) (J Jx : List α → World → Prop), Stays O J → Stays O Jx →
    (∀ pre x X, J pre X → W.heap.size ≤ X.heap.size → C (pre ++ [x]) → YieldAt F (n - 1) P l (encs x) X fun e X' =>
      (e = .returned (.bool true) ∧ J (pre ++ [x]) X' ∧ Kept R X X') ∨ (e = .returned (.bool false) ∧ Jx (pre ++ [x]) X')) →
    J [] W →
    CallsIn F n P g (#[.func (.yield l) #[] #[]] ++ lb) W fun e W' => (∃ v, e = .returned v) ∧ ((∃ xs, S xs ∧ J xs W') ∨ (∃ pre, Sp pre ∧ Jx pre W'))

variable {F : Fence} {n : Nat} {P : Program}

/-- What a round of the caller's may turn: not the two blocks of book-keeping. -/
def R2 (R : Nat → Prop) (B : Nat) (k : Nat) : Prop := R k ∧ k ≠ B ∧ k ≠ B + 1
def O2 (O : Nat → Prop) (B : Nat) (k : Nat) : Prop := O k ∨ k = B ∨ k = B + 1

/-- How a round may be left: it goes on, or by a jump. -/
def roundPost {α : Type} (R : Nat → Prop) (B : Nat) (I : List α → World → Prop) (Ix : Code → List α → World → Prop) (xs : List α) (W : World) : Exit → Act → World → Prop
  | .normal, _, W' => Kept (R2 R B) W W' ∧ I xs W'
  | .ret, _, W' => Kept (R2 R B) W W' ∧ Ix .ret xs W'
  | .exit id, _, W' => Kept (R2 R B) W W' ∧ Ix (.exit id) xs W'
  | _, _, _ => False

theorem range_law {α : Type} {g : Operand} {ps : Array Tmp} {assign body : Code} {Q : Exit → Act → World → Prop} {a : Act} {w : World}
    (hro : F.round = none) (h1 : 1 ≤ n) {gf : Nat} {lb : Array Value} (hg : a.eval g = .func (.func gf) #[] lb) (hFg : F.fn gf) (eg : ∀ args w, (callFunc gf args).run P w = .ok (.enter gf args) w)
    {encs : α → Array Value} {O R : Nat → Prop} {C S Sp : List α → Prop} (hR1 : R (w.heap.size + 1))
    (hseq : ∀ W1, Below w.heap.size w W1 → W1.heap.size = w.heap.size + 2 → SeqF F (n - 1) P gf lb encs O R C S Sp W1)
    (hps : ∀ x, (encs x).size = ps.size)
    (hO : ∀ k, O k → k < w.heap.size) (I : List α → World → Prop) (Ix : Code → List α → World → Prop) (hI : Stays (O2 O w.heap.size) I) (hIx : ∀ c, Stays (O2 O w.heap.size) (Ix c)) (h0 : I [] w)
    (hround : ∀ (pre : List α) (x : α) (W : World), I pre W → w.heap.size + 2 ≤ W.heap.size → C (pre ++ [x]) → ∀ (K : Act → World → Prop),
      (∀ a' W', Kept (R2 R w.heap.size) W W' → (∀ W2, Kept (· = w.heap.size + 1) W' W2 →
        body.wpIn (F.inRound (w.heap.size + 1)) (n - 1 - 1) P (roundPost R w.heap.size I Ix (pre ++ [x]) W2) a' W2) → K a' W') →
      assign.wpIn (F.inRound (w.heap.size + 1)) (n - 1 - 1) P (Exit.then K (fun _ _ _ => False)) { tmps := (ps.zip (encs x)).foldl (fun t (p, v) => t.setIfInBounds p v) a.tmps, defers := [] } W)
    (hdone : ∀ (xs : List α) (W : World), S xs → I xs W → W.heap[w.heap.size]? = some (.deferred (some [])) → Q .normal { a with defers := { target := .collected w.heap.size, args := #[] } :: a.defers } W)
    (hstop : ∀ (c : Code) (pre : List α) (W : World), Sp pre → Ix c pre W → W.heap[w.heap.size]? = some (.deferred (some [])) → c.wpIn F n P Q { a with defers := { target := .collected w.heap.size, args := #[] } :: a.defers } W) :
    (Code.rangeFunc g ps assign body).wpIn F n P Q a w := by
  refine wpIn_rangeFunc ?_
  intro fn hfn
  rw [hro]
  obtain ⟨rec, hrec⟩ : ∃ rec : LoopState → Option Code → Loop, rec = fun st pe => { state := st, pending := pe, fn, tmps := a.tmps, params := ps, assign, body, defers := w.heap.size } := ⟨_, rfl⟩
  obtain ⟨W1, hW1⟩ : ∃ W1, (w.alloc (.deferred (some []))).alloc (.loop (rec .ready none)) = W1 := ⟨_, rfl⟩
  have hs1 : W1.heap.size = w.heap.size + 2 := by rw [← hW1]; simp
  have hL1 : W1.heap[w.heap.size + 1]? = some (.loop (rec .ready none)) := by
    rw [← hW1]; have := World.alloc_heap_new (w.alloc (.deferred (some []))) (.loop (rec .ready none)); rwa [World.size_alloc] at this
  have hK1 : W1.heap[w.heap.size]? = some (.deferred (some [])) := by
    rw [← hW1]; exact (Below.heap_alloc _ _ _ (by simp)).trans (World.alloc_heap_new w _)
  have hkeep : Kept (fun _ => False) w W1 := by rw [← hW1]; exact ((Kept.refl _ w).alloc _).alloc _
  have hI1 : I [] W1 := hI _ _ _ h0 (hkeep.mono (fun _ h => h.elim))
  have hb1 : Below w.heap.size w W1 := hkeep.toBelowX (Nat.le_refl _) (fun _ h => h.elim)
  refine ⟨w.heap.size + 1, [{ target := .collected w.heap.size, args := #[] }], W1, { target := .fn (.func gf) lb, args := #[.func (.yield (w.heap.size + 1)) #[] #[]] }, W1, gf,
    #[.func (.yield (w.heap.size + 1)) #[] #[]] ++ lb, W1, ?_, ?_, ?_, ?_, fun _ => h1, ?_⟩
  · rw [← hW1, hrec]; exact run_enterLoop_outer _ _ _ _ _
  · simp only [resolve, hg]
    simp [go_sem]
  · intro f' hf'; simp [Target.leads] at hf'; subst hf'; exact hFg
  · simp [invoke, go_sem, eg]
  · refine (hseq W1 hb1 hs1 (w.heap.size + 1)
      (fun pre W => I pre W ∧ W.heap[w.heap.size + 1]? = some (.loop (rec .ready none)) ∧ W.heap[w.heap.size]? = some (.deferred (some [])))
      (fun pre W => ∃ c, Ix c pre W ∧ W.heap[w.heap.size + 1]? = some (.loop (rec .done (some c))) ∧ W.heap[w.heap.size]? = some (.deferred (some [])))
      ?_ ?_ ?_ ⟨hI1, hL1, hK1⟩).mono ?_
    · rintro s A B ⟨hi, hl, hk⟩ hab
      exact ⟨hI _ _ _ hi (hab.mono (fun k h => .inl h)), (hab.block _ (Array.getElem?_eq_some_iff.1 hl).1 (fun h => by have := hO _ h; omega)).trans hl, (hab.block _ (Array.getElem?_eq_some_iff.1 hk).1 (fun h => by have := hO _ h; omega)).trans hk⟩
    · rintro s A B ⟨c, hi, hl, hk⟩ hab
      exact ⟨c, hIx _ _ _ _ hi (hab.mono (fun k h => .inl h)), (hab.block _ (Array.getElem?_eq_some_iff.1 hl).1 (fun h => by have := hO _ h; omega)).trans hl, (hab.block _ (Array.getElem?_eq_some_iff.1 hk).1 (fun h => by have := hO _ h; omega)).trans hk⟩
    · rintro pre x W ⟨hi, hl, hk⟩ hbf hC
      have hy := run_yield (P := P) (args := encs x) hl (by rw [hrec]; exact hps x)
      rw [hrec] at hy
      refine ⟨fn, _, assign, body, hy, roundIn_of_wpIn hfn (hround pre x W hi (by omega) hC _ ?_)⟩
      clear hy
      intro a' Wa hka hbody
      have hl' : Wa.heap[w.heap.size + 1]? = some (.loop (rec .ready none)) := (hka.block _ (by omega) (by unfold R2; omega)).trans hl
      have hk' : Wa.heap[w.heap.size]? = some (.deferred (some [])) := (hka.block _ (by omega) (by unfold R2; omega)).trans hk
      have hlt : w.heap.size + 1 < Wa.heap.size := (Array.getElem?_eq_some_iff.1 hl').1
      refine ⟨_, run_beginRound hl' (by rw [hrec]), ?_⟩
      have hl2 : (Wa.putObj (w.heap.size + 1) (.loop { rec .ready none with state := .busy })).heap[w.heap.size + 1]? = some (.loop { rec .ready none with state := .busy }) := World.putObj_heap_same hlt
      have hk2 : (Wa.putObj (w.heap.size + 1) (.loop { rec .ready none with state := .busy })).heap[w.heap.size]? = some (.deferred (some [])) := (World.putObj_heap_other (by omega)).trans hk'
      have hkw : Kept (· = w.heap.size + 1) Wa (Wa.putObj (w.heap.size + 1) (.loop { rec .ready none with state := .busy })) := Kept.putObj _ _ _ _ rfl
      have hsW : w.heap.size + 2 ≤ Wa.heap.size := by have := hka.size; omega
      refine wpIn_mono (hbody _ hkw) ?_
      have fin : ∀ (jump : Option Code) (W3 : World), Kept (R2 R w.heap.size) (Wa.putObj (w.heap.size + 1) (.loop { rec .ready none with state := .busy })) W3 →
          (Instr.endRound (w.heap.size + 1) jump).run P W3 = .ok (.bool jump.isNone) (W3.putObj (w.heap.size + 1) (.loop (rec (if jump.isNone then .ready else .done) jump))) ∧
          (W3.putObj (w.heap.size + 1) (.loop (rec (if jump.isNone then .ready else .done) jump))).heap[w.heap.size + 1]? = some (.loop (rec (if jump.isNone then .ready else .done) jump)) ∧
          (W3.putObj (w.heap.size + 1) (.loop (rec (if jump.isNone then .ready else .done) jump))).heap[w.heap.size]? = some (.deferred (some [])) ∧
          Kept R W (W3.putObj (w.heap.size + 1) (.loop (rec (if jump.isNone then .ready else .done) jump))) := fun jump W3 hk3 => by
        have hl3 := (hk3.block (w.heap.size + 1) (by simp; omega) (by unfold R2; omega)).trans hl2
        have := run_endRound (P := P) jump hl3
        rw [hrec] at this ⊢
        refine ⟨this, World.putObj_heap_same (Array.getElem?_eq_some_iff.1 hl3).1, (World.putObj_heap_other (by omega)).trans ((hk3.block _ (by simp; omega) (by unfold R2; omega)).trans hk2), ?_⟩
        have f1 : ∀ k, R2 R w.heap.size k → R k := fun k h => h.1
        exact ((hka.mono f1).trans ((hkw.mono (fun k (e : k = _) => by rw [e]; exact hR1)).trans (hk3.mono f1))).trans (Kept.putObj _ _ _ _ hR1)
      rintro e a3 W3 hp
      cases e with
      | normal =>
        obtain ⟨hk3, hi3⟩ := hp
        obtain ⟨hr, hl4, hk4, hf4⟩ := fin none W3 hk3
        exact ⟨_, _, hr, .inl ⟨rfl, ⟨hI _ _ _ hi3 (Kept.putObj _ _ _ _ (.inr (.inr rfl))), hl4, hk4⟩, hf4⟩⟩
      | ret =>
        obtain ⟨hk3, hi3⟩ := hp
        obtain ⟨hr, hl4, hk4, _⟩ := fin (some .ret) W3 hk3
        exact ⟨_, _, hr, .inr ⟨rfl, _, hIx _ _ _ _ hi3 (Kept.putObj _ _ _ _ (.inr (.inr rfl))), hl4, hk4⟩⟩
      | exit id =>
        obtain ⟨hk3, hi3⟩ := hp
        obtain ⟨hr, hl4, hk4, _⟩ := fin (some (.exit id)) W3 hk3
        exact ⟨_, _, hr, .inr ⟨rfl, _, hIx _ _ _ _ hi3 (Kept.putObj _ _ _ _ (.inr (.inr rfl))), hl4, hk4⟩⟩
      | goto t => exact hp.elim
      | panic ch => exact hp.elim
      | outgrown => exact hp.elim
    · rintro e W2 ⟨⟨v, rfl⟩, (⟨xs, hS, hi, hl, hk⟩ | ⟨pre, hSp, c, hi, hl, hk⟩)⟩
      · exact ⟨none, _, by have := run_endLoop (P := P) hl (by rw [hrec]; simp); rw [hrec] at this; exact this, hdone xs _ hS (hI _ _ _ hi (Kept.putObj _ _ _ _ (.inr (.inr rfl)))) ((World.putObj_heap_other (by omega)).trans hk)⟩
      · exact ⟨some c, _, by have := run_endLoop (P := P) hl (by rw [hrec]; simp); rw [hrec] at this; exact this, hstop c pre _ hSp (hIx _ _ _ _ hi (Kept.putObj _ _ _ _ (.inr (.inr rfl)))) ((World.putObj_heap_other (by omega)).trans hk)⟩
end Go.Proofs.Ytkknelcolbdphaa
