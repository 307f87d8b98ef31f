/- Alloc: its boxes, its results. -/
import Derived.Test.YtkknelcolbdphaaCount
import Derived.Stop.RegionWithIn
import Derived.RegionIn
import Derived.BigRegionIn
namespace Go.Proofs.Ytkknelcolbdphaa
open Go.RowKit
set_option maxRecDepth 100000

/-- A row of numbers in new memory. -/
abbrev OwnN (w : World) (base : Nat) (v : Value) (L : List Nat) : Prop := w.ownsRow base 3 1 v L.length (L.map natV)
theorem OwnN.at_ {w : World} {base : Nat} {v : Value} {L : List Nat} (h : OwnN w base v L) : NatsAt w v L := rowAt_own h
theorem OwnN.sub {w : World} {base base' : Nat} {v : Value} {L : List Nat} (h : OwnN w base v L) (hb : base' ≤ base) : OwnN w base' v L := World.ownsRow.mono h hb
theorem OwnN.below {A B : World} {base n : Nat} {v : Value} {U : List Nat} (h : OwnN A base v U) (hk : Below n A B) (hn : A.heap.size ≤ n) : OwnN B base v U :=
  World.ownsRow.kept (row := none) h ⟨hk.os, hk.tape, hk.output, hk.size, fun k hk2 _ => hk.block k (by omega)⟩ (by
    cases hv : v.ownBlock with
    | none => exact .inl rfl
    | some k => exact .inr (by simp))
theorem row_kept {X : Nat → Prop} {W W' : World} {base e size n : Nat} {v : Value} {xs : List Value} (h : W.ownsRow base e size v n xs) (hk : Kept X W W') (hx : ∀ g, base ≤ g → v.ownBlock = some g → ¬ X g) : W'.ownsRow base e size v n xs := by
  rcases h with ⟨h1, h2 | ⟨g, cap, cur, rfl, hb, hg, r1, r2, r3⟩⟩
  · exact ⟨h1, .inl h2⟩
  · exact ⟨h1, .inr ⟨g, cap, cur, rfl, hb, (hk.block g (bf_lt hg) (hx g hb rfl)).trans hg, r1, r2, r3⟩⟩
theorem bodyRet_alloc {fn : Func} {p q r : Tmp} {T' : Nat} (h : fn.results = #[.cell p 33, .cell q 40, .tmp r]) {tmps : Array Value} {w : World} {g i c n : Nat} {cs : Array Value} {a : Option Addr} {v : Value} (hp : tmps.getD p undef = .pointer (some ⟨g, 0, none⟩)) (hq : tmps.getD q undef = .pointer (some ⟨i, 0, none⟩)) (hr : tmps.getD r undef = v)
    (hg : Row w g cs T') (hsz : cs.size = 4) (hi : Boxed w i 40 (.slice a n c)) :
    (results fn tmps).run Try.prog w = .ok (.tuple #[.agg cs, .slice a n c, v]) w := by
  have hl : (loadVar 33 ⟨g, 0, none⟩).run Try.prog w = .ok (.agg cs) w := run_loadVar_row (P := Try.prog) w g T' 33 cs (0, 0) _ hg Try.underlying33 rfl (by rw [szSt, hsz])
  have hc := hi.cell
  subst hr
  have hp' : tmps[p]?.getD undef = .pointer (some ⟨g, 0, none⟩) := by simpa using hp
  have hq' : tmps[q]?.getD undef = .pointer (some ⟨i, 0, none⟩) := by simpa using hq
  have hl2 : (loadVar 40 ⟨i, 0, none⟩).run Try.prog w = .ok (.slice a n c) w := by simp [go_sem, hc]
  simp [results, h, hp', hq', asAddr, hl, hl2]
def AllocPost (l : Lay) (U : List Bool) (L : List Nat) (E : Int) (w : World) (e : Ending) (w' : World) : Prop :=
  ∃ v vl, e = .returned (.tuple #[.agg (stA l v), vl, .int .i64 E]) ∧ OwnB w' w.heap.size v U ∧ OwnN w' w.heap.size vl L ∧ Below w.heap.size w w'
/-- The four boxes of Alloc. -/
structure AllB (l : Lay) (v : Value) (m : Int) (b : Nat) (W : World) : Prop where
  s : Row W b #[.int .i64 l.s, .int .i64 l.j, .int .i64 l.n, v] 33
  m : Boxed W (b + 1) 3 (.int .i64 m)
  t : Row W (b + 2) zeroSt 33
theorem AllB.below {l : Lay} {v : Value} {m : Int} {b n : Nat} {A B : World} (h : AllB l v m b A) (k : Below n A B) (hn : b + 3 ≤ n) : AllB l v m b B :=
  ⟨h.s.below k (by omega), Row.below h.m k (by omega), h.t.below k (by omega)⟩
theorem AllB.kept {X : Nat → Prop} {l : Lay} {v : Value} {m : Int} {b : Nat} {A B : World} (h : AllB l v m b A) (k : Kept X A B) (hx : ∀ k, X k → b + 3 ≤ k) : AllB l v m b B :=
  ⟨h.s.kept k (fun q => by have := hx _ q; omega), Row.kept h.m k (fun q => by have := hx _ q; omega), h.t.kept k (fun q => by have := hx _ q; omega)⟩
theorem box_alloc (l : Lay) (v : Value) (m : Int) (w : World) : ∃ W3, (((w.alloc (.cells #[.int .i64 l.s, .int .i64 l.j, .int .i64 l.n, v] 33)).alloc (.cells #[.int .i64 m] 3)).alloc (.cells zeroSt 33)).alloc (.cells #[.slice none 0 0] 40) = W3 ∧ W3.heap.size = w.heap.size + 4 ∧
    AllB l v m w.heap.size W3 ∧ Boxed W3 (w.heap.size + 3) 40 (.slice none 0 0) ∧ Below w.heap.size w W3 := by
  refine ⟨_, rfl, by simp, ⟨(((Row.new w _ _).alloc _).alloc _).alloc _, ?_, ?_⟩, ?_, ((((Below.refl _ w).alloc (Nat.le_refl _) _).alloc (by simp) _).alloc (by simp; omega) _).alloc (by simp; omega) _⟩
  · have := Row.new (w.alloc (.cells #[.int .i64 l.s, .int .i64 l.j, .int .i64 l.n, v] 33)) #[.int .i64 m] 3
    rw [World.size_alloc] at this
    exact (this.alloc _).alloc _
  · have := Row.new ((w.alloc (.cells #[.int .i64 l.s, .int .i64 l.j, .int .i64 l.n, v] 33)).alloc (.cells #[.int .i64 m] 3)) zeroSt 33
    rw [World.size_alloc, World.size_alloc] at this
    exact this.alloc _
  · have := Boxed.new (((w.alloc (.cells #[.int .i64 l.s, .int .i64 l.j, .int .i64 l.n, v] 33)).alloc (.cells #[.int .i64 m] 3)).alloc (.cells zeroSt 33)) 40 (.slice none 0 0)
    rw [World.size_alloc, World.size_alloc, World.size_alloc] at this
    exact this
/-- The end of an arm that gives the state back. -/
def backW (l : Lay) (v' : Value) (w W5 : World) : World := (((((W5.setCell ⟨w.heap.size + 2, 0, none⟩ (.int .i64 l.s)).setCell ⟨w.heap.size + 2, 1, none⟩ (.int .i64 l.j)).setCell ⟨w.heap.size + 2, 2, none⟩ (.int .i64 l.n)).setCell ⟨w.heap.size + 2, 3, none⟩ v').setCell ⟨w.heap.size + 3, 0, none⟩ (.slice none 0 0))
theorem backW_other (l : Lay) (v' : Value) (w W5 : World) (k : Nat) (h2 : k ≠ w.heap.size + 2) (h3 : k ≠ w.heap.size + 3) : (backW l v' w W5).heap[k]? = W5.heap[k]? := by
  unfold backW
  rw [Below.heap_setCell _ _ _ _ (fun e => h3 e), Below.heap_setCell _ _ _ _ (fun e => h2 e), Below.heap_setCell _ _ _ _ (fun e => h2 e), Below.heap_setCell _ _ _ _ (fun e => h2 e), Below.heap_setCell _ _ _ _ (fun e => h2 e)]
structure BackIs (l : Lay) (U : List Bool) (v' : Value) (w W6 : World) : Prop where
  t : Row W6 (w.heap.size + 2) (stA l v') 33
  r : Boxed W6 (w.heap.size + 3) 40 (.slice none 0 0)
  o : OwnB W6 w.heap.size v' U
  b : Below w.heap.size w W6
theorem alloc_back {l : Lay} {U : List Bool} {w W5 : World} {v v' : Value} {m : Int} {x : Value} {q : Nat} (hB : AllB l v m w.heap.size W5) (h3 : Boxed W5 (w.heap.size + 3) 40 x) (hO : OwnB W5 q v' U) (hq : w.heap.size + 4 ≤ q) (hb : Below w.heap.size w W5) :
    BackIs l U v' w (backW l v' w W5) := by
  have hlt := h3.lt
  unfold backW
  refine ⟨(hB.t.sets4 _ _ _ _).other (by omega), ?_, ?_, below_sets (below_sets4 hb _ (by omega) _ _ _ _) _ (by omega) _ _⟩
  · have : Row ((((W5.setCell ⟨w.heap.size + 2, 0, none⟩ (.int .i64 l.s)).setCell ⟨w.heap.size + 2, 1, none⟩ (.int .i64 l.j)).setCell ⟨w.heap.size + 2, 2, none⟩ (.int .i64 l.n)).setCell ⟨w.heap.size + 2, 3, none⟩ v') (w.heap.size + 3) #[x] 40 :=
      (((Row.other h3 (by omega)).other (by omega)).other (by omega)).other (by omega)
    exact this.set 0 _
  · have h1 := (hO.sets4 (b := w.heap.size + 2) (by omega) (fun g o n c e => by have := (hO.lt g (by rw [e]; rfl)).1; omega) (.int .i64 l.s) (.int .i64 l.j) (.int .i64 l.n) v')
    exact (h1.other (b := w.heap.size + 3) (n := 0) (Nat.zero_le _) (by omega)).sub (by omega)
/-- Behind the last region of Alloc. -/
structure AllEnd (l : Lay) (U : List Bool) (p : List Nat) (w : World) (vl : Value) (B : Nat) (v' : Value) (W' : World) : Prop where
  t : Row W' (w.heap.size + 2) (stA l v') 33
  r : Boxed W' (w.heap.size + 3) 40 vl
  o : OwnB W' w.heap.size v' U
  n : OwnN W' w.heap.size vl p
  b : Below w.heap.size w W'
  d : W'.heap[B]? = some (.deferred (some []))
theorem AllEnd.drew {l : Lay} {U : List Bool} {p : List Nat} {w W' : World} {vl v' : Value} {B : Nat} (h : AllEnd l U p w vl B v' W') : AllEnd l U p w vl B v' W'.drew := ⟨h.t, h.r, h.o.drew, World.ownsRow.drew h.n, h.b.drew, h.d⟩
theorem all_end {l : Lay} {U : List Bool} {p : List Nat} {w w9 : World} {vl v' : Value} {B q z : Nat} (hT : Row w9 (w.heap.size + 2) zeroSt 33) (hR : Boxed w9 (w.heap.size + 3) 40 vl) (hO : OwnB w9 q v' U) (hq : w.heap.size + 4 ≤ q) (hN : OwnN w9 z vl p) (hz : w.heap.size + 4 ≤ z) (hb : Below w.heap.size w w9)
    (hD : w9.heap[B]? = some (.deferred (some []))) (hB : w.heap.size + 4 ≤ B) :
    AllEnd l U p w vl B v' (((((w9.setCell ⟨w.heap.size + 2, 0, none⟩ (.int .i64 l.s)).setCell ⟨w.heap.size + 2, 1, none⟩ (.int .i64 l.j)).setCell ⟨w.heap.size + 2, 2, none⟩ (.int .i64 l.n)).setCell ⟨w.heap.size + 2, 3, none⟩ v').setCell ⟨w.heap.size + 3, 0, none⟩ vl) := by
  have hlt := hR.lt
  refine ⟨(hT.sets4 _ _ _ _).other (by omega), ?_, ?_, ?_, below_sets (below_sets4 hb _ (by omega) _ _ _ _) _ (by omega) _ _, ?_⟩
  · have : Row ((((w9.setCell ⟨w.heap.size + 2, 0, none⟩ (.int .i64 l.s)).setCell ⟨w.heap.size + 2, 1, none⟩ (.int .i64 l.j)).setCell ⟨w.heap.size + 2, 2, none⟩ (.int .i64 l.n)).setCell ⟨w.heap.size + 2, 3, none⟩ v') (w.heap.size + 3) #[vl] 40 :=
      (((Row.other hR (by omega)).other (by omega)).other (by omega)).other (by omega)
    exact this.set 0 _
  · have h1 := (hO.sets4 (b := w.heap.size + 2) (by omega) (fun g o n c e => by have := (hO.lt g (by rw [e]; rfl)).1; omega) (.int .i64 l.s) (.int .i64 l.j) (.int .i64 l.n) v')
    exact (h1.other (b := w.heap.size + 3) (n := 0) (Nat.zero_le _) (by omega)).sub (by omega)
  · exact (ownsRow_setCell_below (ownsRow_setCell_below (ownsRow_setCell_below (ownsRow_setCell_below (ownsRow_setCell_below hN (a := ⟨w.heap.size + 2, 0, none⟩) (by show w.heap.size + 2 < z; omega) _) (a := ⟨w.heap.size + 2, 1, none⟩) (by show w.heap.size + 2 < z; omega) _) (a := ⟨w.heap.size + 2, 2, none⟩) (by show w.heap.size + 2 < z; omega) _) (a := ⟨w.heap.size + 2, 3, none⟩) (by show w.heap.size + 2 < z; omega) _) (a := ⟨w.heap.size + 3, 0, none⟩) (by show w.heap.size + 3 < z; omega) _).mono (by omega)
  · rw [Below.heap_setCell _ _ _ _ (fun e => by have : B = w.heap.size + 3 := e; omega), Below.heap_setCell _ _ _ _ (fun e => by have : B = w.heap.size + 2 := e; omega), Below.heap_setCell _ _ _ _ (fun e => by have : B = w.heap.size + 2 := e; omega), Below.heap_setCell _ _ _ _ (fun e => by have : B = w.heap.size + 2 := e; omega), Below.heap_setCell _ _ _ _ (fun e => by have : B = w.heap.size + 2 := e; omega)]
    exact hD
end Go.Proofs.Ytkknelcolbdphaa
