/- Worlds that differ in some blocks; lists of bools and numbers in memory. -/
import Derived.Test.YtkknelcolbdphaaProg
import Derived.Test.YtkknelcolbdphaaVal
import Derived.Deep.RegionHeld3
import Derived.Deep.DrawnRows
import Derived.StillTailTactics
import Derived.Lib.BufferRead
import Derived.Lib.Strings
import Derived.Laws.BitsAllLaws
import Derived.Laws.MakeOwn
import Derived.WalkKit
import Derived.WalkLawsBesides
import Derived.WalkSpells
import Derived.Outline
import Derived.Below
import Derived.Deep.QuietTactic
import Derived.BigQuiet
import Derived.Lib.Hide
import Derived.Laws.Rows
import Derived.Laws.Cells
import Derived.Laws.CopyRow
import Derived.Laws.OwnMore
import Derived.ChangeKeysEq
import Derived.MapKept
import Derived.Maps.OwnOps
import Derived.RegionTactic
import Derived.BigRegion
import Derived.LaidEqlPtr
import Derived.Deep.Upon
import Derived.Deep.AppendSrc
import Derived.Maps.AppendAt
import Derived.Deep.MidRow
namespace Go.Proofs.Ytkknelcolbdphaa
open Go.RowKit Go.MapKept

/-! ### Worlds that differ in some blocks -/
/-- From W to W' no block outside X has turned. -/
structure Kept (X : Nat → Prop) (W W' : World) : Prop where
  os : W'.os = W.os
  tape : W'.tape = W.tape
  output : W'.output = W.output
  size : W.heap.size ≤ W'.heap.size
  block : ∀ k, k < W.heap.size → ¬ X k → W'.heap[k]? = W.heap[k]?

theorem Kept.refl (X : Nat → Prop) (W : World) : Kept X W W := ⟨rfl, rfl, rfl, Nat.le_refl _, fun _ _ _ => rfl⟩
theorem Kept.trans {X : Nat → Prop} {A B C : World} (h : Kept X A B) (k : Kept X B C) : Kept X A C :=
  ⟨k.os.trans h.os, k.tape.trans h.tape, k.output.trans h.output, Nat.le_trans h.size k.size, fun i hi hx => (k.block i (Nat.lt_of_lt_of_le hi h.size) hx).trans (h.block i hi hx)⟩
/-- A second step whose blocks are the first's, or new. -/
theorem Kept.trans' {X Y : Nat → Prop} {A B C : World} (h : Kept X A B) (k : Kept Y B C) (hy : ∀ k, Y k → X k ∨ A.heap.size ≤ k) : Kept X A C :=
  ⟨k.os.trans h.os, k.tape.trans h.tape, k.output.trans h.output, Nat.le_trans h.size k.size, fun i hi hx => (k.block i (Nat.lt_of_lt_of_le hi h.size) (fun y => (hy i y).elim hx (fun h => by omega))).trans (h.block i hi hx)⟩
theorem Kept.mono {X Y : Nat → Prop} {A B : World} (h : Kept X A B) (hxy : ∀ k, X k → Y k) : Kept Y A B :=
  ⟨h.os, h.tape, h.output, h.size, fun i hi hy => h.block i hi (fun hx => hy (hxy i hx))⟩
theorem Kept.alloc {X : Nat → Prop} {A B : World} (h : Kept X A B) (o : Obj) : Kept X A (B.alloc o) :=
  h.trans ⟨rfl, rfl, rfl, by simp, fun k hk _ => Below.heap_alloc _ _ _ hk⟩
theorem Kept.setCell {X : Nat → Prop} {A B : World} (h : Kept X A B) (p : Addr) (hp : X p.block) (u : Value) : Kept X A (B.setCell p u) :=
  h.trans ⟨rfl, rfl, rfl, by simp [World.setCell], fun k _ hx => Below.heap_setCell _ _ _ _ (fun e => hx (e ▸ hp))⟩
theorem Kept.drew {X : Nat → Prop} {A B : World} (h : Kept X A B) : Kept X A B.drew := h.trans ⟨rfl, rfl, rfl, Nat.le_refl _, fun _ _ _ => rfl⟩
theorem Kept.drewN {X : Nat → Prop} {A B : World} (h : Kept X A B) (n : Nat) : Kept X A (B.drewN n) := h.trans ⟨rfl, rfl, rfl, Nat.le_refl _, fun _ _ _ => rfl⟩
theorem Kept.setRow {X : Nat → Prop} {A B : World} (h : Kept X A B) (g : Nat) (hg : X g) (cs : Array Value) : Kept X A (B.setRow g cs) :=
  h.trans ⟨rfl, rfl, rfl, by simp, fun k _ hx => setRow_other _ _ _ _ (fun e => hx (e ▸ hg))⟩
theorem Kept.below {X : Nat → Prop} {n : Nat} {A B C : World} (h : Kept X A B) (hb : Below n B C) (hn : A.heap.size ≤ n) : Kept X A C :=
  h.trans' (Y := fun k => n ≤ k) ⟨hb.os, hb.tape, hb.output, hb.size, fun k _ hx => hb.block k (by omega)⟩ (fun k hk => .inr (by omega))
theorem Kept.grown {A B : World} {row : Option Nat} (hg : A.grownBy B row) : Kept (fun k => row = some k) A B :=
  ⟨hg.os, hg.tape, hg.output, hg.size, fun k hk hx => hg.block k hk (fun e => hx e.symm)⟩
theorem Kept.toBelow {X : Nat → Prop} {A B : World} (h : Kept X A B) {n : Nat} (hn : n ≤ A.heap.size) (hx : ∀ k, X k → n ≤ k) : Below n A B :=
  ⟨h.os, h.tape, h.output, h.size, fun k hk => h.block k (by omega) (fun x => by have := hx k x; omega)⟩
theorem Kept.cell {X : Nat → Prop} {A B : World} (h : Kept X A B) {b o : Nat} (hb : b < A.heap.size) (hx : ¬ X b) : B.cell? ⟨b, o, none⟩ = A.cell? ⟨b, o, none⟩ := World.cell?_of_block (w := A) (h.block b hb hx)
theorem Below.kept {n : Nat} {A B : World} (h : Below n A B) (X : Nat → Prop) (hx : ∀ k, k < A.heap.size → ¬ X k → k < n) : Kept X A B :=
  ⟨h.os, h.tape, h.output, h.size, fun k hk hk2 => h.block k (hx k hk hk2)⟩

/-- The same memory, however often the tape was asked. -/
structure Mem (A B : World) : Prop where
  heap : B.heap = A.heap
  os : B.os = A.os
  tape : B.tape = A.tape
  output : B.output = A.output
theorem Mem.trans {A B C : World} (h : Mem A B) (k : Mem B C) : Mem A C := ⟨k.heap.trans h.heap, k.os.trans h.os, k.tape.trans h.tape, k.output.trans h.output⟩
theorem Mem.refl (A : World) : Mem A A := ⟨rfl, rfl, rfl, rfl⟩
theorem Mem.below {A B : World} (h : Mem A B) (n : Nat) : Below n A B := ⟨h.os, h.tape, h.output, by rw [h.heap]; exact Nat.le_refl _, fun k _ => by rw [h.heap]⟩
theorem Kept.mem {X : Nat → Prop} {A B C : World} (h : Kept X A B) (k : Mem B C) : Kept X A C :=
  h.trans ⟨k.os, k.tape, k.output, by rw [k.heap]; exact Nat.le_refl _, fun i _ _ => by rw [k.heap]⟩
theorem Mem.setRow {A B : World} (h : Mem A B) (g : Nat) (cs : Array Value) : Mem (A.setRow g cs) (B.setRow g cs) :=
  ⟨by simp only [World.setRow, h.heap], h.os, h.tape, h.output⟩
theorem Mem.alloc {A B : World} (h : Mem A B) (o : Obj) : Mem (A.alloc o) (B.alloc o) := ⟨by simp only [World.alloc, h.heap], h.os, h.tape, h.output⟩
theorem ret_bool {a b : Bool} (h : a = b) : Ending.returned (.bool a) = .returned (.bool b) := by rw [h]
theorem ret_int {k : IntKind} {a b : Int} (h : a = b) : Ending.returned (.int k a) = .returned (.int k b) := by rw [h]
theorem addr_add0 (g o j : Nat) : (⟨g, o, none⟩ : Addr).add j = ⟨g, o + j, none⟩ := by unfold Addr.add; split <;> simp_all


/-! ### lists in memory -/
/-- The slice v reads as these values, of one cell each. -/
def RowAt {α : Type} (f : α → Value) (w : World) (v : Value) (L : List α) : Prop :=
  (∃ a c, v = .slice a 0 c ∧ L = []) ∨
  ∃ b o c, v = .slice (some ⟨b, o, none⟩) L.length c ∧ b < w.heap.size ∧ ∀ k (h : k < L.length), w.cell? ⟨b, o + k, none⟩ = some (f L[k])
section
variable {α : Type} {f : α → Value}
theorem RowAt.below {n : Nat} {A B : World} {v : Value} {L : List α} (h : RowAt f A v L) (hk : Below n A B) (hn : A.heap.size ≤ n) : RowAt f B v L := by
  rcases h with h | ⟨b, o, c, rfl, hb, hc⟩
  · exact .inl h
  · exact .inr ⟨b, o, c, rfl, Nat.lt_of_lt_of_le hb hk.size, fun k hk' => (hk.cell (p := ⟨b, o + k, none⟩) (by show b < n; omega)).trans (hc k hk')⟩
theorem RowAt.kept {X : Nat → Prop} {A B : World} {v : Value} {L : List α} (h : RowAt f A v L) (hk : Kept X A B) (hx : ∀ b o n c, v = .slice (some ⟨b, o, none⟩) n c → n ≠ 0 → ¬ X b) : RowAt f B v L := by
  rcases h with h | ⟨b, o, c, rfl, hb, hc⟩
  · exact .inl h
  · by_cases h0 : L.length = 0
    · obtain rfl : L = [] := List.eq_nil_of_length_eq_zero h0
      exact .inl ⟨_, _, rfl, rfl⟩
    · exact .inr ⟨b, o, c, rfl, Nat.lt_of_lt_of_le hb hk.size, fun k hk' => (hk.cell hb (hx b o _ c rfl h0)).trans (hc k hk')⟩
theorem RowAt.heap {A B : World} {v : Value} {L : List α} (h : RowAt f A v L) (e : B.heap = A.heap) : RowAt f B v L := by
  rcases h with h | ⟨b, o, c, rfl, hb, hc⟩
  · exact .inl h
  · exact .inr ⟨b, o, c, rfl, by rw [e]; exact hb, fun k hk' => by rw [show B.cell? ⟨b, o + k, none⟩ = A.cell? ⟨b, o + k, none⟩ by simp [World.cell?, e]]; exact hc k hk'⟩
theorem RowAt.val {w : World} {v : Value} {L : List α} (h : RowAt f w v L) : ∃ s c, v = .slice s L.length c := by
  rcases h with ⟨a, c, rfl, rfl⟩ | ⟨b, o, c, rfl, _⟩
  · exact ⟨a, c, rfl⟩
  · exact ⟨_, c, rfl⟩
theorem RowAt.addr {w : World} {s : Option Addr} {n c : Nat} {L : List α} (h : RowAt f w (.slice s n c) L) (h0 : 0 < L.length) : ∃ b o, s = some ⟨b, o, none⟩ ∧ b < w.heap.size ∧ ∀ k (h : k < L.length), w.cell? ⟨b, o + k, none⟩ = some (f L[k]) := by
  rcases h with ⟨a, c', e, rfl⟩ | ⟨b, o, c', e, hb, hc⟩
  · simp at h0
  · cases e; exact ⟨b, o, rfl, hb, hc⟩
theorem rowAt_own {w : World} {base T : Nat} {v : Value} {L : List α} (h : w.ownsRow base T 1 v L.length (L.map f)) : RowAt f w v L := by
  rcases h.2 with ⟨rfl, h0⟩ | ⟨g, cap, cur, rfl, _, hg, _⟩
  · exact .inl ⟨none, 0, rfl, List.eq_nil_of_length_eq_zero h0⟩
  · refine .inr ⟨g, 0, cap, rfl, (Array.getElem?_eq_some_iff.1 hg).1, fun j hj => ?_⟩
    have := h.cells (g := g) rfl j (f L[j]) (by simp [List.getElem?_map, List.getElem?_eq_getElem hj])
    rw [addr_add0] at this
    exact this
end
abbrev BoolsAt (w : World) (v : Value) (U : List Bool) : Prop := RowAt Value.bool w v U
def intV (n : Int) : Value := .int .i64 n
abbrev IntsAt (w : World) (v : Value) (L : List Int) : Prop := RowAt intV w v L
def natV (n : Nat) : Value := .int .i64 (n : Int)
abbrev NatsAt (w : World) (v : Value) (L : List Nat) : Prop := RowAt natV w v L

/-! ### layouts and regions -/
def layA (l : Lay) : Array Value := #[.int .i64 l.s, .int .i64 l.j, .int .i64 l.n]
def regA (l : Lay) : Array Value := if regE l = 0 then #[.int .i64 1, .int .i64 (1 + l.j), .int .i64 (2 + l.j), .int .i64 (2 + l.j + l.n), .int .i64 (blkN l)] else #[.int .i64 0, .int .i64 0, .int .i64 0, .int .i64 0, .int .i64 0]

theorem isFrom_any (a lo hi : Int) (w : World) :
    Calls Try.prog 39 #[.int .i64 a, .int .i64 lo, .int .i64 hi] w fun e w' => e = .returned (.bool (inB a lo hi)) ∧ w = w' := by
  by_cases c1 : lo ≤ a
  · have d1 : decide (lo ≤ a) = true := by simpa using c1
    have HE : Hid (inB a lo hi = decide (a ≤ hi)) := Lib.hid (by unfold inB; simp [c1])
    go_enter Try.func39, Try.ntmps39
    go_wp2
    go_ret
    exact ⟨ret_bool HE.out.symm, rfl⟩
  · have d1 : decide (lo ≤ a) = false := by simpa using c1
    have HE : Hid (inB a lo hi = false) := Lib.hid (by unfold inB; simp [c1])
    go_enter Try.func39, Try.ntmps39
    go_wp2
    go_ret
    exact ⟨ret_bool HE.out.symm, rfl⟩
theorem within_any (a lo hi : Int) (w : World) :
    Calls Try.prog 38 #[.int .i64 a, .int .i64 lo, .int .i64 hi] w fun e w' => e = .returned (.bool (inB a lo hi)) ∧ w = w' := by
  by_cases c1 : lo ≤ a
  · have d1 : decide (lo ≤ a) = true := by simpa using c1
    have HE : Hid (inB a lo hi = decide (a ≤ hi)) := Lib.hid (by unfold inB; simp [c1])
    go_enter Try.func38, Try.ntmps38
    go_wp2
    go_ret
    exact ⟨ret_bool HE.out.symm, rfl⟩
  · have d1 : decide (lo ≤ a) = false := by simpa using c1
    have HE : Hid (inB a lo hi = false) := Lib.hid (by unfold inB; simp [c1])
    go_enter Try.func38, Try.ntmps38
    go_wp2
    go_ret
    exact ⟨ret_bool HE.out.symm, rfl⟩
end Go.Proofs.Ytkknelcolbdphaa
