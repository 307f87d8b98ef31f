/- Sectors and writes in memory; loads and stores of whole ones; the map of a device. -/
import Derived.Test.YtbaibmndmcdfdaaDoorProg
import Derived.Test.YtbaibmndmcdfdaaDoorDVal
import Derived.WalkKit
import Derived.WalkLawsBesides
import Derived.WalkSpells
import Derived.Outline
import Derived.Below
import Derived.Deep.QuietTactic
import Derived.BigQuiet
import Derived.Lib.Hide
import Derived.Laws.Rows
import Derived.Laws.Cells
import Derived.Laws.CopyRow
import Derived.Laws.OwnMore
import Derived.ChangeKeysEq
import Derived.MapKept
import Derived.Maps.OwnOps
import Derived.RegionTactic
import Derived.BigRegion
import Derived.LaidEqlPtr
import Derived.Deep.Upon
import Derived.Deep.AppendSrc
import Derived.Maps.AppendAt
import Derived.Deep.MidRow
namespace Go.Proofs.YtbaibmndmcdfdaaDoor.D
open Go.RowKit Go.MapKept

/-! ### Worlds that differ in some blocks -/
/-- From W to W' no block outside X has turned. -/
structure Kept (X : Nat → Prop) (W W' : World) : Prop where
  os : W'.os = W.os
  tape : W'.tape = W.tape
  output : W'.output = W.output
  size : W.heap.size ≤ W'.heap.size
  block : ∀ k, k < W.heap.size → ¬ X k → W'.heap[k]? = W.heap[k]?

theorem Kept.refl (X : Nat → Prop) (W : World) : Kept X W W := ⟨rfl, rfl, rfl, Nat.le_refl _, fun _ _ _ => rfl⟩
theorem Kept.trans {X : Nat → Prop} {A B C : World} (h : Kept X A B) (k : Kept X B C) : Kept X A C :=
  ⟨k.os.trans h.os, k.tape.trans h.tape, k.output.trans h.output, Nat.le_trans h.size k.size, fun i hi hx => (k.block i (Nat.lt_of_lt_of_le hi h.size) hx).trans (h.block i hi hx)⟩
/-- A second step whose blocks are the first's, or new. -/
theorem Kept.trans' {X Y : Nat → Prop} {A B C : World} (h : Kept X A B) (k : Kept Y B C) (hy : ∀ k, Y k → X k ∨ A.heap.size ≤ k) : Kept X A C :=
  ⟨k.os.trans h.os, k.tape.trans h.tape, k.output.trans h.output, Nat.le_trans h.size k.size, fun i hi hx => (k.block i (Nat.lt_of_lt_of_le hi h.size) (fun y => (hy i y).elim hx (fun h => by omega))).trans (h.block i hi hx)⟩
theorem Kept.mono {X Y : Nat → Prop} {A B : World} (h : Kept X A B) (hxy : ∀ k, X k → Y k) : Kept Y A B :=
  ⟨h.os, h.tape, h.output, h.size, fun i hi hy => h.block i hi (fun hx => hy (hxy i hx))⟩
theorem Kept.alloc {X : Nat → Prop} {A B : World} (h : Kept X A B) (o : Obj) : Kept X A (B.alloc o) :=
  h.trans ⟨rfl, rfl, rfl, by simp, fun k hk _ => Below.heap_alloc _ _ _ hk⟩
theorem Kept.setCell {X : Nat → Prop} {A B : World} (h : Kept X A B) (p : Addr) (hp : X p.block) (u : Value) : Kept X A (B.setCell p u) :=
  h.trans ⟨rfl, rfl, rfl, by simp [World.setCell], fun k _ hx => Below.heap_setCell _ _ _ _ (fun e => hx (e ▸ hp))⟩
theorem Kept.drew {X : Nat → Prop} {A B : World} (h : Kept X A B) : Kept X A B.drew := h.trans ⟨rfl, rfl, rfl, Nat.le_refl _, fun _ _ _ => rfl⟩
theorem Kept.drewN {X : Nat → Prop} {A B : World} (h : Kept X A B) (n : Nat) : Kept X A (B.drewN n) := h.trans ⟨rfl, rfl, rfl, Nat.le_refl _, fun _ _ _ => rfl⟩
theorem Kept.setRow {X : Nat → Prop} {A B : World} (h : Kept X A B) (g : Nat) (hg : X g) (cs : Array Value) : Kept X A (B.setRow g cs) :=
  h.trans ⟨rfl, rfl, rfl, by simp, fun k _ hx => setRow_other _ _ _ _ (fun e => hx (e ▸ hg))⟩
theorem Kept.below {X : Nat → Prop} {n : Nat} {A B C : World} (h : Kept X A B) (hb : Below n B C) (hn : A.heap.size ≤ n) : Kept X A C :=
  h.trans' (Y := fun k => n ≤ k) ⟨hb.os, hb.tape, hb.output, hb.size, fun k _ hx => hb.block k (by omega)⟩ (fun k hk => .inr (by omega))
theorem Kept.grown {A B : World} {row : Option Nat} (hg : A.grownBy B row) : Kept (fun k => row = some k) A B :=
  ⟨hg.os, hg.tape, hg.output, hg.size, fun k hk hx => hg.block k hk (fun e => hx e.symm)⟩
theorem Kept.toBelow {X : Nat → Prop} {A B : World} (h : Kept X A B) {n : Nat} (hn : n ≤ A.heap.size) (hx : ∀ k, X k → n ≤ k) : Below n A B :=
  ⟨h.os, h.tape, h.output, h.size, fun k hk => h.block k (by omega) (fun x => by have := hx k x; omega)⟩
theorem Kept.cell {X : Nat → Prop} {A B : World} (h : Kept X A B) {b o : Nat} (hb : b < A.heap.size) (hx : ¬ X b) : B.cell? ⟨b, o, none⟩ = A.cell? ⟨b, o, none⟩ := World.cell?_of_block (w := A) (h.block b hb hx)
theorem Below.kept {n : Nat} {A B : World} (h : Below n A B) (X : Nat → Prop) (hx : ∀ k, k < A.heap.size → ¬ X k → k < n) : Kept X A B :=
  ⟨h.os, h.tape, h.output, h.size, fun k hk hk2 => h.block k (hx k hk hk2)⟩

/-- The same memory, however often the tape was asked. -/
structure Mem (A B : World) : Prop where
  heap : B.heap = A.heap
  os : B.os = A.os
  tape : B.tape = A.tape
  output : B.output = A.output
theorem Mem.trans {A B C : World} (h : Mem A B) (k : Mem B C) : Mem A C := ⟨k.heap.trans h.heap, k.os.trans h.os, k.tape.trans h.tape, k.output.trans h.output⟩
theorem Mem.refl (A : World) : Mem A A := ⟨rfl, rfl, rfl, rfl⟩
theorem Mem.below {A B : World} (h : Mem A B) (n : Nat) : Below n A B := ⟨h.os, h.tape, h.output, by rw [h.heap]; exact Nat.le_refl _, fun k _ => by rw [h.heap]⟩
theorem Kept.mem {X : Nat → Prop} {A B C : World} (h : Kept X A B) (k : Mem B C) : Kept X A C :=
  h.trans ⟨k.os, k.tape, k.output, by rw [k.heap]; exact Nat.le_refl _, fun i _ _ => by rw [k.heap]⟩
theorem Mem.setRow {A B : World} (h : Mem A B) (g : Nat) (cs : Array Value) : Mem (A.setRow g cs) (B.setRow g cs) :=
  ⟨by simp only [World.setRow, h.heap], h.os, h.tape, h.output⟩
theorem Mem.alloc {A B : World} (h : Mem A B) (o : Obj) : Mem (A.alloc o) (B.alloc o) := ⟨by simp only [World.alloc, h.heap], h.os, h.tape, h.output⟩
theorem ret_bool {a b : Bool} (h : a = b) : Ending.returned (.bool a) = .returned (.bool b) := by rw [h]
theorem ret_int {k : IntKind} {a b : Int} (h : a = b) : Ending.returned (.int k a) = .returned (.int k b) := by rw [h]
theorem addr_add0 (g o j : Nat) : (⟨g, o, none⟩ : Addr).add j = ⟨g, o + j, none⟩ := by unfold Addr.add; split <;> simp_all

/-! ### Sectors and writes as cells -/
def Sec.cs (s : Sec) : List Value := s.l.map fun b => Value.int .u8 (b.toNat : Int)
theorem Sec.cs_len (s : Sec) : s.cs.length = 128 := by simp [Sec.cs, s.len]
def Sec.A (s : Sec) : Array Value := s.cs.toArray
theorem Sec.A_size (s : Sec) : s.A.size = 128 := by simp [Sec.A, s.cs_len]
theorem Sec.one (s : Sec) : ∀ v ∈ s.cs, v.oneCell' = true := by
  intro v hv; obtain ⟨_, _, rfl⟩ := List.mem_map.1 hv; rfl
def Wr.cs (x : Wr) : List Value := .int .i64 x.at_ :: x.data.cs
theorem Wr.cs_len (x : Wr) : x.cs.length = 129 := by simp [Wr.cs, x.data.cs_len]
def Wr.A (x : Wr) : Array Value := x.cs.toArray
theorem Wr.A_size (x : Wr) : x.A.size = 129 := by simp [Wr.A, x.cs_len]
theorem Wr.one (x : Wr) : ∀ v ∈ x.cs, v.oneCell' = true := by
  intro v hv
  rcases List.mem_cons.1 hv with rfl | hv
  · rfl
  · exact x.data.one v hv

/-- The slice v reads as these elements, of sz cells each. -/
def ElemsAt (sz : Nat) (w : World) (v : Value) (L : List (List Value)) : Prop :=
  (∃ a c, v = .slice a 0 c ∧ L = []) ∨
  ∃ g o c, v = .slice (some ⟨g, o, none⟩) L.length c ∧ g < w.heap.size ∧ ∀ k e, L[k]? = some e → ∀ j u, e[j]? = some u → w.cell? ⟨g, o + k * sz + j, none⟩ = some u
theorem ElemsAt.below {sz n : Nat} {A B : World} {v : Value} {L : List (List Value)} (h : ElemsAt sz A v L) (hk : Below n A B) (hn : A.heap.size ≤ n) : ElemsAt sz B v L := by
  rcases h with h | ⟨g, o, c, rfl, hg, hc⟩
  · exact .inl h
  · exact .inr ⟨g, o, c, rfl, Nat.lt_of_lt_of_le hg hk.size, fun k e he j u hu => by rw [hk.cell (p := ⟨g, o + k * sz + j, none⟩) (by show g < n; omega)]; exact hc k e he j u hu⟩
theorem cell_heap {A B : World} (e : B.heap = A.heap) (a : Addr) : B.cell? a = A.cell? a := by simp [World.cell?, e]
theorem ElemsAt.heap {sz : Nat} {A B : World} {v : Value} {L : List (List Value)} (h : ElemsAt sz A v L) (e : B.heap = A.heap) : ElemsAt sz B v L := by
  rcases h with h | ⟨g, o, c, rfl, hg, hc⟩
  · exact .inl h
  · exact .inr ⟨g, o, c, rfl, by rw [e]; exact hg, fun k x hx j u hu => by rw [cell_heap e]; exact hc k x hx j u hu⟩
/-- The block that a slice reads. -/
def offX (X : Nat → Prop) (v : Value) : Prop := ∀ g o n c, v = .slice (some ⟨g, o, none⟩) n c → n ≠ 0 → ¬ X g
theorem ElemsAt.kept {sz : Nat} {X : Nat → Prop} {A B : World} {v : Value} {L : List (List Value)} (h : ElemsAt sz A v L) (hk : Kept X A B) (hx : offX X v) : ElemsAt sz B v L := by
  rcases h with h | ⟨g, o, c, rfl, hg, hc⟩
  · exact .inl h
  · by_cases h0 : L.length = 0
    · have : L = [] := List.eq_nil_of_length_eq_zero h0
      subst this; exact .inl ⟨_, _, rfl, rfl⟩
    · exact .inr ⟨g, o, c, rfl, Nat.lt_of_lt_of_le hg hk.size, fun k e he j u hu => by rw [hk.cell hg (hx g o _ c rfl h0)]; exact hc k e he j u hu⟩
theorem ElemsAt.val {sz : Nat} {w : World} {v : Value} {L : List (List Value)} (h : ElemsAt sz w v L) : ∃ a c, v = .slice a L.length c := by
  rcases h with ⟨a, c, rfl, rfl⟩ | ⟨g, o, c, rfl, _⟩
  · exact ⟨a, c, rfl⟩
  · exact ⟨_, c, rfl⟩
abbrev SecsAt (w : World) (v : Value) (L : List Sec) : Prop := ElemsAt 128 w v (L.map Sec.cs)
abbrev WrsAt (w : World) (v : Value) (L : List Wr) : Prop := ElemsAt 129 w v (L.map Wr.cs)

/-! ### Types -/
theorem Tryd.infoSec : (Tryd.prog.info? 27).map (fun i => (i.zero, i.size, i.bytes)) = some (some (.agg Sec.zero.A), 128, 128) := by kernel_rfl
theorem Tryd.infoWr : (Tryd.prog.info? 95).map (fun i => (i.zero, i.size, i.bytes)) = some (some (.agg (Wr.mk 0 Sec.zero).A), 129, 136) := by kernel_rfl
theorem aggSec (w : World) : (isAgg 27).run Tryd.prog w = .ok true w := by
  have hu : Tryd.prog.underlying 27 = some (.array 128 5) := Tryd.underlying27
  unfold isAgg; rw [Sem.run_bind, run_underlying hu w]; simp
theorem aggWr (w : World) : (isAgg 95).run Tryd.prog w = .ok true w := by
  unfold isAgg; rw [Sem.run_bind, run_underlying Tryd.underlying95 w]; simp

/-! ### Loads and stores of whole elements -/
theorem load_at {T sz : Nat} {w : World} (hagg : (isAgg T).run Tryd.prog w = .ok true w) (hsz : (Tryd.prog.info? T).map (·.size) = some sz) {g o : Nat} {cs : List Value} (hl : cs.length = sz)
    (h : ∀ j u, cs[j]? = some u → w.cell? ⟨g, o + j, none⟩ = some u) : (Instr.loadAt T (.pointer (some ⟨g, o, none⟩))).run Tryd.prog w = .ok (.agg cs.toArray) w := by
  have hc : (loadCells ⟨g, o, none⟩ cs.length).run Tryd.prog w = .ok cs.toArray w := run_loadCells_list (P := Tryd.prog) w ⟨g, o, none⟩ cs (fun j v hv => by rw [addr_add0]; exact h j v hv)
  cases hq : Tryd.prog.info? T with
  | none => simp [hq] at hsz
  | some i =>
    have hs : i.size = sz := by simpa [hq] using hsz
    subst hs
    rw [hl] at hc
    simp [Instr.loadAt, Instr.sureAddr, loadVar, Sem.run_bind, hagg, sizeOf, typeInfo, hq, hc]
theorem store_at {T T' sz : Nat} {w : World} (hsz : (Tryd.prog.info? T).map (·.size) = some sz) {g o : Nat} {cs : List Value} {cur : Array Value} (hl : cs.length = sz) (hg : w.heap[g]? = some (.cells cur T' (0, 0)))
    (hfit : o + sz ≤ cur.size) (h1 : ∀ v ∈ cs, v.oneCell' = true) : (Instr.storeAt T (.pointer (some ⟨g, o, none⟩)) (.agg cs.toArray)).run Tryd.prog w = .ok () (w.setRow g (cur.toList.take o ++ cs ++ cur.toList.drop (o + sz)).toArray) := by
  have hst := run_storeCells_at Tryd.prog g o T' cs 0 cur w hg (by rw [hl]; omega) h1
  cases hq : Tryd.prog.info? T with
  | none => simp [hq] at hsz
  | some i =>
    have hs : i.size = sz := by simpa [hq] using hsz
    simp only [Nat.add_zero, hl] at hst
    simp [Instr.storeAt, Instr.sureAddr, storeVar, Sem.run_bind, sizeOf, typeInfo, hq, hs, hst, Value.cells, hl]
theorem setRow_alloc (w : World) (Z cs : Array Value) (T : TypeId) : (w.alloc (.cells Z T (0, 0))).setRow w.heap.size cs = w.alloc (.cells cs T (0, 0)) := by
  have h : (w.heap.push (.cells Z T (0, 0))).modify w.heap.size (fun | .cells _ elem frozen => .cells cs elem frozen | o => o) = w.heap.push (.cells cs T (0, 0)) := by
    apply Array.ext
    · simp
    · intro i h1 h2
      rw [Array.getElem_modify]
      by_cases e : w.heap.size = i
      · subst e; simp
      · rw [if_neg e]
        simp only [Array.size_modify, Array.size_push] at h1
        rw [Array.getElem_push_lt (by omega), Array.getElem_push_lt (by omega)]
  show ({ w.alloc (.cells Z T (0, 0)) with heap := _ } : World) = { w with heap := _ }
  rw [← h]; rfl
theorem szSec : (Tryd.prog.info? 27).map (·.size) = some 128 := by kernel_rfl
theorem szWr : (Tryd.prog.info? 95).map (·.size) = some 129 := by kernel_rfl

/-- Behind names that the walk does not open. -/
noncomputable def loadS (x : Value) : Sem Value := Instr.loadAt 27 x
theorem loadS_eq (x : Value) : Instr.loadAt 27 x = loadS x := rfl
noncomputable def loadW (x : Value) : Sem Value := Instr.loadAt 95 x
theorem loadW_eq (x : Value) : Instr.loadAt 95 x = loadW x := rfl
noncomputable def storeS (x v : Value) : Sem Unit := Instr.storeAt 27 x v
theorem storeS_eq (x v : Value) : Instr.storeAt 27 x v = storeS x v := rfl
noncomputable def storeW (x v : Value) : Sem Unit := Instr.storeAt 95 x v
theorem storeW_eq (x v : Value) : Instr.storeAt 95 x v = storeW x v := rfl
noncomputable def allocS : Sem Value := Instr.alloc 27 true (.tuple #[])
theorem allocS_eq : Instr.alloc 27 true (.tuple #[]) = allocS := rfl
noncomputable def allocW : Sem Value := Instr.alloc 95 true (.tuple #[])
theorem allocW_eq : Instr.alloc 95 true (.tuple #[]) = allocW := rfl

theorem run_allocS (w : World) : allocS.run Tryd.prog w = .ok (.pointer (some ⟨w.heap.size, 0, none⟩)) (w.alloc (.cells Sec.zero.A 27 (0, 0))) := by
  obtain ⟨i, hi, hz0, _, _⟩ := info_parts Tryd.infoSec
  simp [allocS, Instr.alloc, zeroValue, typeInfo, hi, hz0, newVar, newRow, Value.cells]
theorem run_allocW (w : World) : allocW.run Tryd.prog w = .ok (.pointer (some ⟨w.heap.size, 0, none⟩)) (w.alloc (.cells (Wr.mk 0 Sec.zero).A 95 (0, 0))) := by
  obtain ⟨i, hi, hz0, _, _⟩ := info_parts Tryd.infoWr
  simp [allocW, Instr.alloc, zeroValue, typeInfo, hi, hz0, newVar, newRow, Value.cells]
theorem run_storeS_new (w : World) (Z : Sec) (T : TypeId) (s : Sec) : (storeS (.pointer (some ⟨w.heap.size, 0, none⟩)) (.agg s.A)).run Tryd.prog (w.alloc (.cells Z.A T (0, 0))) = .ok () (w.alloc (.cells s.A T (0, 0))) := by
  have h := store_at (T := 27) (w := w.alloc (.cells Z.A T (0, 0))) szSec (g := w.heap.size) (o := 0) (cs := s.cs) s.cs_len (heap_alloc_new w _) (by rw [Z.A_size]; omega) s.one
  rw [setRow_alloc] at h
  have e : (Z.A.toList.take 0 ++ s.cs ++ Z.A.toList.drop (0 + 128)).toArray = s.A := by
    have : Z.A.toList.drop (0 + 128) = [] := List.drop_eq_nil_of_le (by simp [Z.A_size])
    rw [this]; simp [Sec.A]
  rw [e] at h
  exact h
theorem run_storeW_new (w : World) (Z : Wr) (T : TypeId) (s : Wr) : (storeW (.pointer (some ⟨w.heap.size, 0, none⟩)) (.agg s.A)).run Tryd.prog (w.alloc (.cells Z.A T (0, 0))) = .ok () (w.alloc (.cells s.A T (0, 0))) := by
  have h := store_at (T := 95) (w := w.alloc (.cells Z.A T (0, 0))) szWr (g := w.heap.size) (o := 0) (cs := s.cs) s.cs_len (heap_alloc_new w _) (by rw [Z.A_size]; omega) s.one
  rw [setRow_alloc] at h
  have e : (Z.A.toList.take 0 ++ s.cs ++ Z.A.toList.drop (0 + 129)).toArray = s.A := by
    have : Z.A.toList.drop (0 + 129) = [] := List.drop_eq_nil_of_le (by simp [Z.A_size])
    rw [this]; simp [Wr.A]
  rw [e] at h
  exact h
/-- A store over a block that holds one sector. -/
theorem run_storeS_block {w : World} {g : Nat} {T : TypeId} {Z : Sec} (hg : w.heap[g]? = some (.cells Z.A T (0, 0))) (s : Sec) : (storeS (.pointer (some ⟨g, 0, none⟩)) (.agg s.A)).run Tryd.prog w = .ok () (w.setRow g s.A) := by
  have h := store_at (T := 27) (w := w) szSec (g := g) (o := 0) (cs := s.cs) s.cs_len hg (by rw [Z.A_size]; omega) s.one
  have e : (Z.A.toList.take 0 ++ s.cs ++ Z.A.toList.drop (0 + 128)).toArray = s.A := by
    have : Z.A.toList.drop (0 + 128) = [] := List.drop_eq_nil_of_le (by simp [Z.A_size])
    rw [this]; simp [Sec.A]
  rw [e] at h
  exact h
theorem range_block {w : World} {g : Nat} {T : TypeId} {s : Sec} (h : w.heap[g]? = some (.cells s.A T (0, 0))) : w.rangeAt g 0 s.cs := fun j v hj => by
  rw [Nat.zero_add, cell_of_row w g j _ T (0, 0) h]; simpa [Sec.A] using hj
theorem lenSec (s : Sec) : (Tryd.prog.info? 27).map (·.size) = some s.cs.length := by rw [szSec, s.cs_len]
/-- A block that holds one sector, or one write. -/
theorem run_loadS_block {w : World} {g : Nat} {T : TypeId} {s : Sec} (h : w.heap[g]? = some (.cells s.A T (0, 0))) : (loadS (.pointer (some ⟨g, 0, none⟩))).run Tryd.prog w = .ok (.agg s.A) w :=
  load_at (aggSec w) szSec s.cs_len (fun j u hj => by rw [Nat.zero_add, cell_of_row w g j _ T (0, 0) h]; simpa [Sec.A] using hj)
theorem run_loadW_block {w : World} {g : Nat} {T : TypeId} {s : Wr} (h : w.heap[g]? = some (.cells s.A T (0, 0))) : (loadW (.pointer (some ⟨g, 0, none⟩))).run Tryd.prog w = .ok (.agg s.A) w :=
  load_at (aggWr w) szWr s.cs_len (fun j u hj => by rw [Nat.zero_add, cell_of_row w g j _ T (0, 0) h]; simpa [Wr.A] using hj)
theorem run_loadS_elem {w : World} {g o n c : Nat} {L : List Sec} (h : SecsAt w (.slice (some ⟨g, o, none⟩) n c) L) (k : Nat) (hk : k < L.length) : (loadS (.pointer (some ⟨g, o + k * 128, none⟩))).run Tryd.prog w = .ok (.agg L[k].A) w := by
  rcases h with ⟨a, d, hv, hn⟩ | ⟨g', o', c', hv, _, hc⟩
  · simp at hn; subst hn; simp at hk
  · cases hv
    exact load_at (aggSec w) szSec L[k].cs_len (fun j u hj => hc k L[k].cs (by simp [hk]) j u hj)
theorem run_loadW_elem {w : World} {g o n c : Nat} {L : List Wr} (h : WrsAt w (.slice (some ⟨g, o, none⟩) n c) L) (k : Nat) (hk : k < L.length) : (loadW (.pointer (some ⟨g, o + k * 129, none⟩))).run Tryd.prog w = .ok (.agg L[k].A) w := by
  rcases h with ⟨a, d, hv, hn⟩ | ⟨g', o', c', hv, _, hc⟩
  · simp at hn; subst hn; simp at hk
  · cases hv
    exact load_at (aggWr w) szWr L[k].cs_len (fun j u hj => hc k L[k].cs (by simp [hk]) j u hj)
/-- The data alone of a write. -/
theorem run_loadD_elem {w : World} {g o n c : Nat} {L : List Wr} (h : WrsAt w (.slice (some ⟨g, o, none⟩) n c) L) (k : Nat) (hk : k < L.length) : (loadS (.pointer (some ⟨g, o + k * 129 + 1, none⟩))).run Tryd.prog w = .ok (.agg L[k].data.A) w := by
  rcases h with ⟨a, d, hv, hn⟩ | ⟨g', o', c', hv, _, hc⟩
  · simp at hn; subst hn; simp at hk
  · cases hv
    exact load_at (aggSec w) szSec L[k].data.cs_len (fun j u hj => by
      have := hc k L[k].cs (by simp [hk]) (j + 1) u (by simpa [Wr.cs] using hj)
      rw [show o + k * 129 + 1 + j = o + k * 129 + (j + 1) from by omega]; exact this)
theorem elem_at {w : World} {g o n c : Nat} {L : List Wr} (h : WrsAt w (.slice (some ⟨g, o, none⟩) n c) L) (k : Nat) (hk : k < L.length) : w.cell? ⟨g, o + k * 129, none⟩ = some (.int .i64 L[k].at_) := by
  rcases h with ⟨a, d, hv, hn⟩ | ⟨g', o', c', hv, _, hc⟩
  · simp at hn; subst hn; simp at hk
  · cases hv
    exact hc k L[k].cs (by simp [hk]) 0 _ rfl

/-! ### Sectors compared -/
theorem run_eqItems_u8 {P : Program} (w : World) (d : Nat) {e : TypeId} (he : P.underlying e = some (.int .u8)) (xs ys : List UInt8) :
    ∀ is : List Nat, (∀ i ∈ is, i < xs.length ∧ i < ys.length) → (Op.eqItems (d + 1) e 1 (xs.map fun b => Value.int .u8 (b.toNat : Int)).toArray (ys.map fun b => Value.int .u8 (b.toNat : Int)).toArray is).run P w = .ok (is.all fun i => xs[i]? == ys[i]?) w
  | [], _ => by simp [Op.eqItems]
  | i :: is, h => by
    obtain ⟨hx, hy⟩ := h i (by simp)
    have px : (part e (xs.map fun b => Value.int .u8 (b.toNat : Int)).toArray (i * 1)).run P w = .ok (.int .u8 (xs[i].toNat : Int)) w := by
      simp [part, isAgg, run_underlying he, hx]
    have py : (part e (ys.map fun b => Value.int .u8 (b.toNat : Int)).toArray (i * 1)).run P w = .ok (.int .u8 (ys[i].toNat : Int)) w := by
      simp [part, isAgg, run_underlying he, hy]
    have pe : (Op.equalIn (d + 1) e (.int .u8 (xs[i].toNat : Int)) (.int .u8 (ys[i].toNat : Int))).run P w = .ok ((xs[i].toNat : Int) == (ys[i].toNat : Int)) w := by
      simp [Op.equalIn, run_underlying he]
    have eb : ((xs[i].toNat : Int) == (ys[i].toNat : Int)) = (xs[i]? == ys[i]?) := by
      rw [List.getElem?_eq_getElem hx, List.getElem?_eq_getElem hy, Bool.eq_iff_iff, beq_iff_eq, beq_iff_eq]
      constructor
      · intro h; congr 1; exact UInt8.toNat_inj.1 (by omega)
      · intro h; injection h with h; rw [h]
    rw [eb] at pe
    have ih := run_eqItems_u8 w d he xs ys is (fun j hj => h j (List.mem_cons_of_mem _ hj))
    simp only [Op.eqItems, Sem.run_bind, px, py, pe, Result.andThen_ok, List.all_cons]
    cases hb : (xs[i]? == ys[i]?)
    · simp
    · simpa using ih
theorem secs_eq (s t : Sec) : ((List.range 128).all fun i => s.l[i]? == t.l[i]?) = decide (s = t) := by
  rw [Bool.eq_iff_iff, List.all_eq_true, decide_eq_true_eq]
  constructor
  · intro h
    have hl : s.l = t.l := by
      apply List.ext_getElem?
      intro i
      by_cases hi : i < 128
      · exact beq_iff_eq.1 (h i (by simpa using hi))
      · rw [List.getElem?_eq_none (by rw [s.len]; omega), List.getElem?_eq_none (by rw [t.len]; omega)]
    cases s; cases t; cases hl; rfl
  · rintro rfl i _
    exact beq_self_eq_true _
theorem run_equalIn_sec (w : World) (s t : Sec) : (Op.equalIn 10000 27 (.agg s.A) (.agg t.A)).run Tryd.prog w = .ok (decide (s = t)) w := by
  have hu : Tryd.prog.underlying 27 = some (.array 128 5) := Tryd.underlying27
  have hc : Tryd.prog.cellsOf 5 = 1 := by kernel_rfl
  have hs : (Tryd.prog.info? 5).isSome = true := by kernel_rfl
  obtain ⟨i, hi⟩ := Option.isSome_iff_exists.1 hs
  have he := run_equalIn_array (P := Tryd.prog) (w := w) 9999 s.A t.A hu hi
  rw [hc] at he
  have h2 := run_eqItems_u8 (P := Tryd.prog) w 9998 Tryd.underlying5 s.l t.l (List.range 128) (fun i hi => by have := s.len; have := t.len; have := List.mem_range.1 hi; omega)
  rw [secs_eq] at h2
  exact he.trans h2
noncomputable def neqS (x y : Value) : Sem Value := binOp .neq 27 x y
theorem neqS_eq (x y : Value) : binOp .neq 27 x y = neqS x y := rfl
noncomputable def eqlS (x y : Value) : Sem Value := binOp .eql 27 x y
theorem eqlS_eq (x y : Value) : binOp .eql 27 x y = eqlS x y := rfl
theorem run_neqS (w : World) (s t : Sec) : (neqS (.agg s.A) (.agg t.A)).run Tryd.prog w = .ok (.bool (!decide (s = t))) w := by
  have h := run_neq_struct (P := Tryd.prog) (w := w) 27 s.A t.A
  rw [run_equalIn_sec] at h
  exact h
theorem run_eqlS (w : World) (s t : Sec) : (eqlS (.agg s.A) (.agg t.A)).run Tryd.prog w = .ok (.bool (decide (s = t))) w := by
  have h := run_eql_struct (P := Tryd.prog) (w := w) 27 s.A t.A
  rw [run_equalIn_sec] at h
  exact h
theorem eqlS_same {s t : Sec} (h : s = t) (w : World) : (eqlS (.agg s.cs.toArray) (.agg t.A)).run Tryd.prog w = .ok (.bool true) w := by
  have := run_eqlS w s t
  rwa [decide_eq_true h] at this
theorem neqS_same {s t : Sec} (h : s = t) (w : World) : (neqS (.agg s.cs.toArray) (.agg t.A)).run Tryd.prog w = .ok (.bool false) w := by
  have := run_neqS w s t
  rwa [decide_eq_true h] at this
theorem neqS_same2 {s t : Sec} (h : s = t) (w : World) : (neqS (.agg s.cs.toArray) (.agg t.cs.toArray)).run Tryd.prog w = .ok (.bool false) w := by
  have := run_neqS w s t
  rwa [decide_eq_true h] at this
end Go.Proofs.YtbaibmndmcdfdaaDoor.D
