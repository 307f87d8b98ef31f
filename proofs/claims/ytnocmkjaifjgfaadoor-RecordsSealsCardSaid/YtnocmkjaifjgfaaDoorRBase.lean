/- Worlds that differ in some blocks; bytes, numbers and values in memory; rows of the call's own; append onto them. -/
import Derived.Test.YtnocmkjaifjgfaaDoorRVal
import Derived.WalkKit
import Derived.WalkLawsBesides
import Derived.WalkSpells
import Derived.Outline
import Derived.Below
import Derived.Deep.QuietTactic
import Derived.BigQuiet
import Derived.Lib.Hide
import Derived.Lib.Strings
import Derived.Laws.BitsAllLaws
import Derived.Laws.Rows
import Derived.Laws.OwnMore
import Derived.RegionTactic
import Derived.ChangeAlike
import Derived.BigRegion
import Derived.ChangeBears2
import Derived.OwnWalk
import Derived.Maps.AppendAt
import Derived.Lib.UnsafeStr
import Derived.Lib.AppendStr
import Derived.Lib.SlBytesConst
import Derived.Deep.AppendLies
import Derived.Deep.Draws
namespace Go.Proofs.YtnocmkjaifjgfaaDoor.R
open Go.RowKit

theorem ret_bool {a b : Bool} (h : a = b) : Ending.returned (.bool a) = .returned (.bool b) := by rw [h]
theorem ret_int {k : IntKind} {a b : Int} (h : a = b) : Ending.returned (.int k a) = .returned (.int k b) := by rw [h]
theorem addr_add (g o j : Nat) : (⟨g, o, none⟩ : Addr).add j = ⟨g, o + j, none⟩ := by
  unfold Addr.add; split <;> simp_all
theorem bcell {W w1 : World} {n : Nat} (hb : Below n W w1) : (∀ b o, b < n → w1.cell? ⟨b, o, none⟩ = W.cell? ⟨b, o, none⟩) := fun b o h => hb.cell (p := ⟨b, o, none⟩) h

theorem below_drew {n : Nat} {W W' : World} (h : Below n W W') : Below n W W'.drew := ⟨h.os, h.tape, h.output, h.size, h.block⟩
theorem below_drewN {n : Nat} {W W' : World} (h : Below n W W') (k : Nat) : Below n W (W'.drewN k) := ⟨h.os, h.tape, h.output, h.size, h.block⟩

/-! ### worlds that differ in the blocks X -/
structure Kept (X : Nat → Prop) (W W' : World) : Prop where
  os : W'.os = W.os
  tape : W'.tape = W.tape
  output : W'.output = W.output
  size : W.heap.size ≤ W'.heap.size
  block : ∀ k, k < W.heap.size → ¬ X k → W'.heap[k]? = W.heap[k]?
theorem Kept.refl (X : Nat → Prop) (W : World) : Kept X W W := ⟨rfl, rfl, rfl, Nat.le_refl _, fun _ _ _ => rfl⟩
theorem Kept.trans {X : Nat → Prop} {A B C : World} (h : Kept X A B) (k : Kept X B C) : Kept X A C :=
  ⟨k.os.trans h.os, k.tape.trans h.tape, k.output.trans h.output, Nat.le_trans h.size k.size, fun i hi hx => (k.block i (Nat.lt_of_lt_of_le hi h.size) hx).trans (h.block i hi hx)⟩
theorem Kept.trans' {X Y : Nat → Prop} {A B C : World} (h : Kept X A B) (k : Kept Y B C) (hy : ∀ i, i < A.heap.size → Y i → X i) : Kept X A C :=
  ⟨k.os.trans h.os, k.tape.trans h.tape, k.output.trans h.output, Nat.le_trans h.size k.size, fun i hi hx => (k.block i (Nat.lt_of_lt_of_le hi h.size) (fun y => hx (hy i hi y))).trans (h.block i hi hx)⟩
theorem Kept.mono {X Y : Nat → Prop} {A B : World} (h : Kept X A B) (hxy : ∀ k, X k → Y k) : Kept Y A B :=
  ⟨h.os, h.tape, h.output, h.size, fun i hi hy => h.block i hi (fun hx => hy (hxy i hx))⟩
theorem Kept.alloc {X : Nat → Prop} {A B : World} (h : Kept X A B) (o : Obj) : Kept X A (B.alloc o) :=
  h.trans ⟨rfl, rfl, rfl, by simp, fun k hk _ => Below.heap_alloc _ _ _ hk⟩
theorem Kept.setCell {X : Nat → Prop} {A B : World} (h : Kept X A B) (p : Addr) (hp : X p.block ∨ A.heap.size ≤ p.block) (u : Value) : Kept X A (B.setCell p u) :=
  h.trans' (Y := fun k => k = p.block) ⟨rfl, rfl, rfl, by simp [World.setCell], fun k _ hx => Below.heap_setCell _ _ _ _ hx⟩ (fun i hi e => by subst e; rcases hp with h | h; exact h; omega)
theorem Kept.drew {X : Nat → Prop} {A B : World} (h : Kept X A B) : Kept X A B.drew := h.trans ⟨rfl, rfl, rfl, Nat.le_refl _, fun _ _ _ => rfl⟩
theorem Kept.drewN {X : Nat → Prop} {A B : World} (h : Kept X A B) (n : Nat) : Kept X A (B.drewN n) := h.trans ⟨rfl, rfl, rfl, Nat.le_refl _, fun _ _ _ => rfl⟩
theorem Kept.below {X : Nat → Prop} {A B C : World} (h : Kept X A B) (hb : Below B.heap.size B C) : Kept X A C :=
  h.trans ⟨hb.os, hb.tape, hb.output, hb.size, fun k hk _ => hb.block k hk⟩
theorem Kept.grown {A B : World} {row : Option Nat} (hg : A.grownBy B row) : Kept (fun k => row = some k) A B :=
  ⟨hg.os, hg.tape, hg.output, hg.size, fun k hk hx => hg.block k hk (fun e => hx e.symm)⟩
theorem Kept.toBelow {X : Nat → Prop} {A B : World} (h : Kept X A B) {n : Nat} (hn : n ≤ A.heap.size) (hx : ∀ k, k < n → ¬ X k) : Below n A B :=
  ⟨h.os, h.tape, h.output, h.size, fun k hk => h.block k (by omega) (hx k hk)⟩
theorem Kept.of_below {A B : World} (h : Below A.heap.size A B) (X : Nat → Prop) : Kept X A B := ⟨h.os, h.tape, h.output, h.size, fun k hk _ => h.block k hk⟩
theorem Kept.cell {X : Nat → Prop} {A B : World} (h : Kept X A B) {b : Nat} (o : Nat) (hb : b < A.heap.size) (hx : ¬ X b) : B.cell? ⟨b, o, none⟩ = A.cell? ⟨b, o, none⟩ :=
  World.cell?_of_block (w := A) (a := ⟨b, o, none⟩) (h.block b hb hx)
theorem Kept.frozen {X : Nat → Prop} {A B : World} (h : Kept X A B) {b : Nat} (o : Nat) (hb : b < A.heap.size) (hx : ¬ X b) : B.frozen? ⟨b, o, none⟩ = A.frozen? ⟨b, o, none⟩ :=
  World.frozen?_of_block (w := A) (a := ⟨b, o, none⟩) (h.block b hb hx)

/-! ### bytes -/
def BytesAt (w : World) (v : Value) (l : List UInt8) : Prop :=
  (∃ a c, v = .slice a 0 c ∧ l = []) ∨
  ∃ b o c, v = .slice (some ⟨b, o, none⟩) l.length c ∧ b < w.heap.size ∧ ∀ k (h : k < l.length), w.cell? ⟨b, o + k, none⟩ = some (.int .u8 l[k].toNat)
theorem BytesAt.shape {w : World} {v : Value} {l : List UInt8} (h : BytesAt w v l) : ∃ a c, v = .slice a l.length c := by
  rcases h with ⟨a, c, rfl, rfl⟩ | ⟨b, o, c, rfl, _⟩
  · exact ⟨a, c, rfl⟩
  · exact ⟨_, c, rfl⟩
theorem BytesAt.below {n : Nat} {A B : World} {v : Value} {l : List UInt8} (h : BytesAt A v l) (hk : Below n A B) (hn : A.heap.size ≤ n) : BytesAt B v l := by
  rcases h with h | ⟨b, o, c, rfl, hb, hc⟩
  · exact .inl h
  · exact .inr ⟨b, o, c, rfl, Nat.lt_of_lt_of_le hb hk.size, fun k hk' => (hk.cell (p := ⟨b, o + k, none⟩) (by show b < n; omega)).trans (hc k hk')⟩
theorem BytesAt.kept {X : Nat → Prop} {A B : World} {v : Value} {l : List UInt8} (h : BytesAt A v l) (hk : Kept X A B) (hn : ∀ g i n c, v = .slice (some ⟨g, i, none⟩) n c → g < A.heap.size → ¬ X g) : BytesAt B v l := by
  rcases h with h | ⟨b, o, c, rfl, hb, hc⟩
  · exact .inl h
  · exact .inr ⟨b, o, c, rfl, Nat.lt_of_lt_of_le hb hk.size, fun k hk' => (hk.cell (o + k) hb (hn _ _ _ _ rfl hb)).trans (hc k hk')⟩
theorem BytesAt.none_ {w : World} (s : Option Addr) (d : Nat) : BytesAt w (.slice s 0 d) [] := .inl ⟨_, _, rfl, rfl⟩
theorem BytesAt.take {w : World} {s : Option Addr} {d d' : Nat} {l : List UInt8} (h : BytesAt w (.slice s l.length d) l) (k : Nat) (hk : k ≤ l.length) : BytesAt w (.slice s k d') (l.take k) := by
  have hl : (l.take k).length = k := by rw [List.length_take]; omega
  rcases h with ⟨a, c, hv, rfl⟩ | ⟨b, o, c, hv, hb, hc⟩
  · simp at hk; subst hk; exact .inl ⟨_, _, rfl, rfl⟩
  · cases hv
    refine .inr ⟨b, o, d', by rw [hl], hb, fun j hj => ?_⟩
    rw [hl] at hj
    rw [List.getElem_take]
    exact hc j (by omega)
theorem BytesAt.drop {w : World} {g o : Nat} {d d' : Nat} {l : List UInt8} (h : BytesAt w (.slice (some ⟨g, o, none⟩) l.length d) l) (k : Nat) (hk : k ≤ l.length) : BytesAt w (.slice (some ⟨g, o + k, none⟩) (l.length - k) d') (l.drop k) := by
  have hl : (l.drop k).length = l.length - k := by rw [List.length_drop]
  by_cases e : l.length - k = 0
  · rw [e]; exact .inl ⟨_, _, rfl, by apply List.eq_nil_of_length_eq_zero; omega⟩
  · rcases h with ⟨a, c, hv, rfl⟩ | ⟨b, o', c, hv, hb, hc⟩
    · simp at e
    · cases hv
      refine .inr ⟨g, o + k, d', by rw [hl], hb, fun j hj => ?_⟩
      rw [hl] at hj
      rw [List.getElem_drop, Nat.add_assoc]
      exact hc (k + j) (by omega)
theorem byte_lt (l : List UInt8) (k : Nat) (h : k < l.length) : l[k].toNat < 256 := by have := l[k].toNat_lt; omega
theorem bytes_new (W : World) (l : List UInt8) (cs : Array Value) (t : TypeId) (fr : Nat × Nat) (h : cs = (Lib.byteCells l).toArray) (n : Nat) (hn : l.length = n) : BytesAt (W.alloc (.cells cs t fr)) (.slice (some ⟨W.heap.size, 0, none⟩) n n) l := by
  subst hn h
  refine .inr ⟨W.heap.size, 0, l.length, rfl, by simp, fun k hk => ?_⟩
  have hb : (W.alloc (.cells (Lib.byteCells l).toArray t fr)).heap[W.heap.size]? = some (.cells (Lib.byteCells l).toArray t fr) := heap_alloc_new W _
  unfold World.cell?
  rw [hb]
  simp [Lib.byteCells, hk]
theorem byte_new (W : World) (c : UInt8) (t : TypeId) (fr : Nat × Nat) : BytesAt (W.alloc (.cells #[.int .u8 c.toNat] t fr)) (.slice (some ⟨W.heap.size, 0, none⟩) 1 1) [c] :=
  bytes_new W [c] _ t fr (by simp [Lib.byteCells]) 1 rfl

/-! ### numbers of 32 bits -/
def NumsAt (w : World) (v : Value) (l : List Nat) : Prop :=
  (∃ a c, v = .slice a 0 c ∧ l = []) ∨
  ∃ b o c, v = .slice (some ⟨b, o, none⟩) l.length c ∧ b < w.heap.size ∧ ∀ k (h : k < l.length), w.cell? ⟨b, o + k, none⟩ = some (.int .u32 (l[k] : Nat))
theorem NumsAt.shape {w : World} {v : Value} {l : List Nat} (h : NumsAt w v l) : ∃ a c, v = .slice a l.length c := by
  rcases h with ⟨a, c, rfl, rfl⟩ | ⟨b, o, c, rfl, _⟩
  · exact ⟨a, c, rfl⟩
  · exact ⟨_, c, rfl⟩
theorem NumsAt.below {n : Nat} {A B : World} {v : Value} {l : List Nat} (h : NumsAt A v l) (hk : Below n A B) (hn : A.heap.size ≤ n) : NumsAt B v l := by
  rcases h with h | ⟨b, o, c, rfl, hb, hc⟩
  · exact .inl h
  · exact .inr ⟨b, o, c, rfl, Nat.lt_of_lt_of_le hb hk.size, fun k hk' => (hk.cell (p := ⟨b, o + k, none⟩) (by show b < n; omega)).trans (hc k hk')⟩

/-! ### values -/
/-- The list of values l lies in memory as the slice v. -/
def ValsAt (w : World) (v : Value) (l : List Rv) : Prop :=
  (∃ a c, v = .slice a 0 c ∧ l = []) ∨
  ∃ b o c, v = .slice (some ⟨b, o, none⟩) l.length c ∧ b < w.heap.size ∧ ∀ k (h : k < l.length), w.cell? ⟨b, o + k * 3, none⟩ = some (.int .u64 (l[k].num : Nat)) ∧ w.cell? ⟨b, o + k * 3 + 1, none⟩ = some (.string l[k].str) ∧
    ∃ x, w.cell? ⟨b, o + k * 3 + 2, none⟩ = some x ∧ NumsAt w x l[k].list
theorem ValsAt.shape {w : World} {v : Value} {l : List Rv} (h : ValsAt w v l) : ∃ a c, v = .slice a l.length c := by
  rcases h with ⟨a, c, rfl, rfl⟩ | ⟨b, o, c, rfl, _⟩
  · exact ⟨a, c, rfl⟩
  · exact ⟨_, c, rfl⟩
theorem ValsAt.below {n : Nat} {A B : World} {v : Value} {l : List Rv} (h : ValsAt A v l) (hk : Below n A B) (hn : A.heap.size ≤ n) : ValsAt B v l := by
  rcases h with h | ⟨b, o, c, rfl, hb, hc⟩
  · exact .inl h
  · refine .inr ⟨b, o, c, rfl, Nat.lt_of_lt_of_le hb hk.size, fun k hk' => ?_⟩
    obtain ⟨h0, h1, x, h2, h3⟩ := hc k hk'
    exact ⟨(hk.cell (p := ⟨b, _, none⟩) (by show b < n; omega)).trans h0, (hk.cell (p := ⟨b, _, none⟩) (by show b < n; omega)).trans h1, x, (hk.cell (p := ⟨b, _, none⟩) (by show b < n; omega)).trans h2, h3.below hk hn⟩

/-! ### rows of the call's own -/
theorem infoByte : (Tryd.prog.info? 5).map (fun i => (i.zero, i.size, i.bytes)) = some (some (.int .u8 0), 1, 1) := by kernel_rfl
def Row (w : World) (base : Nat) (v : Value) (l : List UInt8) : Prop := w.ownsRow base 5 1 v l.length (Lib.byteCells l)
theorem byteCells_append (l0 l : List UInt8) : Lib.byteCells (l0 ++ l) = Lib.byteCells l0 ++ Lib.byteCells l := by simp [Lib.byteCells]
theorem Row.at_ {w : World} {base : Nat} {v : Value} {l : List UInt8} (h : Row w base v l) : BytesAt w v l := by
  rcases h.2 with ⟨rfl, h0⟩ | ⟨g, cap, cur, rfl, _, hg, _⟩
  · have : l = [] := List.eq_nil_of_length_eq_zero h0
    subst this
    exact .inl ⟨none, 0, rfl, rfl⟩
  · refine .inr ⟨g, 0, cap, rfl, (Array.getElem?_eq_some_iff.1 hg).1, fun j hj => ?_⟩
    have := h.cells (g := g) rfl j (.int .u8 (l[j].toNat : Int)) (by simp [Lib.byteCells, List.getElem?_map, List.getElem?_eq_getElem hj])
    rw [addr_add] at this
    exact this
theorem Row.nil (w : World) (base : Nat) : Row w base (.slice none 0 0) [] := World.ownsRow_nil w base 5 1
theorem Row.ge {w : World} {base g : Nat} {v : Value} {l : List UInt8} (h : Row w base v l) (e : v.ownBlock = some g) : base ≤ g ∧ g < w.heap.size := h.lt g e
theorem Row.kept {X : Nat → Prop} {w w' : World} {base : Nat} {v : Value} {l : List UInt8} (h : Row w base v l) (hk : Kept X w w') (hx : ∀ g, v.ownBlock = some g → ¬ X g) : Row w' base v l := by
  refine ⟨h.1, ?_⟩
  rcases h.2 with ⟨rfl, h0⟩ | ⟨g, cap, cur, rfl, hb, hg, hr⟩
  · exact .inl ⟨rfl, h0⟩
  · exact .inr ⟨g, cap, cur, rfl, hb, (hk.block g (Array.getElem?_eq_some_iff.1 hg).1 (hx g rfl)).trans hg, hr⟩
theorem Row.shape {w : World} {base : Nat} {v : Value} {l : List UInt8} (h : Row w base v l) : ∃ a c, v = .slice a l.length c := h.at_.shape
theorem Row.mono {w : World} {base base' : Nat} {v : Value} {l : List UInt8} (h : Row w base v l) (hb : base' ≤ base) : Row w base' v l := by
  refine ⟨h.1, ?_⟩
  rcases h.2 with ⟨rfl, h0⟩ | ⟨g, cap, cur, rfl, hbg, hr⟩
  · exact .inl ⟨rfl, h0⟩
  · exact .inr ⟨g, cap, cur, rfl, by omega, hr⟩
/-- What an append leaves: only v's own row has turned; where the new row lies. -/
structure Moved (w : World) (v v' : Value) (w' : World) : Prop where
  kept : Kept (fun k => v.ownBlock = some k) w w'
  lies : v'.ownBlock = v.ownBlock ∨ ∃ g, v'.ownBlock = some g ∧ w.heap.size ≤ g
theorem Moved.refl (w : World) (v : Value) : Moved w v v w := ⟨Kept.refl _ _, .inl rfl⟩
theorem Moved.trans {a b c : World} {v u t : Value} (h : Moved a v u b) (k : Moved b u t c) : Moved a v t c :=
  ⟨h.kept.trans' k.kept (fun i hi e => by
    rcases h.lies with q | ⟨g, q, hg⟩
    · rw [← q]; exact e
    · rw [q] at e; cases e; omega),
   by
    rcases k.lies with q | ⟨g, q, hg⟩
    · rw [q]; exact h.lies
    · exact .inr ⟨g, q, Nat.le_trans h.kept.size hg⟩⟩
theorem Moved.after {a b c : World} {v u : Value} (h : Below a.heap.size a b) (hv : ∀ g, v.ownBlock = some g → g < a.heap.size) (k : Moved b v u c) : Moved a v u c :=
  ⟨(Kept.of_below h _).trans' k.kept (fun i hi e => e), by
    rcases k.lies with q | ⟨g, q, hg⟩
    · exact .inl q
    · exact .inr ⟨g, q, Nat.le_trans h.size hg⟩⟩

/-- 'append(v, x...)', v of the call's own or nil, x bytes. -/
theorem run_append_row {W : World} {ty : TypeId} {base : Nat} {v x : Value} {l0 l : List UInt8} (hown : Row W base v l0) (hx : BytesAt W x l) (h0 : 0 < l.length) (hl : l0.length + l.length ≤ 1000000) (hb : base ≤ W.heap.size) :
    ∃ v' w', (Builtin.append_ #[22, 22] ty #[v, x]).run Tryd.prog W = .ok v' w' ∧ Row w' base v' (l0 ++ l) ∧ Moved W v v' w' := by
  obtain ⟨i0, hi, hz0, hz1, hz2⟩ := info_parts infoByte
  rcases hx with ⟨a, c, rfl, rfl⟩ | ⟨b, o, c, rfl, hlt, hcell⟩
  · simp at h0
  · obtain ⟨v', w', hr, h1, h2, h3, h4⟩ := run_append_own_at (P := Tryd.prog) W base 22 ty 5 i0 (.int .u8 0) 1 1 Tryd.underlying22 hi hz0 hz1 hz2 rfl (by decide) v l0.length _ hown ⟨b, o, none⟩ l.length c (Lib.byteCells l) (by simp [Lib.byteCells])
      (fun j u hj => by
        unfold Lib.byteCells at hj
        rw [List.getElem?_map] at hj
        have hjl : j < l.length := by
          rcases Nat.lt_or_ge j l.length with h | h
          · exact h
          · rw [List.getElem?_eq_none h] at hj; simp at hj
        rw [List.getElem?_eq_getElem hjl] at hj
        simp at hj; subst hj
        rw [addr_add]; exact hcell j hjl)
      (by intro u hu; obtain ⟨s, _, rfl⟩ := List.mem_map.1 hu; rfl) (by unfold maxLen; omega) (by omega) hb
    refine ⟨v', w', hr, ?_, Kept.grown h2, h4.imp id (fun e => ⟨_, e, Nat.le_refl _⟩)⟩
    unfold Row
    rw [List.length_append, byteCells_append]
    exact h1
theorem run_append_str {W : World} {ty : TypeId} {base : Nat} {v : Value} {l0 : List UInt8} (s : ByteArray) (hown : Row W base v l0) (hl : l0.length + s.size ≤ 1000000) (hb : base ≤ W.heap.size) :
    ∃ v' w', (Builtin.append_ #[22, 9] ty #[v, .string s]).run Tryd.prog W = .ok v' w' ∧ Row w' base v' (l0 ++ s.data.toList) ∧ Kept (fun k => v.ownBlock = some k) W w' := by
  obtain ⟨i0, hi, hz0, hz1, hz2⟩ := info_parts infoByte
  obtain ⟨v', w', hr, h1, h2, h3⟩ := Lib.run_append_own_string (P := Tryd.prog) W base 22 9 ty 5 i0 Tryd.underlying22 Tryd.underlying9 hi hz0 hz1 hz2 v l0.length _ hown s (by unfold maxLen; omega) (by omega) hb
  refine ⟨v', w', hr, ?_, Kept.grown h2⟩
  unfold Row
  have e : s.data.toList.length = s.size := by simp
  rw [List.length_append, e, byteCells_append]
  exact h1

/-! ### an append whose run is known, for the walk -/
theorem wpList_append_run {P : Program} {w : World} {ops : Array Oper} {rest : List Oper} {o : Oper} {a : Act} {Q : Exit → Act → World → Prop} (hgd : o.guard = none) (s x : Operand) (t u : TypeId)
    (ho : o.op = .call { callee := .builtin .append, args := #[s, x], argTypes := #[t, u] }) (v xv v' : Value) (w' : World) (hs : a.eval s = v) (hx : a.eval x = xv)
    (hrun : (Builtin.append_ #[t, u] o.type #[v, xv]).run P w = .ok v' w') (h : wpList P ops Q rest (a.put o.dst v') w') : wpList P ops Q (o :: rest) a w := by
  refine wpList_plain hgd fun K hK => ?_
  unfold Oper.wp
  simp [execOp, ho, resolve, invoke, builtin, hs, hx, hrun, Result.andThen]
  exact hK _ _ h
theorem wpList_append_row {w : World} {ops : Array Oper} {rest : List Oper} {o : Oper} {a : Act} {Q : Exit → Act → World → Prop} (hgd : o.guard = none) (s x : Operand)
    (ho : o.op = .call { callee := .builtin .append, args := #[s, x], argTypes := #[22, 22] })
    (base : Nat) (v xv : Value) (l0 l : List UInt8) (hs : a.eval s = v) (hx : a.eval x = xv)
    (hown : Row w base v l0) (hxs : BytesAt w xv l) (h0 : 0 < l.length) (hl : l0.length + l.length ≤ 1000000) (hb : base ≤ w.heap.size)
    (h : ∀ v' w', Row w' base v' (l0 ++ l) → Moved w v v' w' → wpList Tryd.prog ops Q rest (a.put o.dst v') w') : wpList Tryd.prog ops Q (o :: rest) a w := by
  obtain ⟨v', w', hr, h1, h2⟩ := run_append_row (ty := o.type) hown hxs h0 hl hb
  exact wpList_append_run hgd s x _ _ ho v xv v' w' hs hx hr (h v' w' h1 h2)
theorem step_append_run {P : Program} {ops : Array Oper} {o : Oper} {a : Act} {w : World} {K : Act → World → Prop} {Q : Exit → Act → World → Prop} {E : Prop} (hgd : o.guard = none) (s x : Operand) (t u : TypeId)
    (ho : o.op = .call { callee := .builtin .append, args := #[s, x], argTypes := #[t, u] }) (v xv v' : Value) (w' : World) (hs : a.eval s = v) (hx : a.eval x = xv)
    (hrun : (Builtin.append_ #[t, u] o.type #[v, xv]).run P w = .ok v' w') (h : K (a.put o.dst v') w') :
    if Region.wanted o (yielded ops a.tmps) = true then Oper.wp P o a w K Q else E := by
  have hw : Region.wanted o (yielded ops a.tmps) = true := by simp [Region.wanted, hgd]
  rw [if_pos hw]
  unfold Oper.wp
  simp [execOp, ho, resolve, invoke, builtin, hs, hx, hrun, Result.andThen]
  exact h
end Go.Proofs.YtnocmkjaifjgfaaDoor.R
