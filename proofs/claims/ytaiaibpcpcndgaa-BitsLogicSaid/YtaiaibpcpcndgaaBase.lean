/- Maps of bits in memory: what the block of a map holds; the words of a list of bits. -/
import Derived.Test.YtaiaibpcpcndgaaProg
import Derived.WalkKit
import Derived.WalkLawsBesides
import Derived.WalkSpells
import Derived.Outline
import Derived.Below
import Derived.Deep.QuietTactic
import Derived.BigQuiet
import Derived.Lib.Hide
import Derived.Lib.Strings
import Derived.Laws.BitsAllLaws
import Derived.Laws.Rows
import Derived.Laws.OwnMore
import Derived.RegionTactic
import Derived.BigRegion
import Derived.LaidEqlPtr
namespace Go.Proofs.Ytaiaibpcpcndgaa
open Go.RowKit

/-! ### Worlds that differ in some blocks -/
/-- From W to W' no block outside X has turned. -/
structure Kept (X : Nat → Prop) (W W' : World) : Prop where
  os : W'.os = W.os
  tape : W'.tape = W.tape
  output : W'.output = W.output
  size : W.heap.size ≤ W'.heap.size
  block : ∀ k, k < W.heap.size → ¬ X k → W'.heap[k]? = W.heap[k]?

theorem Kept.refl (X : Nat → Prop) (W : World) : Kept X W W := ⟨rfl, rfl, rfl, Nat.le_refl _, fun _ _ _ => rfl⟩
theorem Kept.trans {X : Nat → Prop} {A B C : World} (h : Kept X A B) (k : Kept X B C) : Kept X A C :=
  ⟨k.os.trans h.os, k.tape.trans h.tape, k.output.trans h.output, Nat.le_trans h.size k.size, fun i hi hx => (k.block i (Nat.lt_of_lt_of_le hi h.size) hx).trans (h.block i hi hx)⟩
theorem Kept.mono {X Y : Nat → Prop} {A B : World} (h : Kept X A B) (hxy : ∀ k, X k → Y k) : Kept Y A B :=
  ⟨h.os, h.tape, h.output, h.size, fun i hi hy => h.block i hi (fun hx => hy (hxy i hx))⟩
theorem Kept.alloc {X : Nat → Prop} {A B : World} (h : Kept X A B) (o : Obj) : Kept X A (B.alloc o) :=
  h.trans ⟨rfl, rfl, rfl, by simp, fun k hk _ => Below.heap_alloc _ _ _ hk⟩
theorem Kept.setCell {X : Nat → Prop} {A B : World} (h : Kept X A B) (p : Addr) (hp : X p.block) (u : Value) : Kept X A (B.setCell p u) :=
  h.trans ⟨rfl, rfl, rfl, by simp [World.setCell], fun k _ hx => Below.heap_setCell _ _ _ _ (fun e => hx (e ▸ hp))⟩
theorem Kept.drew {X : Nat → Prop} {A B : World} (h : Kept X A B) : Kept X A B.drew := h.trans ⟨rfl, rfl, rfl, Nat.le_refl _, fun _ _ _ => rfl⟩
theorem Kept.drewN {X : Nat → Prop} {A B : World} (h : Kept X A B) (n : Nat) : Kept X A (B.drewN n) := h.trans ⟨rfl, rfl, rfl, Nat.le_refl _, fun _ _ _ => rfl⟩
theorem Kept.below {X : Nat → Prop} {A B C : World} (h : Kept X A B) (hb : Below B.heap.size B C) : Kept X A C :=
  h.trans ⟨hb.os, hb.tape, hb.output, hb.size, fun k hk _ => hb.block k hk⟩
theorem Kept.grown {X : Nat → Prop} {A B C : World} {row : Option Nat} (h : Kept X A B) (hg : B.grownBy C row) (hr : ∀ k, row = some k → X k ∨ B.heap.size ≤ k) : Kept X A C :=
  h.trans ⟨hg.os, hg.tape, hg.output, hg.size, fun k hk hx => hg.block k hk (fun e => (hr k e.symm).elim hx (fun h => by omega))⟩
theorem Kept.toBelow {X : Nat → Prop} {A B : World} (h : Kept X A B) {n : Nat} (hn : n ≤ A.heap.size) (hx : ∀ k, X k → n ≤ k) : Below n A B :=
  ⟨h.os, h.tape, h.output, h.size, fun k hk => h.block k (by omega) (fun x => by have := hx k x; omega)⟩

/-! ### Numbers and lists of bits -/
/-- The number whose bits, from the lowest on, are the list. -/
def natOf : List Bool → Nat
  | [] => 0
  | b :: r => b.toNat + 2 * natOf r
theorem natOf_bit : ∀ (l : List Bool) (j : Nat), (natOf l).testBit j = l.getD j false
  | [], j => by simp [natOf]
  | b :: r, 0 => by cases b <;> simp [natOf, Nat.testBit_zero] <;> omega
  | b :: r, j + 1 => by
    have h : natOf (b :: r) / 2 = natOf r := by cases b <;> simp [natOf] <;> omega
    rw [Nat.testBit_succ, h, natOf_bit r j]; simp
theorem natOf_lt : ∀ (l : List Bool), natOf l < 2 ^ l.length
  | [] => by simp [natOf]
  | b :: r => by
    have := natOf_lt r
    rw [List.length_cons, Nat.pow_succ]
    cases b <;> simp [natOf] <;> omega

/-- The k-th word of a list of bits. -/
def wordV (L : List Bool) (k : Nat) : Nat := natOf ((L.drop (64 * k)).take 64)
theorem wordV_lt (L : List Bool) (k : Nat) : wordV L k < 18446744073709551616 := by
  have h := natOf_lt ((L.drop (64 * k)).take 64)
  have h2 : (2 : Nat) ^ ((L.drop (64 * k)).take 64).length ≤ 2 ^ 64 := Nat.pow_le_pow_right (by omega) (by simp; omega)
  unfold wordV
  exact Nat.lt_of_lt_of_le h h2
theorem wordV_bit (L : List Bool) (k j : Nat) (hj : j < 64) : (wordV L k).testBit j = L.getD (64 * k + j) false := by
  unfold wordV
  rw [natOf_bit, List.getD_eq_getElem?_getD, List.getD_eq_getElem?_getD, List.getElem?_take_of_lt hj, List.getElem?_drop]
theorem wordV_high (L : List Bool) (k j : Nat) (hj : 64 ≤ j) : (wordV L k).testBit j = false := by
  apply Nat.testBit_lt_two_pow
  exact Nat.lt_of_lt_of_le (wordV_lt L k) (by have : (2 : Nat) ^ 64 ≤ 2 ^ j := Nat.pow_le_pow_right (by omega) hj
                                              omega)

/-- The cells of a map: itself, the number of its bits, its words. -/
def mapCells (b : Nat) (L : List Bool) : Array Value :=
  ⟨.pointer (some ⟨b, 0, none⟩) :: .int .i64 L.length :: (List.range 64).map fun k => .int .u64 (wordV L k)⟩
/-- The map of L lies in block b. -/
def MapAt (w : World) (b : Nat) (L : List Bool) : Prop := w.heap[b]? = some (.cells (mapCells b L) 65 (0, 0)) ∧ L.length ≤ 4096

theorem MapAt.lt {w : World} {b : Nat} {L : List Bool} (h : MapAt w b L) : b < w.heap.size := (Array.getElem?_eq_some_iff.1 h.1).1
theorem MapAt.self {w : World} {b : Nat} {L : List Bool} (h : MapAt w b L) : w.cell? ⟨b, 0, none⟩ = some (.pointer (some ⟨b, 0, none⟩)) := by
  simp [World.cell?, h.1, mapCells]
theorem MapAt.size {w : World} {b : Nat} {L : List Bool} (h : MapAt w b L) : w.cell? ⟨b, 1, none⟩ = some (.int .i64 L.length) := by
  simp [World.cell?, h.1, mapCells]
theorem MapAt.word {w : World} {b : Nat} {L : List Bool} (h : MapAt w b L) (k : Nat) (hk : k < 64) : w.cell? ⟨b, 2 + k, none⟩ = some (.int .u64 (wordV L k)) := by
  have : (mapCells b L)[2 + k]? = some (.int .u64 (wordV L k)) := by
    unfold mapCells
    rw [show 2 + k = k + 1 + 1 from by omega]
    simp [hk]
  simp [World.cell?, h.1, this]
theorem MapAt.frozen {w : World} {b : Nat} {L : List Bool} (h : MapAt w b L) (k : Nat) : w.frozen? ⟨b, k, none⟩ = false := by
  simp [World.frozen?, h.1]
theorem MapAt.kept {X : Nat → Prop} {A B : World} {b : Nat} {L : List Bool} (h : MapAt A b L) (hk : Kept X A B) (hx : ¬ X b) : MapAt B b L :=
  ⟨(hk.block b h.lt hx).trans h.1, h.2⟩
theorem MapAt.below {n : Nat} {A B : World} {b : Nat} {L : List Bool} (h : MapAt A b L) (hk : Below n A B) (hb : b < n) : MapAt B b L :=
  ⟨(hk.block b hb).trans h.1, h.2⟩
theorem MapAt.drewN {w : World} {b : Nat} {L : List Bool} (h : MapAt w b L) (n : Nat) : MapAt (w.drewN n) b L := h
theorem ret_bool {a b : Bool} (h : a = b) : Ending.returned (.bool a) = .returned (.bool b) := by rw [h]
theorem ret_int {k : IntKind} {a b : Int} (h : a = b) : Ending.returned (.int k a) = .returned (.int k b) := by rw [h]

/-- What bit, isMade and their like are given: a pointer to a map. -/
abbrev mptr (b : Nat) : Value := .pointer (some ⟨b, 0, none⟩)


/-! ### Whether a pointer is a map's -/
theorem infoMap : ∃ j, Try.prog.info? 65 = some j := by
  have h : (Try.prog.info? 65).isSome = true := by kernel_rfl
  exact Option.isSome_iff_exists.1 h
theorem ptr_same (w : World) (a : Addr) : (binOp .eql 26 (.pointer (some a)) (.pointer (some a))).run Try.prog w = .ok (.bool true) w := by
  obtain ⟨j, hj⟩ := infoMap
  exact run_eql_ptr_same w a Try.underlying26 hj
theorem ptr_nil_left (w : World) (a : Addr) : (binOp .eql 26 (.pointer none) (.pointer (some a))).run Try.prog w = .ok (.bool false) w := by
  have h : ∀ d : Nat, (Op.equalIn (d + 1) 26 (.pointer none) (.pointer (some a))).run Try.prog w = .ok false w := fun d => by
    simp [Op.equalIn, run_underlying Try.underlying26]
  simp only [binOp]
  simp [Op.equal, Op.maxDepth, h 9999]

theorem isMade_any (b : Nat) (L : List Bool) (w : World) (h : MapAt w b L) :
    Calls Try.prog 51 #[.pointer (some ⟨b, 0, none⟩)] w fun e w' => e = .returned (.bool true) ∧ w = w' := by
  have h0 := h.self
  have hp := ptr_same w ⟨b, 0, none⟩
  go_enter Try.func51, Try.ntmps51
  go_wp2
  go_ret
  exact ⟨rfl, rfl⟩

/-- No map: nil, or a block that does not point at itself. -/
theorem isMade_nil (w : World) :
    Calls Try.prog 51 #[.pointer none] w fun e w' => e = .returned (.bool false) ∧ w = w' := by
  go_enter Try.func51, Try.ntmps51
  go_wp2
  go_ret
  exact ⟨rfl, rfl⟩
theorem isMade_zero (b : Nat) (w : World) (h : w.cell? ⟨b, 0, none⟩ = some (.pointer none)) :
    Calls Try.prog 51 #[.pointer (some ⟨b, 0, none⟩)] w fun e w' => e = .returned (.bool false) ∧ w = w' := by
  have hp := ptr_nil_left w ⟨b, 0, none⟩
  go_enter Try.func51, Try.ntmps51
  go_wp2
  go_ret
  exact ⟨rfl, rfl⟩

theorem byteCount_any (n : Int) (w : World) (h0 : 0 ≤ n) (h1 : n ≤ 4096) :
    Calls Try.prog 48 #[.int .i64 n] w fun e w' => e = .returned (.int .i64 ((n + 7) / 8)) ∧ w = w' := by
  go_enter Try.func48, Try.ntmps48
  go_wp2
  go_ret
  exact ⟨ret_int (by omega), rfl⟩

/-! ### lookAt -/
theorem lookAt_no (v : Value) (from_ n : Int) (w : World) (hc : Calls Try.prog 51 #[v] w fun e w' => e = .returned (.bool false) ∧ w = w') :
    Calls Try.prog 58 #[v, .int .i64 from_, .int .i64 n] w fun e w' => e = .returned (.int .i64 1) ∧ w = w' := by
  have HC := Lib.hid hc
  clear hc
  go_enter Try.func58, Try.ntmps58
  go_wp2_with fail
  refine HC.out.mono ?_
  rintro e w' ⟨rfl, rfl⟩
  go_wp2_with fail
  go_ret
  exact ⟨rfl, rfl⟩
/-- Whether a range lies in a list. -/
def inR (n : Nat) (a m : Int) : Bool := decide (0 ≤ a ∧ 0 ≤ m ∧ a + m ≤ n)
def lookE (n : Nat) (a m : Int) : Int := if inR n a m then 0 else 7
theorem lookE_no {n : Nat} {a m : Int} (h : ¬ (0 ≤ a ∧ 0 ≤ m ∧ a + m ≤ n)) : lookE n a m = 7 := by
  unfold lookE inR; rw [if_neg]; simpa using h
theorem lookE_yes {n : Nat} {a m : Int} (h : 0 ≤ a ∧ 0 ≤ m ∧ a + m ≤ n) : lookE n a m = 0 := by
  unfold lookE inR; rw [if_pos]; simpa using h
theorem lookAt_any (b : Nat) (L : List Bool) (from_ n : Int) (w : World) (h : MapAt w b L) (l1 : from_ ≤ 9223372036854775807) (l3 : n ≤ 9223372036854775807) (l0 : -9223372036854775808 ≤ from_) (l2 : -9223372036854775808 ≤ n) :
    Calls Try.prog 58 #[.pointer (some ⟨b, 0, none⟩), .int .i64 from_, .int .i64 n] w fun e w' => e = .returned (.int .i64 (lookE L.length from_ n)) ∧ w = w' := by
  have HC := Lib.hid (isMade_any b L w h)
  have hz := h.size
  have hL := h.2
  clear h
  by_cases c1 : from_ < 0
  · have d1 : decide (from_ < 0) = true := by simpa using c1
    have HF : Hid (lookE L.length from_ n = 7) := Lib.hid (lookE_no (by omega))
    go_enter Try.func58, Try.ntmps58
    go_wp2_with fail
    refine HC.out.mono ?_
    rintro e w' ⟨rfl, rfl⟩
    go_wp2_with fail
    go_ret
    exact ⟨ret_int HF.out.symm, rfl⟩
  · have d1 : decide (from_ < 0) = false := by simpa using c1
    by_cases c2 : n < 0
    · have d2 : decide (n < 0) = true := by simpa using c2
      have HF : Hid (lookE L.length from_ n = 7) := Lib.hid (lookE_no (by omega))
      go_enter Try.func58, Try.ntmps58
      go_wp2_with fail
      refine HC.out.mono ?_
      rintro e w' ⟨rfl, rfl⟩
      go_wp2_with fail
      go_ret
      exact ⟨ret_int HF.out.symm, rfl⟩
    · have d2 : decide (n < 0) = false := by simpa using c2
      by_cases c3 : (L.length : Int) - from_ < n
      · have d3 : decide ((L.length : Int) - from_ < n) = true := by simpa using c3
        have HF : Hid (lookE L.length from_ n = 7) := Lib.hid (lookE_no (by omega))
        go_enter Try.func58, Try.ntmps58
        go_wp2_with fail
        refine HC.out.mono ?_
        rintro e w' ⟨rfl, rfl⟩
        go_wp2_with fail
        go_ret
        exact ⟨ret_int HF.out.symm, rfl⟩
      · have d3 : decide ((L.length : Int) - from_ < n) = false := by simpa using c3
        have HF : Hid (lookE L.length from_ n = 0) := Lib.hid (lookE_yes (by omega))
        go_enter Try.func58, Try.ntmps58
        go_wp2_with fail
        refine HC.out.mono ?_
        rintro e w' ⟨rfl, rfl⟩
        go_wp2_with fail
        go_ret
        exact ⟨ret_int HF.out.symm, rfl⟩

/-! ### bit -/
theorem bit_of_word (L : List Bool) (i : Nat) : ((wordV L (i / 64) / 2 ^ (i % 64)) &&& 1 = 1) ↔ L.getD i false = true := by
  have h := wordV_bit L (i / 64) (i % 64) (Nat.mod_lt _ (by omega))
  rw [Nat.div_add_mod] at h
  rw [← h, Nat.testBit, Nat.shiftRight_eq_div_pow, Nat.and_comm, Nat.one_and_eq_mod_two]
  simp
theorem bit_walk (L : List Bool) (i : Nat) : (bits BinOp.and IntKind.u64 ((wordV L (i / 64) : Int) / 2 ^ (i % 64)) 1 == 1) = L.getD i false := by
  have hb := wordV_lt L (i / 64)
  have hd : wordV L (i / 64) / 2 ^ (i % 64) < 18446744073709551616 := Nat.lt_of_le_of_lt (Nat.div_le_self _ _) hb
  have e : ((wordV L (i / 64) : Int) / 2 ^ (i % 64)) = ((wordV L (i / 64) / 2 ^ (i % 64) : Nat) : Int) := by simp
  have e2 : bits BinOp.and IntKind.u64 ((wordV L (i / 64) / 2 ^ (i % 64) : Nat) : Int) ((1 : Nat) : Int) = _ := u64_and_nat _ 1 hd (by omega)
  rw [e, show (1 : Int) = ((1 : Nat) : Int) from rfl, e2, Bool.eq_iff_iff, beq_iff_eq, ← bit_of_word]
  constructor
  · intro h; exact Int.ofNat.inj h
  · intro h; rw [h]
theorem bit_any (b : Nat) (L : List Bool) (i : Nat) (w : World) (h : MapAt w b L) (hi : i < 4096) :
    Calls Try.prog 52 #[.pointer (some ⟨b, 0, none⟩), .int .i64 i] w fun e w' => e = .returned (.bool (L.getD i false)) ∧ w = w' := by
  have hw := h.word (i / 64) (by omega)
  have hb := wordV_lt L (i / 64)
  have hk : i / 64 < 64 := by omega
  go_enter Try.func52, Try.ntmps52
  go_wp2
  go_ret
  exact ⟨ret_bool (bit_walk L i), rfl⟩
end Go.Proofs.Ytaiaibpcpcndgaa
