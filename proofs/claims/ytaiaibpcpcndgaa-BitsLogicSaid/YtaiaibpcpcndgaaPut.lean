/- A bit is put into a map. -/
import Derived.Test.YtaiaibpcpcndgaaBase
import Derived.StillTailTactics
namespace Go.Proofs.Ytaiaibpcpcndgaa
open Go.RowKit


theorem u64_of_nat (a : Nat) (ha : a < 18446744073709551616) : (BitVec.ofInt 64 (a : Int)).toNat = a := by
  rw [BitVec.ofInt_natCast, BitVec.toNat_ofNat]; exact Nat.mod_eq_of_lt (by omega)
theorem or64 (a b : Nat) (ha : a < 18446744073709551616) (hb : b < 18446744073709551616) : bits .or .u64 (a : Int) (b : Int) = ((a ||| b : Nat) : Int) := by
  have hx : a ||| b < 2 ^ 64 := Nat.or_lt_two_pow (by omega) (by omega)
  show IntKind.u64.wrap ((BitVec.ofInt 64 (a : Int) ||| BitVec.ofInt 64 (b : Int)).toNat : Int) = _
  rw [BitVec.toNat_or, u64_of_nat a ha, u64_of_nat b hb, IntKind.wrap_u64]
  omega
theorem clear64 (a b : Nat) (ha : a < 18446744073709551616) (hb : b < 18446744073709551616) : bits .andNot .u64 (a : Int) (b : Int) = ((a &&& (18446744073709551615 - b) : Nat) : Int) := by
  have hx : a &&& (18446744073709551615 - b) < 2 ^ 64 := Nat.and_lt_two_pow _ (by omega)
  show IntKind.u64.wrap ((BitVec.ofInt 64 (a : Int) &&& ~~~BitVec.ofInt 64 (b : Int)).toNat : Int) = _
  rw [BitVec.toNat_and, BitVec.toNat_not, u64_of_nat a ha, u64_of_nat b hb, IntKind.wrap_u64]
  have e : 2 ^ 64 - 1 - b = 18446744073709551615 - b := by omega
  rw [e]
  omega

/-- What a word becomes when a bit is put. -/
theorem wordV_put (L : List Bool) (i : Nat) (v : Bool) (hi : i < L.length) :
    wordV (L.set i v) (i / 64) = if v then wordV L (i / 64) ||| 2 ^ (i % 64) else wordV L (i / 64) &&& (18446744073709551615 - 2 ^ (i % 64)) := by
  have hm : i % 64 < 64 := Nat.mod_lt _ (by omega)
  have hp : (2 : Nat) ^ (i % 64) < 2 ^ 64 := Nat.pow_lt_pow_right (by omega) hm
  apply Nat.eq_of_testBit_eq
  intro j
  by_cases hj : j < 64
  · rw [wordV_bit _ _ _ hj, List.getD_eq_getElem?_getD, List.getElem?_set]
    by_cases e : j = i % 64
    · subst e
      rw [Nat.div_add_mod, if_pos rfl, if_pos hi]
      cases v
      · simp only [Bool.false_eq_true, if_false]
        rw [Nat.testBit_and, show (18446744073709551615 : Nat) - 2 ^ (i % 64) = 2 ^ 64 - (2 ^ (i % 64) + 1) from by omega, Nat.testBit_two_pow_sub_succ hp]
        simp [Nat.testBit_two_pow_self]
      · simp [Nat.testBit_or, Nat.testBit_two_pow_self]
    · rw [if_neg (by omega)]
      have hn : Nat.testBit (2 ^ (i % 64)) j = false := Nat.testBit_two_pow_of_ne (fun h => e h.symm)
      have hg := wordV_bit L (i / 64) j hj
      rw [List.getD_eq_getElem?_getD] at hg
      cases v
      · simp only [Bool.false_eq_true, if_false]
        rw [Nat.testBit_and, show (18446744073709551615 : Nat) - 2 ^ (i % 64) = 2 ^ 64 - (2 ^ (i % 64) + 1) from by omega, Nat.testBit_two_pow_sub_succ hp, hn, hg]
        simp [hj]
      · simp only [if_true]
        rw [Nat.testBit_or, hn, hg]; simp
  · have hj' : 64 ≤ j := by omega
    rw [wordV_high _ _ _ hj']
    have h0 := wordV_high L (i / 64) j hj'
    cases v
    · simp [Nat.testBit_and, h0]
    · simp only [if_true]
      rw [Nat.testBit_or, h0, Nat.testBit_two_pow_of_ne (by omega)]; rfl
theorem wordV_other (L : List Bool) (i k : Nat) (v : Bool) (hk : k ≠ i / 64) : wordV (L.set i v) k = wordV L k := by
  apply Nat.eq_of_testBit_eq
  intro j
  by_cases hj : j < 64
  · rw [wordV_bit _ _ _ hj, wordV_bit _ _ _ hj, List.getD_eq_getElem?_getD, List.getD_eq_getElem?_getD, List.getElem?_set, if_neg (by omega)]
  · rw [wordV_high _ _ _ (by omega), wordV_high _ _ _ (by omega)]

theorem mapCells_put (b : Nat) (L : List Bool) (i : Nat) (v : Bool) (hi : i / 64 < 64) :
    (mapCells b L).setIfInBounds (2 + i / 64) (.int .u64 (wordV (L.set i v) (i / 64))) = mapCells b (L.set i v) := by
  apply Array.ext'
  rw [Array.toList_setIfInBounds]
  unfold mapCells
  simp only [List.length_set]
  rw [show 2 + i / 64 = i / 64 + 1 + 1 from by omega, List.set_cons_succ, List.set_cons_succ]
  congr 2
  apply List.ext_getElem?
  intro k
  rw [List.getElem?_set]
  by_cases e : i / 64 = k
  · subst e; simp [hi]
  · rw [if_neg e]
    by_cases hk : k < 64
    · simp [hk, wordV_other L i k v (fun h => e h.symm)]
    · simp [hk]
theorem MapAt.put {w : World} {b : Nat} {L : List Bool} (h : MapAt w b L) {i : Nat} (hi : i < L.length) (v : Bool) : MapAt (w.setCell ⟨b, 2 + i / 64, none⟩ (.int .u64 (wordV (L.set i v) (i / 64)))) b (L.set i v) := by
  have hL := h.2
  refine ⟨?_, by simpa using hL⟩
  rw [← mapCells_put b L i v (by omega)]
  simp [World.setCell, Array.getElem?_modify, h.1]

theorem mask_val (i : Nat) : IntKind.u64.wrap (2 ^ (i % 64)) = ((2 ^ (i % 64) : Nat) : Int) := by
  have hm : i % 64 < 64 := Nat.mod_lt _ (by omega)
  have hp : (2 : Nat) ^ (i % 64) < 2 ^ 64 := Nat.pow_lt_pow_right (by omega) hm
  rw [IntKind.wrap_u64]
  have e : (2 : Int) ^ (i % 64) = ((2 ^ (i % 64) : Nat) : Int) := by simp
  rw [e]
  generalize (2 : Nat) ^ (i % 64) = p at hp
  omega
theorem put_val (L : List Bool) (i : Nat) (hi : i < L.length) : bits BinOp.or IntKind.u64 (wordV L (i / 64)) (IntKind.u64.wrap (2 ^ (i % 64))) = (wordV (L.set i true) (i / 64) : Nat) := by
  have hp : (2 : Nat) ^ (i % 64) < 2 ^ 64 := Nat.pow_lt_pow_right (by omega) (Nat.mod_lt _ (by omega))
  rw [mask_val, or64 _ _ (wordV_lt _ _) (by omega), wordV_put L i true hi, if_pos rfl]
theorem clear_val (L : List Bool) (i : Nat) (hi : i < L.length) : bits BinOp.andNot IntKind.u64 (wordV L (i / 64)) (IntKind.u64.wrap (2 ^ (i % 64))) = (wordV (L.set i false) (i / 64) : Nat) := by
  have hp : (2 : Nat) ^ (i % 64) < 2 ^ 64 := Nat.pow_lt_pow_right (by omega) (Nat.mod_lt _ (by omega))
  rw [mask_val, clear64 _ _ (wordV_lt _ _) (by omega), wordV_put L i false hi, if_neg (by decide)]

/-- What put leaves behind. -/
structure Upd (b : Nat) (L : List Bool) (w w' : World) : Prop where
  map : MapAt w' b L
  kept : Kept (· = b) w w'
  size : w'.heap.size = w.heap.size
theorem Upd.refl {b : Nat} {L : List Bool} {w : World} (h : MapAt w b L) : Upd b L w w := ⟨h, Kept.refl _ w, rfl⟩
theorem Upd.trans {b : Nat} {L M : List Bool} {w w' w'' : World} (h : Upd b L w w') (k : Upd b M w' w'') : Upd b M w w'' := ⟨k.map, h.kept.trans k.kept, k.size.trans h.size⟩
def PutTo (b : Nat) (L : List Bool) (w : World) (e : Ending) (w' : World) : Prop := e = .returned (.tuple #[]) ∧ Upd b L w w'
theorem putTo_mk {b : Nat} {L : List Bool} {w : World} (h : MapAt w b L) {i : Nat} (hi : i < L.length) (v : Bool) {x : Int} (hx : x = (wordV (L.set i v) (i / 64) : Nat)) :
    PutTo b (L.set i v) w (.returned (.tuple #[])) (w.setCell ⟨b, 2 + i / 64, none⟩ (.int .u64 x)).drew := by
  subst hx
  exact ⟨rfl, h.put hi v, (Kept.setCell (X := (· = b)) (Kept.refl _ w) ⟨b, 2 + i / 64, none⟩ rfl _).drew, by simp [World.setCell, World.drew]⟩

set_option maxHeartbeats 400000 in
theorem put_any (b : Nat) (L : List Bool) (i : Nat) (v : Bool) (w : World) (h : MapAt w b L) (hi : i < L.length) :
    Calls Try.prog 49 #[.pointer (some ⟨b, 0, none⟩), .int .i64 i, .bool v] w (PutTo b (L.set i v) w) := by
  have hL := h.2
  have hw := h.word (i / 64) (by omega)
  have hf := h.frozen (2 + i / 64)
  have hk : i / 64 < 64 := by omega
  have hF : ∀ x : Int, x = (wordV (L.set i v) (i / 64) : Nat) → PutTo b (L.set i v) w (.returned (.tuple #[])) (w.setCell ⟨b, 2 + i / 64, none⟩ (.int .u64 x)).drew := fun x hx => putTo_mk h hi v hx
  have HF := Lib.hid hF
  have H1 := Lib.hid (put_val L i hi)
  have H2 := Lib.hid (clear_val L i hi)
  clear hF h
  cases v
  · go_enter Try.func49, Try.ntmps49
    go_wp2
    go_region
    all_goals go_wp2
    all_goals go_end0
    all_goals exact HF.out _ H2.out
  · go_enter Try.func49, Try.ntmps49
    go_wp2
    go_region
    all_goals go_wp2
    all_goals go_end0
    all_goals exact HF.out _ H1.out
end Go.Proofs.Ytaiaibpcpcndgaa
