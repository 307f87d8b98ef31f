/- The bytes of a list of bits, and the bits of bytes: plain words. -/
import Derived.Test.YtkknelcolbdphaaVal
import Derived.Lib.UnsafeStr
import Derived.Laws.BitsAllLaws
namespace Go.Proofs.Ytkknelcolbdphaa
open Go.RowKit

/-- The number whose bits, from the lowest on, are the list. -/
def natOf : List Bool → Nat
  | [] => 0
  | b :: r => b.toNat + 2 * natOf r
theorem natOf_bit : ∀ (l : List Bool) (j : Nat), (natOf l).testBit j = l.getD j false
  | [], j => by simp [natOf]
  | b :: r, 0 => by cases b <;> simp [natOf, Nat.testBit_zero] <;> omega
  | b :: r, j + 1 => by
    have h : natOf (b :: r) / 2 = natOf r := by cases b <;> simp [natOf] <;> omega
    rw [Nat.testBit_succ, h, natOf_bit r j]; simp
theorem natOf_lt : ∀ (l : List Bool), natOf l < 2 ^ l.length
  | [] => by simp [natOf]
  | b :: r => by
    have := natOf_lt r
    rw [List.length_cons, Nat.pow_succ]
    cases b <;> simp [natOf] <;> omega

/-- The value of the j-th byte of a list of bits. -/
def byteV (L : List Bool) (j : Nat) : Nat := natOf ((L.drop (8 * j)).take 8)
theorem byteV_lt (L : List Bool) (j : Nat) : byteV L j < 256 := by
  have h := natOf_lt ((L.drop (8 * j)).take 8)
  have h2 : (2 : Nat) ^ ((L.drop (8 * j)).take 8).length ≤ 2 ^ 8 := Nat.pow_le_pow_right (by omega) (by simp; omega)
  unfold byteV
  omega
theorem byteV_bit (L : List Bool) (j i : Nat) (hi : i < 8) : (byteV L j).testBit i = L.getD (8 * j + i) false := by
  unfold byteV
  rw [natOf_bit, List.getD_eq_getElem?_getD, List.getD_eq_getElem?_getD, List.getElem?_take_of_lt hi, List.getElem?_drop]
theorem byteV_high (L : List Bool) (j i : Nat) (hi : 8 ≤ i) : (byteV L j).testBit i = false := by
  apply Nat.testBit_lt_two_pow
  exact Nat.lt_of_lt_of_le (byteV_lt L j) (by have : (2 : Nat) ^ 8 ≤ 2 ^ i := Nat.pow_le_pow_right (by omega) hi
                                              omega)
theorem byteV_ext {L M : List Bool} {j k : Nat} (h : ∀ i, i < 8 → L.getD (8 * j + i) false = M.getD (8 * k + i) false) : byteV L j = byteV M k := by
  apply Nat.eq_of_testBit_eq
  intro i
  by_cases hi : i < 8
  · rw [byteV_bit _ _ _ hi, byteV_bit _ _ _ hi, h i hi]
  · rw [byteV_high _ _ _ (by omega), byteV_high _ _ _ (by omega)]

theorem getD_take (L : List Bool) (k i : Nat) : (L.take k).getD i false = if i < k then L.getD i false else false := by
  rw [List.getD_eq_getElem?_getD, List.getD_eq_getElem?_getD, List.getElem?_take]
  split <;> rfl

theorem byteV_step_other (L : List Bool) (k j : Nat) (h : j ≠ k / 8) : byteV (L.take (k + 1)) j = byteV (L.take k) j := by
  apply byteV_ext
  intro i hi
  rw [getD_take, getD_take]
  by_cases e : 8 * j + i < k
  · rw [if_pos e, if_pos (by omega)]
  · rw [if_neg e, if_neg (by omega)]
theorem byteV_step_false (L : List Bool) (k j : Nat) (h : L.getD k false = false) : byteV (L.take (k + 1)) j = byteV (L.take k) j := by
  apply byteV_ext
  intro i hi
  rw [getD_take, getD_take]
  by_cases e : 8 * j + i < k
  · rw [if_pos e, if_pos (by omega)]
  · rw [if_neg e]
    by_cases e2 : 8 * j + i = k
    · rw [e2, h]; simp
    · rw [if_neg (by omega)]
theorem byteV_part (L : List Bool) (k : Nat) (hk : k ≤ L.length) : byteV (L.take k) (k / 8) < 2 ^ (k % 8) := by
  have h := natOf_lt (((L.take k).drop (8 * (k / 8))).take 8)
  unfold byteV
  have : (((L.take k).drop (8 * (k / 8))).take 8).length = k % 8 := by simp; omega
  rw [this] at h
  exact h
theorem byteV_step_true (L : List Bool) (k : Nat) (hk : k < L.length) (h : L.getD k false = true) : byteV (L.take (k + 1)) (k / 8) = byteV (L.take k) (k / 8) ||| 2 ^ (k % 8) := by
  apply Nat.eq_of_testBit_eq
  intro i
  by_cases hi : i < 8
  · rw [Nat.testBit_or, byteV_bit _ _ _ hi, byteV_bit _ _ _ hi, getD_take, getD_take]
    by_cases e : i = k % 8
    · subst e
      rw [Nat.div_add_mod, if_pos (by omega), h, Nat.testBit_two_pow_self]; simp
    · rw [Nat.testBit_two_pow_of_ne (fun x => e x.symm), Bool.or_false]
      by_cases e2 : 8 * (k / 8) + i < k
      · rw [if_pos e2, if_pos (by omega)]
      · rw [if_neg e2, if_neg (by omega)]
  · rw [Nat.testBit_or, byteV_high _ _ _ (by omega), byteV_high _ _ _ (by omega), Nat.testBit_two_pow_of_ne (by omega)]; rfl
theorem or_add (a i : Nat) (h : a < 2 ^ i) : a ||| 2 ^ i = a + 2 ^ i := by
  have := Nat.two_pow_add_eq_or_of_lt h 1
  rw [Nat.mul_one] at this
  rw [Nat.or_comm, ← this, Nat.add_comm]
theorem byteV_step_add (L : List Bool) (k : Nat) (hk : k < L.length) (h : L.getD k false = true) : byteV (L.take (k + 1)) (k / 8) = byteV (L.take k) (k / 8) + 2 ^ (k % 8) := by
  rw [byteV_step_true L k hk h, or_add _ _ (byteV_part L k (by omega))]

/-- n bytes of a list of bits. -/
def bytesN (L : List Bool) (n : Nat) : List UInt8 := (List.range n).map fun j => UInt8.ofNat (byteV L j)
def bytesL (L : List Bool) : List UInt8 := bytesN L ((L.length + 7) / 8)
theorem bytesN_len (L : List Bool) (n : Nat) : (bytesN L n).length = n := by simp [bytesN]
theorem bytesL_len (L : List Bool) : (bytesL L).length = (L.length + 7) / 8 := bytesN_len _ _
theorem ofNat_toNat (n : Nat) (h : n < 256) : (UInt8.ofNat n).toNat = n := by rw [UInt8.toNat_ofNat']; exact Nat.mod_eq_of_lt h
theorem bytesN_get (L : List Bool) (n j : Nat) (h : j < n) : (bytesN L n)[j]? = some (UInt8.ofNat (byteV L j)) := by
  simp [bytesN, h]
theorem cells_get (L : List Bool) (n j : Nat) (h : j < n) : (Lib.byteCells (bytesN L n))[j]? = some (.int .u8 (byteV L j : Nat)) := by
  simp [Lib.byteCells, bytesN, h, Nat.mod_eq_of_lt (byteV_lt L j)]
theorem bytesN_zero (n : Nat) (L : List Bool) : Lib.byteCells (bytesN (L.take 0) n) = List.replicate n (.int .u8 0) := by
  have hl : (Lib.byteCells (bytesN (L.take 0) n)).length = n := by simp [Lib.byteCells, bytesN]
  apply List.ext_getElem?
  intro j
  by_cases h : j < n
  · rw [cells_get _ _ _ h, List.getElem?_replicate, if_pos h]
    have e : byteV (L.take 0) j = 0 := by simp [byteV, natOf]
    rw [e]; rfl
  · rw [List.getElem?_eq_none (by omega), List.getElem?_replicate, if_neg h]
theorem cells_step_false (L : List Bool) (k n : Nat) (h : L.getD k false = false) : bytesN (L.take (k + 1)) n = bytesN (L.take k) n := by
  unfold bytesN
  simp only [byteV_step_false L k _ h]
theorem cells_step_true (L : List Bool) (k n : Nat) (hn : k / 8 < n) (x : Int) (hx : x = (byteV (L.take (k + 1)) (k / 8) : Nat)) : (Lib.byteCells (bytesN (L.take k) n)).set (k / 8) (.int .u8 x) = Lib.byteCells (bytesN (L.take (k + 1)) n) := by
  subst hx
  apply List.ext_getElem?
  intro j
  rw [List.getElem?_set]
  have hl : (Lib.byteCells (bytesN (L.take k) n)).length = n := by simp [Lib.byteCells, bytesN]
  have hl2 : (Lib.byteCells (bytesN (L.take (k + 1)) n)).length = n := by simp [Lib.byteCells, bytesN]
  by_cases e : k / 8 = j
  · subst e
    rw [if_pos rfl, if_pos (by rw [hl]; exact hn), cells_get _ _ _ hn]
  · rw [if_neg e]
    by_cases h : j < n
    · rw [cells_get _ _ _ h, cells_get _ _ _ h, byteV_step_other _ _ _ (fun x => e x.symm)]
    · rw [List.getElem?_eq_none (by omega), List.getElem?_eq_none (by omega)]

/-! ### The bits of bytes -/
def bitB (l : List UInt8) (i : Nat) : Bool := (l.getD (i / 8) 0).toNat.testBit (i % 8)
/-- The first n bits of bytes, as far as k; false behind them. -/
def bitsK (l : List UInt8) (n k : Nat) : List Bool := (List.range n).map fun i => decide (i < k) && bitB l i
def bitsN (l : List UInt8) (n : Nat) : List Bool := bitsK l n n
theorem bitsK_len (l : List UInt8) (n k : Nat) : (bitsK l n k).length = n := by simp [bitsK]
theorem bitsN_len (l : List UInt8) (n : Nat) : (bitsN l n).length = n := bitsK_len _ _ _
theorem bitsK_zero (l : List UInt8) (n : Nat) : bitsK l n 0 = List.replicate n false := by
  apply List.ext_getElem
  · simp [bitsK]
  · intro i h1 h2; simp [bitsK]
theorem bitsK_get (l : List UInt8) (n k i : Nat) : (bitsK l n k).getD i false = (decide (i < n) && (decide (i < k) && bitB l i)) := by
  rw [List.getD_eq_getElem?_getD]
  by_cases h : i < n
  · simp [bitsK, h]
  · simp [bitsK, h]
theorem bitsN_get (l : List UInt8) (n i : Nat) : (bitsN l n).getD i false = (decide (i < n) && bitB l i) := by
  unfold bitsN
  rw [bitsK_get]
  by_cases h : i < n <;> simp [h]
theorem bitsK_step (l : List UInt8) (n k : Nat) : (bitsK l n k).set k (bitB l k) = bitsK l n (k + 1) := by
  apply List.ext_getElem
  · simp [bitsK]
  · intro i h1 h2
    rw [List.getElem_set]
    simp only [bitsK, List.getElem_map, List.getElem_range]
    by_cases e : k = i
    · subst e; simp
    · rw [if_neg e]
      have : (decide (i < k)) = decide (i < k + 1) := by rw [decide_eq_decide]; omega
      rw [this]
theorem list_ext {L M : List Bool} (h : L.length = M.length) (hg : ∀ i, i < L.length → L.getD i false = M.getD i false) : L = M := by
  apply List.ext_getElem h
  intro i h1 h2
  have := hg i h1
  rw [List.getD_eq_getElem?_getD, List.getD_eq_getElem?_getD, List.getElem?_eq_getElem h1, List.getElem?_eq_getElem h2] at this
  exact this
theorem bitB_bytesN (L : List Bool) (n i : Nat) (h : i / 8 < n) : bitB (bytesN L n) i = L.getD i false := by
  unfold bitB
  rw [List.getD_eq_getElem?_getD, bytesN_get L n _ h, Option.getD_some, ofNat_toNat _ (byteV_lt _ _), byteV_bit _ _ _ (by omega), Nat.div_add_mod]
/-- Bits of bytes of bits. -/
theorem bits_back (L : List Bool) : bitsN (bytesL L) L.length = L := by
  apply list_ext (bitsN_len _ _)
  intro i hi
  rw [bitsN_len] at hi
  rw [bitsN_get, decide_eq_true hi, Bool.true_and]
  exact bitB_bytesN L _ i (by omega)
/-- Whether bytes are those of a map with n bits. -/
def loadOK (n : Nat) (l : List UInt8) : Bool := decide (l.length = (n + 7) / 8) && (bytesL (bitsN l n) == l)
theorem loadOK_bytes (L : List Bool) : loadOK L.length (bytesL L) = true := by
  unfold loadOK
  rw [bits_back, bytesL_len]; simp
end Go.Proofs.Ytkknelcolbdphaa
