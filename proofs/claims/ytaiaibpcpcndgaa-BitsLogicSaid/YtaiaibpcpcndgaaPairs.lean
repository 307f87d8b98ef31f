/- Not; And, Or, Xor. -/
import Derived.Test.YtaiaibpcpcndgaaWords
namespace Go.Proofs.Ytaiaibpcpcndgaa
open Go.RowKit

/-- A list of n bits by a rule, as far as k; false behind it. -/
def partK (f : Nat → Bool) (n k : Nat) : List Bool := (List.range n).map fun i => decide (i < k) && f i
theorem partK_len (f : Nat → Bool) (n k : Nat) : (partK f n k).length = n := by simp [partK]
theorem partK_get (f : Nat → Bool) (n k i : Nat) : (partK f n k).getD i false = (decide (i < n) && (decide (i < k) && f i)) := by
  rw [List.getD_eq_getElem?_getD]
  by_cases h : i < n
  · simp [partK, h]
  · simp [partK, h]
theorem partK_zero (f : Nat → Bool) (n : Nat) : partK f n 0 = List.replicate n false := by
  apply List.ext_getElem
  · simp [partK]
  · intro i h1 h2; simp [partK]
theorem partK_step (f : Nat → Bool) (n k : Nat) : (partK f n k).set k (f k) = partK f n (k + 1) := by
  apply List.ext_getElem
  · simp [partK]
  · intro i h1 h2
    rw [List.getElem_set]
    simp only [partK, List.getElem_map, List.getElem_range]
    by_cases e : k = i
    · subst e; simp
    · rw [if_neg e]
      have : (decide (i < k)) = decide (i < k + 1) := by rw [decide_eq_decide]; omega
      rw [this]
theorem partK_past (f : Nat → Bool) (n k : Nat) (h : n ≤ k) : partK f n k = partK f n n := by
  apply list_ext (by rw [partK_len, partK_len])
  intro i hi
  rw [partK_len] at hi
  rw [partK_get, partK_get, decide_eq_true (show i < k by omega), decide_eq_true hi]

def notL (L : List Bool) : List Bool := partK (fun i => !L.getD i false) L.length L.length

/-- A new map at a block of its own, and no error. -/
def NewPair (L : List Bool) (w : World) (e : Ending) (w' : World) : Prop := ∃ b, e = .returned (.tuple #[.pointer (some ⟨b, 0, none⟩), .int .i64 0]) ∧ w.heap.size ≤ b ∧ MapAt w' b L ∧ Below w.heap.size w w'

set_option maxHeartbeats 1000000 in
theorem not_any (b : Nat) (L : List Bool) (w : World) (h : MapAt w b L) :
    Calls Try.prog 29 #[.pointer (some ⟨b, 0, none⟩)] w (NewPair (notL L) w) := by
  have HC := Lib.hid (isMade_any b L w h)
  have HN := Lib.hid (blank_any L.length w h.2)
  have hz := h.size
  have hL := h.2
  have hbl := h.lt
  have HB := Lib.hid h
  clear h
  go_enter Try.func29, Try.ntmps29
  go_wp2_with fail
  refine HC.out.mono ?_
  rintro e w' ⟨rfl, rfl⟩
  go_wp2_with fail
  refine HN.out.mono ?_
  rintro e w1 ⟨rfl, hm, hb, hs⟩
  have hlt1 : w.heap.size < w1.heap.size := by omega
  have HM := Lib.hid hm
  rw [← partK_zero (fun i => !L.getD i false)] at HM
  have hz1 := (HB.out.below hb hbl).size
  clear hm hs
  go_wp2_with fail
  go_loopw [18] (fun i wr => ∃ k : Nat, k ≤ L.length ∧ i = .int .i64 k ∧ Hid (MapAt wr w.heap.size (partK (fun i => !L.getD i false) L.length k)) ∧ Below w.heap.size w wr ∧ w.heap.size < wr.heap.size) (fun i _ => L.length - (intOf i).toNat)
  case atStart => exact ⟨0, Nat.zero_le _, rfl, HM, hb, hlt1⟩
  case round =>
    obtain ⟨k, hk, rfl, hm, hbel, hlt2⟩ := hrel
    by_cases hlt : k < L.length
    · have HBB := Lib.hid (bit_any b L k wr (HB.out.below hbel hbl) (by omega))
      have HP := Lib.hid (put_any w.heap.size _ k (!L.getD k false) wr hm.out (by rw [partK_len]; exact hlt))
      have HS := Lib.hid (partK_step (fun i => !L.getD i false) L.length k)
      generalize L.getD k false = x at *
      go_wp2_with fail
      refine HBB.out.mono ?_
      rintro e w' ⟨rfl, rfl⟩
      go_wp2_with fail
      refine HP.out.mono ?_
      rintro e w2 ⟨rfl, hu⟩
      have hs2 := hu.size
      have HU := Lib.hid hu.map
      rw [HS.out] at HU
      have hb2 : Below w.heap.size w w2 := hbel.trans (hu.kept.toBelow (by omega) (fun k h => by omega))
      have hlt3 : w.heap.size < w2.heap.size := by omega
      clear hu hs2
      go_wp2_with fail
      go_roundw
      case rel => exact ⟨k + 1, by omega, by go_num, HU, hb2, hlt3⟩
      case measure => simp [intOf]; omega
    · obtain rfl : k = L.length := by omega
      go_wp2_with fail
      go_ret2
      exact ⟨_, rfl, Nat.le_refl _, hm.out, hbel⟩

theorem not_no (v : Value) (w : World) (hc : Calls Try.prog 51 #[v] w fun e w' => e = .returned (.bool false) ∧ w = w') :
    Calls Try.prog 29 #[v] w fun e w' => e = .returned (.tuple #[.pointer none, .int .i64 1]) ∧ w = w' := by
  have HC := Lib.hid hc
  clear hc
  go_enter Try.func29, Try.ntmps29
  go_wp2_with fail
  refine HC.out.mono ?_
  rintro e w' ⟨rfl, rfl⟩
  go_wp2_with fail
  go_ret2
  exact ⟨rfl, rfl⟩

/-! ### Two maps -/
theorem MapAt.setWord {w : World} {b : Nat} {P P' : List Bool} (h : MapAt w b P) (k : Nat) (hk : k < 64) (hl : P'.length = P.length) (ho : ∀ j, j ≠ k → wordV P' j = wordV P j) :
    MapAt (w.setCell ⟨b, 2 + k, none⟩ (.int .u64 (wordV P' k))) b P' := by
  refine ⟨?_, by rw [hl]; exact h.2⟩
  have hc : (mapCells b P).setIfInBounds (2 + k) (.int .u64 (wordV P' k)) = mapCells b P' := by
    apply Array.ext'
    rw [Array.toList_setIfInBounds]
    unfold mapCells
    simp only [hl]
    rw [show 2 + k = k + 1 + 1 from by omega, List.set_cons_succ, List.set_cons_succ]
    congr 2
    apply List.ext_getElem?
    intro j
    rw [List.getElem?_set]
    by_cases e : k = j
    · subst e; simp [hk]
    · rw [if_neg e]
      by_cases hj : j < 64
      · simp [hj, ho j (fun x => e x.symm)]
      · simp [hj]
  rw [← hc]
  simp [World.setCell, Array.getElem?_modify, h.1]

theorem wordV_part (f : Nat → Bool) (n k j : Nat) (h : j ≠ k) : wordV (partK f n (64 * (k + 1))) j = wordV (partK f n (64 * k)) j := by
  apply Nat.eq_of_testBit_eq
  intro i
  by_cases hi : i < 64
  · rw [wordV_bit _ _ _ hi, wordV_bit _ _ _ hi, partK_get, partK_get]
    have : decide (64 * j + i < 64 * (k + 1)) = decide (64 * j + i < 64 * k) := by rw [decide_eq_decide]; omega
    rw [this]
  · rw [wordV_high _ _ _ (by omega), wordV_high _ _ _ (by omega)]
theorem wordV_join (op : Bool → Bool → Bool) (L M : List Bool) (k x : Nat) (hop : op false false = false) (hl : L.length = M.length)
    (hx : ∀ i, x.testBit i = op ((wordV L k).testBit i) ((wordV M k).testBit i)) : wordV (partK (fun i => op (L.getD i false) (M.getD i false)) L.length (64 * (k + 1))) k = x := by
  apply Nat.eq_of_testBit_eq
  intro i
  rw [hx i]
  by_cases hi : i < 64
  · rw [wordV_bit _ _ _ hi, wordV_bit _ _ _ hi, wordV_bit _ _ _ hi, partK_get, decide_eq_true (show 64 * k + i < 64 * (k + 1) by omega), Bool.true_and]
    by_cases hn : 64 * k + i < L.length
    · rw [decide_eq_true hn, Bool.true_and]
    · rw [decide_eq_false hn, Bool.false_and, List.getD_eq_getElem?_getD, List.getD_eq_getElem?_getD, List.getElem?_eq_none (by omega), List.getElem?_eq_none (by omega)]
      exact hop.symm
  · rw [wordV_high _ _ _ (by omega), wordV_high _ _ _ (by omega), wordV_high _ _ _ (by omega)]; exact hop.symm

def andL (L M : List Bool) : List Bool := partK (fun i => (L.getD i false) && (M.getD i false)) L.length L.length
def orL (L M : List Bool) : List Bool := partK (fun i => (L.getD i false) || (M.getD i false)) L.length L.length
def xorL (L M : List Bool) : List Bool := partK (fun i => (L.getD i false) ^^ (M.getD i false)) L.length L.length

theorem and64 (a b : Nat) (ha : a < 18446744073709551616) (hb : b < 18446744073709551616) : bits .and .u64 (a : Int) (b : Int) = ((a &&& b : Nat) : Int) := by
  have hx : a &&& b < 2 ^ 64 := Nat.and_lt_two_pow _ (by omega)
  show IntKind.u64.wrap ((BitVec.ofInt 64 (a : Int) &&& BitVec.ofInt 64 (b : Int)).toNat : Int) = _
  rw [BitVec.toNat_and, u64_of_nat a ha, u64_of_nat b hb, IntKind.wrap_u64]
  omega
theorem xor64 (a b : Nat) (ha : a < 18446744073709551616) (hb : b < 18446744073709551616) : bits .xor .u64 (a : Int) (b : Int) = ((a ^^^ b : Nat) : Int) := by
  have hx : a ^^^ b < 2 ^ 64 := Nat.xor_lt_two_pow (by omega) (by omega)
  show IntKind.u64.wrap ((BitVec.ofInt 64 (a : Int) ^^^ BitVec.ofInt 64 (b : Int)).toNat : Int) = _
  rw [BitVec.toNat_xor, u64_of_nat a ha, u64_of_nat b hb, IntKind.wrap_u64]
  omega
theorem andF_any (a b : Nat) (w : World) (ha : a < 18446744073709551616) (hb : b < 18446744073709551616) :
    Calls Try.prog 54 #[.int .u64 a, .int .u64 b] w fun e w' => e = .returned (.int .u64 (a &&& b : Nat)) ∧ w = w' := by
  have HE := Lib.hid (and64 a b ha hb)
  go_enter Try.func54, Try.ntmps54
  go_wp2
  go_ret
  exact ⟨ret_int HE.out, rfl⟩
theorem orF_any (a b : Nat) (w : World) (ha : a < 18446744073709551616) (hb : b < 18446744073709551616) :
    Calls Try.prog 55 #[.int .u64 a, .int .u64 b] w fun e w' => e = .returned (.int .u64 (a ||| b : Nat)) ∧ w = w' := by
  have HE := Lib.hid (or64 a b ha hb)
  go_enter Try.func55, Try.ntmps55
  go_wp2
  go_ret
  exact ⟨ret_int HE.out, rfl⟩
theorem xorF_any (a b : Nat) (w : World) (ha : a < 18446744073709551616) (hb : b < 18446744073709551616) :
    Calls Try.prog 56 #[.int .u64 a, .int .u64 b] w fun e w' => e = .returned (.int .u64 (a ^^^ b : Nat)) ∧ w = w' := by
  have HE := Lib.hid (xor64 a b ha hb)
  go_enter Try.func56, Try.ntmps56
  go_wp2
  go_ret
  exact ⟨ret_int HE.out, rfl⟩
end Go.Proofs.Ytaiaibpcpcndgaa
