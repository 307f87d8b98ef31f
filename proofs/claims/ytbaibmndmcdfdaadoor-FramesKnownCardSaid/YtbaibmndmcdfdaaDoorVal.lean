/- The crc as a number: what half a step, a byte and a string of bytes do to a register; the way back; bytes 0; strings that differ. Plain words. -/
import Derived.Test.YtbaibmndmcdfdaaDoorProg
namespace Go.Proofs.YtbaibmndmcdfdaaDoor

def polyV : Nat := 3988292384
def allV : Nat := 4294967295
/-- One of the eight steps. -/
def half (r : Nat) : Nat := if r % 2 = 1 then (r / 2) ^^^ polyV else r / 2
def halfN : Nat → Nat → Nat
  | 0, r => r
  | k + 1, r => half (halfN k r)
def stepV (r c : Nat) : Nat := halfN 8 (r ^^^ c)
def onV (r : Nat) (l : List UInt8) : Nat := l.foldl (fun r c => stepV r c.toNat) r
def crcOn (h : Nat) (l : List UInt8) : Nat := onV (h ^^^ allV) l ^^^ allV
def crcV (l : List UInt8) : Nat := crcOn 0 l

/-! ### xor of numbers -/
theorem xor_div2 (a b : Nat) : (a ^^^ b) / 2 = (a / 2) ^^^ (b / 2) := by
  apply Nat.eq_of_testBit_eq; intro i
  rw [Nat.testBit_div_two, Nat.testBit_xor, Nat.testBit_xor, Nat.testBit_div_two, Nat.testBit_div_two]
theorem xor_mod2 (a b : Nat) : (a ^^^ b) % 2 = 1 ↔ ¬ (a % 2 = 1 ↔ b % 2 = 1) := by
  have h := Nat.testBit_xor a b 0
  rw [Nat.testBit_zero, Nat.testBit_zero, Nat.testBit_zero] at h
  by_cases ha : a % 2 = 1 <;> by_cases hb : b % 2 = 1 <;> simp_all
theorem xor_lt {a b : Nat} (ha : a < 4294967296) (hb : b < 4294967296) : a ^^^ b < 4294967296 := Nat.xor_lt_two_pow (n := 32) ha hb
theorem xor_swap (a b c d : Nat) : (a ^^^ b) ^^^ (c ^^^ d) = (a ^^^ c) ^^^ (b ^^^ d) := by
  rw [Nat.xor_assoc, ← Nat.xor_assoc b c d, Nat.xor_comm b c, Nat.xor_assoc c b d, ← Nat.xor_assoc]
theorem xor_cancel (a b : Nat) : (a ^^^ b) ^^^ b = a := by rw [Nat.xor_assoc, Nat.xor_self, Nat.xor_zero]
theorem xor_cancel2 (a b : Nat) : a ^^^ (a ^^^ b) = b := by rw [← Nat.xor_assoc, Nat.xor_self, Nat.zero_xor]
theorem xor_eq_zero {a b : Nat} (h : a ^^^ b = 0) : a = b := by
  have := congrArg (· ^^^ b) h
  simpa [Nat.xor_assoc] using this
theorem polyV_lt : polyV < 4294967296 := by decide
theorem allV_lt : allV < 4294967296 := by decide

/-! ### steps are linear -/
theorem half_xor (a b : Nat) : half (a ^^^ b) = half a ^^^ half b := by
  unfold half
  have h := xor_mod2 a b
  rw [xor_div2]
  by_cases ha : a % 2 = 1 <;> by_cases hb : b % 2 = 1
  · rw [if_neg (by rw [h]; simp [ha, hb]), if_pos ha, if_pos hb, xor_swap, Nat.xor_self, Nat.xor_zero]
  · rw [if_pos (by rw [h]; simp [ha, hb]), if_pos ha, if_neg hb, Nat.xor_assoc, Nat.xor_comm (b / 2), ← Nat.xor_assoc]
  · rw [if_pos (by rw [h]; simp [ha, hb]), if_neg ha, if_pos hb, Nat.xor_assoc]
  · rw [if_neg (by rw [h]; simp [ha, hb]), if_neg ha, if_neg hb]
theorem half_lt {r : Nat} (h : r < 4294967296) : half r < 4294967296 := by
  unfold half; split
  · exact xor_lt (by omega) polyV_lt
  · omega
theorem half_even (q : Nat) : half (2 * q) = q := by unfold half; rw [if_neg (by omega)]; omega
theorem half_zero {r : Nat} (h : r < 4294967296) (e : half r = 0) : r = 0 := by
  unfold half at e
  split at e
  · have := xor_eq_zero e; unfold polyV at this; omega
  · omega
theorem halfN_xor (k a b : Nat) : halfN k (a ^^^ b) = halfN k a ^^^ halfN k b := by
  induction k with
  | zero => rfl
  | succ k ih => rw [halfN, ih, half_xor]; rfl
theorem halfN_lt {k r : Nat} (h : r < 4294967296) : halfN k r < 4294967296 := by
  induction k with
  | zero => exact h
  | succ k ih => exact half_lt ih
theorem halfN_add (j k r : Nat) : halfN (j + k) r = halfN j (halfN k r) := by
  induction j with
  | zero => rw [Nat.zero_add]; rfl
  | succ j ih => rw [Nat.succ_add, halfN, ih]; rfl
theorem halfN_succ' (k r : Nat) : halfN (k + 1) r = halfN k (half r) := halfN_add k 1 r
theorem halfN_zero (k : Nat) : halfN k 0 = 0 := by
  induction k with
  | zero => rfl
  | succ k ih => rw [halfN, ih]; rfl
theorem halfN_inj0 {k r : Nat} (h : r < 4294967296) (e : halfN k r = 0) : r = 0 := by
  induction k with
  | zero => exact e
  | succ k ih => exact ih (half_zero (halfN_lt h) e)
theorem halfN_even (k q : Nat) : halfN k (2 ^ k * q) = q := by
  induction k generalizing q with
  | zero => simp [halfN]
  | succ k ih => rw [halfN_succ', Nat.pow_succ, Nat.mul_assoc, Nat.mul_left_comm, half_even, ih]
theorem halfN_inj {k a b : Nat} (ha : a < 4294967296) (hb : b < 4294967296) (e : halfN k a = halfN k b) : a = b :=
  xor_eq_zero (halfN_inj0 (k := k) (xor_lt ha hb) (by rw [halfN_xor, e, Nat.xor_self]))

/-- A number is its bits from k on and those below, put together. -/
theorem split_pow (k r : Nat) : 2 ^ k * (r / 2 ^ k) ^^^ r % 2 ^ k = r := by
  apply Nat.eq_of_testBit_eq; intro i
  rw [Nat.testBit_xor, Nat.testBit_mod_two_pow, Nat.testBit_two_pow_mul, Nat.testBit_div_two_pow]
  by_cases h : i < k
  · simp [h, Nat.not_le.2 h]
  · have h' : k ≤ i := by omega
    rw [Nat.sub_add_cancel h']; simp [h, h']
theorem mul_xor_pow (k a b : Nat) : 2 ^ k * a ^^^ 2 ^ k * b = 2 ^ k * (a ^^^ b) := by
  apply Nat.eq_of_testBit_eq; intro i
  rw [Nat.testBit_xor, Nat.testBit_two_pow_mul, Nat.testBit_two_pow_mul, Nat.testBit_two_pow_mul, Nat.testBit_xor]
  by_cases h : k ≤ i <;> simp [h]

/-! ### half a byte at once, by a table -/
def tableV (s : Nat) : Nat := halfN 4 s
theorem halfN4 (r : Nat) : halfN 4 r = r / 16 ^^^ tableV (r % 16) := by
  conv => lhs; rw [← split_pow 4 r]
  rw [halfN_xor, halfN_even]; rfl
theorem halfN8 (r : Nat) : halfN 8 r = halfN 4 (halfN 4 r) := halfN_add 4 4 r

/-! ### a string of bytes as one number -/
def numV : List UInt8 → Nat
  | [] => 0
  | c :: r => 256 * numV r ^^^ c.toNat
theorem onV_nil (r : Nat) : onV r [] = r := rfl
theorem onV_cons (r : Nat) (c : UInt8) (l : List UInt8) : onV r (c :: l) = onV (stepV r c.toNat) l := by simp only [onV, List.foldl_cons]
theorem onV_append (r : Nat) (a b : List UInt8) : onV r (a ++ b) = onV (onV r a) b := by unfold onV; rw [List.foldl_append]
theorem onV_num (l : List UInt8) : ∀ r, onV r l = halfN (8 * l.length) (r ^^^ numV l) := by
  induction l with
  | nil => intro r; simp [onV, numV, halfN]
  | cons c l ih =>
    intro r
    rw [onV_cons, ih, numV, List.length_cons, Nat.mul_add, halfN_add (8 * l.length) (8 * 1)]
    congr 1
    rw [Nat.xor_comm (256 * numV l), ← Nat.xor_assoc, halfN_xor (8 * 1), show halfN (8 * 1) (256 * numV l) = numV l from halfN_even 8 _]
    rfl
theorem onV_lt (l : List UInt8) : ∀ {r : Nat}, r < 4294967296 → onV r l < 4294967296 := by
  induction l with
  | nil => exact fun h => h
  | cons c l ih => intro r h; rw [onV_cons]; exact ih (halfN_lt (xor_lt h (by have := c.toNat_lt; omega)))
theorem stepV_lt {r c : Nat} (h : r < 4294967296) (hc : c < 256) : stepV r c < 4294967296 := halfN_lt (xor_lt h (by omega))
theorem crcOn_lt {h : Nat} (l : List UInt8) (hh : h < 4294967296) : crcOn h l < 4294967296 := xor_lt (onV_lt l (xor_lt hh allV_lt)) allV_lt
theorem crcV_lt (l : List UInt8) : crcV l < 4294967296 := crcOn_lt l (by omega)
theorem crcOn_append (h : Nat) (a b : List UInt8) : crcOn (crcOn h a) b = crcOn h (a ++ b) := by
  unfold crcOn; rw [xor_cancel, onV_append]
/-- Two strings of one length: what they differ in. -/
theorem crc_diff (h : Nat) (a b : List UInt8) (hl : a.length = b.length) : crcOn h a ^^^ crcOn h b = halfN (8 * a.length) (numV a ^^^ numV b) := by
  unfold crcOn
  rw [xor_swap, Nat.xor_self, Nat.xor_zero, onV_num, onV_num, hl, ← halfN_xor, xor_swap, Nat.xor_self, Nat.zero_xor]

/-! ### bytes 0 -/
def zerosV (n r : Nat) : Nat := halfN (8 * n) r
theorem zerosV_succ (n r : Nat) : zerosV (n + 1) r = stepV (zerosV n r) 0 := by
  unfold zerosV stepV
  rw [Nat.xor_zero, Nat.mul_add, Nat.add_comm, halfN_add (8 * 1)]
theorem numV_zeros (n : Nat) : numV (List.replicate n 0) = 0 := by
  induction n with
  | zero => rfl
  | succ n ih => rw [List.replicate_succ, numV, ih]; rfl
theorem onV_zeros (n r : Nat) : onV r (List.replicate n 0) = zerosV n r := by
  rw [onV_num, numV_zeros, Nat.xor_zero, List.length_replicate]; rfl
def zerosE (h n : Nat) : Nat := zerosV n (h ^^^ allV) ^^^ allV
theorem zerosE_on (h n : Nat) : zerosE h n = crcOn h (List.replicate n 0) := by unfold zerosE crcOn; rw [onV_zeros]
theorem zerosV_lt {n r : Nat} (h : r < 4294967296) : zerosV n r < 4294967296 := halfN_lt h
theorem zerosE_lt {h n : Nat} (hh : h < 4294967296) : zerosE h n < 4294967296 := xor_lt (zerosV_lt (xor_lt hh allV_lt)) allV_lt
def combineV (a b n : Nat) : Nat := zerosV n a ^^^ b
theorem combine_ref (a b n : Nat) : zerosE a n ^^^ zerosE 0 n ^^^ b = combineV a b n := by
  unfold zerosE combineV zerosV
  rw [xor_swap, Nat.xor_self, Nat.xor_zero, ← halfN_xor, Nat.zero_xor, xor_cancel]
theorem combine_crc (a b : List UInt8) : combineV (crcV a) (crcV b) b.length = crcV (a ++ b) := by
  unfold crcV
  rw [← crcOn_append]
  unfold combineV crcOn zerosV
  generalize onV (0 ^^^ allV) a = x
  rw [xor_cancel, onV_num, onV_num, ← Nat.xor_assoc, ← halfN_xor]
  congr 2
  rw [Nat.zero_xor, ← Nat.xor_assoc, xor_cancel]

/-! ### the way back -/
def backH (r : Nat) : Nat := if 2147483648 ≤ r then (r ^^^ polyV) * 2 + 1 else r * 2
theorem xor_high {r : Nat} (h1 : 2147483648 ≤ r) (h2 : r < 4294967296) : r ^^^ polyV < 2147483648 := by
  have e : r ^^^ polyV = (r - 2147483648) ^^^ (polyV - 2147483648) := by
    have s1 := split_pow 31 r
    have s2 := split_pow 31 polyV
    have d1 : r / 2 ^ 31 = 1 := by omega
    have d2 : polyV / 2 ^ 31 = 1 := by decide
    have m1 : r % 2 ^ 31 = r - 2147483648 := by omega
    have m2 : polyV % 2 ^ 31 = polyV - 2147483648 := by decide
    rw [d1, m1] at s1; rw [d2, m2] at s2
    conv => lhs; rw [← s1, ← s2]
    rw [xor_swap, Nat.xor_self, Nat.zero_xor]
  rw [e]
  exact Nat.xor_lt_two_pow (n := 31) (by omega) (by decide)
theorem backH_lt {r : Nat} (h : r < 4294967296) : backH r < 4294967296 := by
  unfold backH; split
  · rename_i h1; have := xor_high h1 h; omega
  · omega
theorem half_back {r : Nat} : half (backH r) = r := by
  unfold half backH
  split
  · split
    · rw [show ((r ^^^ polyV) * 2 + 1) / 2 = r ^^^ polyV from by omega, xor_cancel]
    · omega
  · split <;> omega
def backN : Nat → Nat → Nat
  | 0, r => r
  | k + 1, r => backH (backN k r)
theorem backN_lt {k r : Nat} (h : r < 4294967296) : backN k r < 4294967296 := by
  induction k with
  | zero => exact h
  | succ k ih => exact backH_lt ih
theorem backN_add (j k r : Nat) : backN (j + k) r = backN j (backN k r) := by
  induction j with
  | zero => rw [Nat.zero_add]; rfl
  | succ j ih => rw [Nat.succ_add, backN, ih]; rfl
theorem halfN_backN (k r : Nat) : halfN k (backN k r) = r := by
  induction k with
  | zero => rfl
  | succ k ih => rw [backN, halfN_succ', half_back, ih]
theorem backN_halfN {k r : Nat} (h : r < 4294967296) : backN k (halfN k r) = r :=
  halfN_inj (k := k) (backN_lt (halfN_lt h)) h (halfN_backN k _)
/-- A byte back. -/
def undoV (r c : Nat) : Nat := backN 8 r ^^^ c
def undosV (r : Nat) (l : List UInt8) : Nat := l.foldr (fun c r => undoV r c.toNat) r
theorem undosV_lt (l : List UInt8) {r : Nat} (h : r < 4294967296) : undosV r l < 4294967296 := by
  induction l with
  | nil => exact h
  | cons c l ih => exact xor_lt (backN_lt ih) (by have := c.toNat_lt; omega)
theorem onV_undos (l : List UInt8) : ∀ r, onV (undosV r l) l = r := by
  induction l with
  | nil => exact fun _ => rfl
  | cons c l ih =>
    intro r
    rw [onV_cons]
    show onV (stepV (undoV (undosV r l) c.toNat) c.toNat) l = r
    unfold stepV undoV
    rw [xor_cancel, halfN_backN, ih]

/-! ### Patch -/
/-- The register ahead of the four bytes, were they 0. -/
def patR (l : List UInt8) (at_ want : Nat) : Nat := backN 32 (undosV (want ^^^ allV) (l.drop (at_ + 4)))
def patX (l : List UInt8) (at_ want : Nat) : Nat := patR l at_ want ^^^ (crcV (l.take at_) ^^^ allV)
def byteK (x i : Nat) : UInt8 := (x / 256 ^ i % 256).toUInt8
def patV (l : List UInt8) (at_ want : Nat) : List UInt8 := l.take at_ ++ [byteK (patX l at_ want) 0, byteK (patX l at_ want) 1, byteK (patX l at_ want) 2, byteK (patX l at_ want) 3] ++ l.drop (at_ + 4)
theorem byteK_nat (x i : Nat) : (byteK x i).toNat = x / 256 ^ i % 256 := by
  unfold byteK; rw [Nat.toUInt8_eq, UInt8.toNat_ofNat']; omega
theorem num_four (x : Nat) (h : x < 4294967296) : numV [byteK x 0, byteK x 1, byteK x 2, byteK x 3] = x := by
  simp only [numV, byteK_nat, Nat.mul_zero, Nat.zero_xor]
  have e1 := split_pow 8 x
  have e2 := split_pow 8 (x / 256)
  have e3 := split_pow 8 (x / 256 / 256)
  have h4 : x / 256 ^ 3 % 256 = x / 256 / 256 / 256 := by omega
  have h3 : x / 256 ^ 2 % 256 = x / 256 / 256 % 256 := by omega
  have h2 : x / 256 ^ 1 % 256 = x / 256 % 256 := by omega
  have h1 : x / 256 ^ 0 % 256 = x % 256 := by omega
  rw [h4, h3, h2, h1]
  rw [show (2 : Nat) ^ 8 = 256 from rfl] at e1 e2 e3
  rw [e3, e2, e1]
theorem patV_len (l : List UInt8) (at_ want : Nat) (h : at_ + 4 ≤ l.length) : (patV l at_ want).length = l.length := by
  unfold patV; simp; omega
theorem patX_lt (l : List UInt8) (at_ want : Nat) (h : want < 4294967296) : patX l at_ want < 4294967296 :=
  xor_lt (backN_lt (undosV_lt _ (xor_lt h allV_lt))) (xor_lt (crcV_lt _) allV_lt)
theorem patV_crc (l : List UInt8) (at_ want : Nat) (h : want < 4294967296) : crcV (patV l at_ want) = want := by
  unfold patV crcV crcOn
  rw [onV_append, onV_append, onV_num [_, _, _, _], num_four _ (patX_lt l at_ want h)]
  have e : onV (0 ^^^ allV) (l.take at_) ^^^ patX l at_ want = patR l at_ want := by
    unfold patX crcV crcOn
    rw [xor_cancel, Nat.xor_comm (patR l at_ want), xor_cancel2]
  rw [e]
  show onV (halfN 32 (patR l at_ want)) _ ^^^ allV = want
  unfold patR
  rw [halfN_backN, onV_undos, xor_cancel]
theorem patV_far (l : List UInt8) (at_ want i : Nat) (h : at_ + 4 ≤ l.length) (hi : i < at_ ∨ at_ + 3 < i) : (patV l at_ want)[i]? = l[i]? := by
  unfold patV
  have hl : (l.take at_).length = at_ := by rw [List.length_take]; omega
  rcases hi with hi | hi
  · rw [List.append_assoc, List.getElem?_append_left (by omega), List.getElem?_take_of_lt hi]
  · rw [List.getElem?_append_right (by simp; omega), List.getElem?_drop]
    congr 1; simp; omega
end Go.Proofs.YtbaibmndmcdfdaaDoor
