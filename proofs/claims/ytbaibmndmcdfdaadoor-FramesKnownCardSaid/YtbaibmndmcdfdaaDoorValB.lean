/- Changes of one byte, and of bits in a row; the mix. Plain words. -/
import Derived.Test.YtbaibmndmcdfdaaDoorVal
namespace Go.Proofs.YtbaibmndmcdfdaaDoor

/-! ### one byte is changed -/
theorem numV_set (l : List UInt8) : ∀ (i : Nat) (v : UInt8) (h : i < l.length), numV l ^^^ numV (l.set i v) = 2 ^ (8 * i) * (l[i].toNat ^^^ v.toNat) := by
  induction l with
  | nil => intro i v h; simp at h
  | cons c l ih =>
    intro i v h
    cases i with
    | zero =>
      simp only [List.set_cons_zero, numV, List.getElem_cons_zero, Nat.mul_zero, Nat.pow_zero, Nat.one_mul]
      rw [xor_swap, Nat.xor_self, Nat.zero_xor]
    | succ i =>
      have hi : i < l.length := by simpa using h
      simp only [List.set_cons_succ, numV, List.getElem_cons_succ]
      rw [xor_swap, Nat.xor_self, Nat.xor_zero, show (256 : Nat) = 2 ^ 8 from rfl, mul_xor_pow, ih i v hi, ← Nat.mul_assoc, ← Nat.pow_add]
      congr 2
      omega
theorem crc_set (h : Nat) (l : List UInt8) (i : Nat) (v : UInt8) (hi : i < l.length) : crcOn h l ^^^ crcOn h (l.set i v) = halfN (8 * (l.length - i)) (l[i].toNat ^^^ v.toNat) := by
  rw [crc_diff h l (l.set i v) (by simp), numV_set l i v hi]
  rw [show 8 * l.length = 8 * (l.length - i) + 8 * i from by omega, halfN_add, halfN_even]
theorem set_split (l : List UInt8) (i : Nat) (v : UInt8) (hi : i < l.length) : l.take i ++ ([v] ++ l.drop (i + 1)) = l.set i v := by
  rw [List.set_eq_take_append_cons_drop, if_pos hi]; rfl
theorem crc_try (l : List UInt8) (i : Nat) (v : UInt8) (hi : i < l.length) : crcOn (crcOn (crcV (l.take i)) [v]) (l.drop (i + 1)) = crcV (l.set i v) := by
  unfold crcV
  rw [crcOn_append, crcOn_append, set_split l i v hi]

/-! ### Locate -/
def chV (l : List UInt8) (want i : Nat) : Nat := backN (8 * (l.length - i)) (crcV l ^^^ want)
theorem chV_end (l : List UInt8) (want : Nat) : chV l want l.length = crcV l ^^^ want := by unfold chV; rw [Nat.sub_self]; rfl
theorem chV_step (l : List UInt8) (want i : Nat) (hi : i < l.length) : chV l want i = backN 8 (chV l want (i + 1)) := by
  unfold chV
  rw [← backN_add]; congr 1; omega
theorem chV_lt (l : List UInt8) (want i : Nat) (h : want < 4294967296) : chV l want i < 4294967296 := backN_lt (xor_lt (crcV_lt l) h)
theorem chV_set (l : List UInt8) (want i : Nat) (v : UInt8) (hi : i < l.length) : crcV (l.set i v) = want ↔ chV l want i = l[i].toNat ^^^ v.toNat := by
  have h := crc_set 0 l i v hi
  have hb := l[i].toNat_lt
  have hv := v.toNat_lt
  have hx : l[i].toNat ^^^ v.toNat < 4294967296 := xor_lt (by omega) (by omega)
  constructor
  · intro e
    unfold chV
    have e' : crcOn 0 (l.set i v) = want := e
    rw [e'] at h
    show backN _ (crcOn 0 l ^^^ want) = _
    rw [h, backN_halfN hx]
  · intro e
    have e2 : halfN (8 * (l.length - i)) (chV l want i) = crcV l ^^^ want := halfN_backN _ _
    rw [e] at e2
    rw [e2] at h
    have := congrArg (crcV l ^^^ ·) h
    simp only [xor_cancel2] at this
    rw [show crcOn 0 l = crcV l from rfl, show crcOn 0 (l.set i v) = crcV (l.set i v) from rfl] at this
    rw [xor_cancel2] at this
    exact this
/-- The least place of the last k ones. -/
def locK (l : List UInt8) (want : Nat) : Nat → Option Nat
  | 0 => none
  | k + 1 => if chV l want (l.length - (k + 1)) ≤ 255 then some (l.length - (k + 1)) else locK l want k
theorem locK_none (l : List UInt8) (want : Nat) : ∀ k, k ≤ l.length → (∀ i, l.length - k ≤ i → i < l.length → ¬ chV l want i ≤ 255) → locK l want k = none
  | 0, _, _ => rfl
  | k + 1, hk, h => by
    rw [locK, if_neg (h _ (Nat.le_refl _) (by omega))]
    exact locK_none l want k (by omega) fun i h1 h2 => h i (by omega) h2
theorem locK_some (l : List UInt8) (want i : Nat) (hi : i < l.length) (hg : chV l want i ≤ 255) : ∀ k, k ≤ l.length → l.length - k ≤ i → (∀ j, l.length - k ≤ j → j < i → ¬ chV l want j ≤ 255) → locK l want k = some i
  | 0, _, h0, _ => by omega
  | k + 1, hk, h0, h => by
    rw [locK]
    by_cases e : i = l.length - (k + 1)
    · subst e; rw [if_pos hg]
    · rw [if_neg (h _ (Nat.le_refl _) (by omega))]
      exact locK_some l want i hi hg k (by omega) (by omega) fun j h1 h2 => h j (by omega) h2
theorem locK_spec (l : List UInt8) (want : Nat) : ∀ k, k ≤ l.length → ∀ i, locK l want k = some i → l.length - k ≤ i ∧ i < l.length ∧ chV l want i ≤ 255 ∧ ∀ j, l.length - k ≤ j → j < i → ¬ chV l want j ≤ 255
  | 0, _, i, h => by cases h
  | k + 1, hk, i, h => by
    rw [locK] at h
    split at h
    · rename_i hc
      obtain rfl : l.length - (k + 1) = i := Option.some.inj h
      exact ⟨Nat.le_refl _, by omega, hc, fun j h1 h2 => by omega⟩
    · rename_i hc
      obtain ⟨h1, h2, h3, h4⟩ := locK_spec l want k (by omega) i h
      refine ⟨by omega, h2, h3, fun j a b => ?_⟩
      by_cases e : j = l.length - (k + 1)
      · subst e; exact hc
      · exact h4 j (by omega) b
theorem locK_no (l : List UInt8) (want : Nat) : ∀ k, k ≤ l.length → locK l want k = none → ∀ i, l.length - k ≤ i → i < l.length → ¬ chV l want i ≤ 255
  | 0, _, _, i, h1, h2 => by omega
  | k + 1, hk, h, i, h1, h2 => by
    rw [locK] at h
    split at h
    · cases h
    · rename_i hc
      by_cases e : i = l.length - (k + 1)
      · subst e; exact hc
      · exact locK_no l want k (by omega) h i (by omega) h2
def locO (l : List UInt8) (want : Nat) : Option Nat := if 1000 < l.length ∨ crcV l = want then none else locK l want l.length
/-- The place, the value and the error. -/
def locA (o : Option Nat) : Nat := o.getD 0
def locB (l : List UInt8) (want : Nat) (o : Option Nat) : Nat := match o with
  | none => 0
  | some i => (l.getD i 0).toNat ^^^ chV l want i
def locE (o : Option Nat) : Int := if o.isSome then 0 else 4
def locErr (l : List UInt8) (want : Nat) : Int := if 1000 < l.length then 3 else if crcV l = want then 8 else locE (locK l want l.length)
theorem byte_xor_lt {a b : Nat} (ha : a < 256) (hb : b < 256) : a ^^^ b < 256 := Nat.xor_lt_two_pow (n := 8) ha hb
theorem locB_lt (l : List UInt8) (want k : Nat) (hk : k ≤ l.length) : locB l want (locK l want k) < 256 := by
  cases h : locK l want k with
  | none => show 0 < 256; omega
  | some i =>
    obtain ⟨_, _, h3, _⟩ := locK_spec l want k hk i h
    exact byte_xor_lt (UInt8.toNat_lt _) (by omega)
/-- A value that does it is the only one. -/
theorem try_ch (l : List UInt8) (want i v : Nat) (hi : i < l.length) (hv : v < 256) : crcV (l.set i v.toUInt8) = want ↔ (chV l want i ≤ 255 ∧ v = l[i].toNat ^^^ chV l want i) := by
  have hb := l[i].toNat_lt
  rw [chV_set l want i _ hi, show v.toUInt8.toNat = v from by rw [Nat.toUInt8_eq, UInt8.toNat_ofNat']; omega]
  constructor
  · intro e
    rw [e]
    refine ⟨?_, by rw [xor_cancel2]⟩
    have := byte_xor_lt (a := l[i].toNat) (b := v) (by omega) hv
    omega
  · rintro ⟨_, e⟩
    rw [e, xor_cancel2]
theorem chV_ne (l : List UInt8) (want i : Nat) (hne : crcV l ≠ want) : chV l want i ≠ 0 := by
  intro e
  have e2 : halfN (8 * (l.length - i)) (chV l want i) = crcV l ^^^ want := halfN_backN _ _
  rw [e, halfN_zero] at e2
  exact hne (xor_eq_zero e2.symm)
/-- What the law SumsFound says. -/
theorem found_all (l : List UInt8) (at_ : Nat) (v : UInt8) (hat : at_ < l.length) (hne : l[at_] ≠ v) :
    crcV l ≠ crcV (l.set at_ v) ∧ ∃ i x, ∃ hi : i < l.length, locK l (crcV (l.set at_ v)) l.length = some i ∧ i ≤ at_ ∧ x = l[i].toNat ^^^ chV l (crcV (l.set at_ v)) i ∧ x < 256 ∧ x ≠ l[i].toNat ∧ (i = at_ → x = v.toNat) ∧ crcV (l.set i x.toUInt8) = crcV (l.set at_ v) := by
  have hb := l[at_].toNat_lt
  have hv := v.toNat_lt
  have hch := (chV_set l (crcV (l.set at_ v)) at_ v hat).1 rfl
  have hle : chV l (crcV (l.set at_ v)) at_ ≤ 255 := by
    rw [hch]; have := byte_xor_lt (a := l[at_].toNat) (b := v.toNat) (by omega) (by omega); omega
  have hc : crcV l ≠ crcV (l.set at_ v) := by
    intro e
    have h := crc_set 0 l at_ v hat
    rw [show crcOn 0 l = crcV l from rfl, show crcOn 0 (l.set at_ v) = crcV (l.set at_ v) from rfl, ← e, Nat.xor_self] at h
    have h0 := xor_eq_zero (halfN_inj0 (xor_lt (by omega) (by omega)) h.symm)
    exact hne (UInt8.toNat_inj.1 h0)
  refine ⟨hc, ?_⟩
  generalize crcV (l.set at_ v) = want at *
  cases hk : locK l want l.length with
  | none => exact absurd hle (locK_no l want _ (Nat.le_refl _) hk at_ (by omega) hat)
  | some i =>
    obtain ⟨-, h2, h3, h4⟩ := locK_spec l want _ (Nat.le_refl _) i hk
    have hbi := l[i].toNat_lt
    have hx := byte_xor_lt (a := l[i].toNat) (b := chV l want i) (by omega) (by omega)
    refine ⟨i, _, h2, rfl, ?_, rfl, hx, ?_, ?_, (try_ch l want i _ h2 hx).2 ⟨h3, rfl⟩⟩
    · by_cases e : i ≤ at_
      · exact e
      · exact absurd hle (h4 at_ (by omega) (by omega))
    · intro e
      have e2 := congrArg (l[i].toNat ^^^ ·) e
      simp only [xor_cancel2, Nat.xor_self] at e2
      exact chV_ne l want i hc e2
    · rintro rfl
      rw [hch, xor_cancel2]

/-! ### bits in a row -/
/-- The bits of the pattern that count, from bit p of 8 n. -/
def burst (p k n pat : Nat) : Nat := (2 ^ p * (pat % 2 ^ k)) % 2 ^ (8 * n)
theorem pat_succ (pat k : Nat) : pat % 2 ^ (k + 1) = (if pat / 2 ^ k % 2 = 1 then 2 ^ k else 0) ^^^ pat % 2 ^ k := by
  apply Nat.eq_of_testBit_eq; intro i
  have hb : pat.testBit k = decide (pat / 2 ^ k % 2 = 1) := by rw [Nat.testBit_eq_decide_div_mod_eq]
  rw [Nat.testBit_xor, Nat.testBit_mod_two_pow, Nat.testBit_mod_two_pow]
  by_cases h : pat / 2 ^ k % 2 = 1
  · rw [if_pos h, Nat.testBit_two_pow]
    by_cases e : k = i
    · subst e; simp [hb, h]
    · by_cases hi : i < k
      · simp [e, hi, Nat.lt_succ_of_lt hi]
      · have : ¬ i < k + 1 := by omega
        simp [e, hi, this]
  · rw [if_neg h, Nat.zero_testBit]
    by_cases e : k = i
    · subst e; simp [hb, h]
    · by_cases hi : i < k
      · simp [hi, Nat.lt_succ_of_lt hi]
      · have : ¬ i < k + 1 := by omega
        simp [hi, this]
theorem xor_mod_pow (a b k : Nat) : (a ^^^ b) % 2 ^ k = (a % 2 ^ k) ^^^ (b % 2 ^ k) := by
  apply Nat.eq_of_testBit_eq; intro i
  rw [Nat.testBit_xor, Nat.testBit_mod_two_pow, Nat.testBit_mod_two_pow, Nat.testBit_mod_two_pow, Nat.testBit_xor]
  by_cases h : i < k <;> simp [h]
theorem burst_succ (p k n pat : Nat) : burst p (k + 1) n pat = (if pat / 2 ^ k % 2 = 1 ∧ p + k < 8 * n then 2 ^ (p + k) else 0) ^^^ burst p k n pat := by
  unfold burst
  rw [pat_succ, ← mul_xor_pow, xor_mod_pow]
  congr 1
  by_cases h : pat / 2 ^ k % 2 = 1
  · rw [if_pos h, ← Nat.pow_add]
    by_cases h2 : p + k < 8 * n
    · rw [if_pos ⟨h, h2⟩, Nat.mod_eq_of_lt (Nat.pow_lt_pow_right (by omega) h2)]
    · rw [if_neg (fun x => h2 x.2), show p + k = 8 * n + (p + k - 8 * n) from by omega, Nat.pow_add, Nat.mul_mod_right]
  · rw [if_neg h, if_neg (fun x => h x.1)]; simp
theorem burst_zero (p n pat : Nat) : burst p 0 n pat = 0 := by unfold burst; simp [Nat.mod_one]
/-- A byte with one bit turned. -/
theorem numV_turn (l : List UInt8) (at_ : Nat) (h : at_ / 8 < l.length) (v : UInt8) (hv : v.toNat = l[at_ / 8].toNat ^^^ 2 ^ (at_ % 8)) : numV (l.set (at_ / 8) v) = 2 ^ at_ ^^^ numV l := by
  have e := numV_set l (at_ / 8) v h
  rw [hv, xor_cancel2, ← Nat.pow_add, show 8 * (at_ / 8) + at_ % 8 = at_ from by omega] at e
  have := congrArg (numV l ^^^ ·) e
  simp only [xor_cancel2] at this
  rw [this, Nat.xor_comm]
theorem burst_set {p k n pat : Nat} (h : pat / 2 ^ k % 2 = 1 ∧ p + k < 8 * n) : burst p (k + 1) n pat ≠ 0 := by
  intro e
  have ht := congrArg (Nat.testBit · (p + k)) e
  rw [burst_succ, if_pos h] at ht
  simp only [Nat.testBit_xor, Nat.testBit_two_pow_self, Nat.zero_testBit] at ht
  have : (burst p k n pat).testBit (p + k) = false := by
    unfold burst
    rw [Nat.testBit_mod_two_pow, Nat.testBit_two_pow_mul, Nat.testBit_mod_two_pow]
    simp
  rw [this] at ht; cases ht
/-- Strings that differ in a burst: their crcs differ. -/
theorem burst_crc (a b : List UInt8) (p n pat : Nat) (hn : a.length = n) (hl : b.length = n) (hp : p < 8 * n) (hpat : pat < 4294967296) (h : numV b = burst p 32 n pat ^^^ numV a) : crcV a = crcV b ↔ burst p 32 n pat = 0 := by
  have hd := crc_diff 0 a b (by rw [hn, hl])
  rw [h, Nat.xor_comm (burst _ _ _ _), xor_cancel2, hn] at hd
  constructor
  · intro e
    rw [show crcOn 0 a = crcV a from rfl, show crcOn 0 b = crcV b from rfl, e, Nat.xor_self] at hd
    have eb : burst p 32 n pat = 2 ^ p * (pat % 2 ^ (8 * n - p)) := by
      unfold burst
      rw [Nat.mod_eq_of_lt (a := pat) (by omega)]
      rw [show 8 * n = p + (8 * n - p) from by omega, Nat.pow_add, Nat.mul_mod_mul_left]
      congr 3; omega
    rw [eb, show 8 * n = (8 * n - p) + p from by omega, halfN_add, halfN_even, show 8 * n - p + p - p = 8 * n - p from by omega] at hd
    have h0 := halfN_inj0 (Nat.lt_of_le_of_lt (Nat.mod_le _ _) hpat) hd.symm
    rw [eb, h0, Nat.mul_zero]
  · intro e
    rw [e, halfN_zero] at hd
    exact xor_eq_zero hd

/-! ### three strings -/
theorem crc_three (a x y z : List UInt8) (n : Nat) (ha : a.length = n) (hx : x.length = n) (hy : y.length = n) (hz : z.length = n) (h : numV z = numV a ^^^ numV x ^^^ numV y) : crcV z = crcV a ^^^ crcV x ^^^ crcV y := by
  unfold crcV crcOn
  rw [onV_num, onV_num, onV_num, onV_num, ha, hx, hy, hz, h]
  simp only [halfN_xor, Nat.zero_xor]
  generalize halfN (8 * n) allV = q
  generalize halfN (8 * n) (numV a) = u
  generalize halfN (8 * n) (numV x) = v
  generalize halfN (8 * n) (numV y) = t
  apply Nat.eq_of_testBit_eq; intro i
  simp only [Nat.testBit_xor]
  cases q.testBit i <;> cases u.testBit i <;> cases v.testBit i <;> cases t.testBit i <;> cases allV.testBit i <;> rfl
theorem numV_three : ∀ (a x y z : List UInt8), a.length = z.length → x.length = z.length → y.length = z.length → (∀ i (h : i < z.length) (ha : i < a.length) (hx : i < x.length) (hy : i < y.length), z[i].toNat = a[i].toNat ^^^ x[i].toNat ^^^ y[i].toNat) → numV z = numV a ^^^ numV x ^^^ numV y
  | [], [], [], [], _, _, _, _ => rfl
  | a :: al, x :: xs, y :: ys, z :: zs, h1, h2, h3, h => by
    have ih := numV_three al xs ys zs (by simpa using h1) (by simpa using h2) (by simpa using h3) (fun i q q1 q2 q3 => by
      have := h (i + 1) (by simpa using q) (by simpa using q1) (by simpa using q2) (by simpa using q3)
      simpa using this)
    have h0 := h 0 (by simp) (by simp) (by simp) (by simp)
    simp only [List.getElem_cons_zero] at h0
    simp only [numV]
    rw [ih, h0, show (256 : Nat) = 2 ^ 8 from rfl, ← mul_xor_pow, ← mul_xor_pow, xor_swap (2 ^ 8 * numV al ^^^ 2 ^ 8 * numV xs), xor_swap (2 ^ 8 * numV al)]
  | [], _ :: _, _, [], _, h, _, _ => by simp at h
  | [], _, _ :: _, [], _, _, h, _ => by simp at h
  | _ :: _, _, _, [], h, _, _, _ => by simp at h
  | [], _, _, _ :: _, h, _, _, _ => by simp at h
  | _, [], _, _ :: _, _, h, _, _ => by simp at h
  | _, _, [], _ :: _, _, _, h, _ => by simp at h

/-! ### the mix -/
def primeV : Nat := 4294967291
def mixL (a b : Nat) : List UInt8 → Nat × Nat
  | [] => (a, b)
  | c :: l => mixL ((a + c.toNat) % 4294967291) ((b + (a + c.toNat) % 4294967291) % 4294967291) l
def mixOf (q : Nat × Nat) : Nat := q.2 * 4294967296 + q.1
def isMixV (h : Nat) : Bool := decide (h % 4294967296 < 4294967291 ∧ h / 4294967296 < 4294967291)
def mixOnV (h : Nat) (l : List UInt8) : Nat := if isMixV h then mixOf (mixL (h % 4294967296) (h / 4294967296) l) else 0
def mixE (h : Nat) : Int := if isMixV h then 0 else 6
def mixV (l : List UInt8) : Nat := mixOf (mixL 1 0 l)
theorem mixV_on (l : List UInt8) : mixOnV 1 l = mixV l := rfl
theorem mixL_append (l m : List UInt8) : ∀ a b, mixL a b (l ++ m) = mixL (mixL a b l).1 (mixL a b l).2 m := by
  induction l with
  | nil => intro a b; rfl
  | cons c l ih => intro a b; exact ih _ _
theorem mixL_snoc (l : List UInt8) (c : UInt8) (a b : Nat) : mixL a b (l ++ [c]) = (((mixL a b l).1 + c.toNat) % 4294967291, ((mixL a b l).2 + ((mixL a b l).1 + c.toNat) % 4294967291) % 4294967291) := by
  rw [mixL_append]; rfl
theorem mixL_lt (l : List UInt8) : ∀ {a b : Nat}, a < 4294967291 → b < 4294967291 → (mixL a b l).1 < 4294967291 ∧ (mixL a b l).2 < 4294967291 := by
  induction l with
  | nil => exact fun h1 h2 => ⟨h1, h2⟩
  | cons c l ih => exact fun h1 h2 => ih (by omega) (by omega)
theorem mixOf_mod {q : Nat × Nat} (h : q.1 < 4294967291) : mixOf q % 4294967296 = q.1 := by unfold mixOf; omega
theorem mixOf_div {q : Nat × Nat} (h : q.1 < 4294967291) : mixOf q / 4294967296 = q.2 := by unfold mixOf; omega
theorem isMix_of {q : Nat × Nat} (h1 : q.1 < 4294967291) (h2 : q.2 < 4294967291) : isMixV (mixOf q) = true := by
  unfold isMixV; rw [mixOf_mod h1, mixOf_div h1]; exact decide_eq_true ⟨h1, h2⟩
theorem isMix_mixV (l : List UInt8) : isMixV (mixV l) = true := by
  have := mixL_lt l (a := 1) (b := 0) (by omega) (by omega)
  exact isMix_of this.1 this.2
theorem mixV_lt (l : List UInt8) : mixV l < 18446744073709551616 := by
  have := mixL_lt l (a := 1) (b := 0) (by omega) (by omega)
  unfold mixV mixOf; omega
theorem mixOnV_lt {h : Nat} (l : List UInt8) : mixOnV h l < 18446744073709551616 := by
  unfold mixOnV
  split
  · rename_i hm
    unfold isMixV at hm
    have hm := of_decide_eq_true hm
    have := mixL_lt l hm.1 hm.2
    unfold mixOf; omega
  · omega
theorem mix_parts (a b : List UInt8) : mixOnV (mixV a) b = mixV (a ++ b) := by
  have h := mixL_lt a (a := 1) (b := 0) (by omega) (by omega)
  unfold mixOnV
  rw [if_pos (isMix_mixV a)]
  unfold mixV
  rw [mixOf_mod h.1, mixOf_div h.1, mixL_append]
theorem mixE_parts (a : List UInt8) : mixE (mixV a) = 0 := by unfold mixE; rw [if_pos (isMix_mixV a)]
def rollA (h : Nat) (o i : Nat) : Nat := (h % 4294967296 + 4294967291 - o + i) % 4294967291
def rollB (h n o i : Nat) : Nat := (h / 4294967296 + 4294967291 - n * o + rollA h o i - 1) % 4294967291
def rollV (h : Nat) (n : Int) (o i : Nat) : Nat := if isMixV h then (if n < 1 ∨ 1000000 < n then 0 else mixOf (rollA h o i, rollB h n.toNat o i)) else 0
def rollE (h : Nat) (n : Int) : Int := if isMixV h then (if n < 1 ∨ 1000000 < n then 7 else 0) else 6
theorem rollB_ref (h n o i : Nat) (hn : n ≤ 1000000) (ho : o < 256) : (h / 4294967296 + 4294967291 - n * o + rollA h o i + 4294967291 - 1) % 4294967291 = rollB h n o i := by
  have hm : n * o ≤ 1000000 * 255 := Nat.mul_le_mul hn (by omega)
  unfold rollB
  generalize n * o = m at *
  have e : h / 4294967296 + 4294967291 - m + rollA h o i + 4294967291 - 1 = (h / 4294967296 + 4294967291 - m + rollA h o i - 1) + 4294967291 := by omega
  rw [e, Nat.add_mod_right]
/-- The halves, without remainders. -/
def sumV (l : List UInt8) : Nat := l.foldr (fun c s => c.toNat + s) 0
def wgtV : List UInt8 → Nat
  | [] => 0
  | c :: l => (l.length + 1) * c.toNat + wgtV l
theorem mixL_form (l : List UInt8) : ∀ a b, mixL a b l = ((if l = [] then a else (a + sumV l) % 4294967291), (if l = [] then b else (b + l.length * a + wgtV l) % 4294967291)) := by
  induction l with
  | nil => intro a b; rfl
  | cons c l ih =>
    intro a b
    rw [mixL, ih]
    have e1 : sumV (c :: l) = c.toNat + sumV l := rfl
    have e2 : wgtV (c :: l) = (l.length + 1) * c.toNat + wgtV l := rfl
    rw [if_neg (by simp : ¬ c :: l = []), if_neg (by simp : ¬ c :: l = []), e1, e2, List.length_cons]
    by_cases hl : l = []
    · subst hl
      rw [if_pos rfl, if_pos rfl]
      simp only [sumV, wgtV, List.foldr_nil, List.length_nil, Nat.zero_add, Nat.one_mul, Nat.add_zero]
      rw [Nat.add_mod_mod]
      congr 2; omega
    · rw [if_neg hl, if_neg hl]
      congr 1
      · rw [Nat.mod_add_mod]; congr 1; omega
      · generalize l.length = n
        generalize wgtV l = g
        generalize c.toNat = x
        have h1 : ((b + (a + x) % 4294967291) % 4294967291 + n * ((a + x) % 4294967291) + g) % 4294967291 = ((b + (a + x)) + n * (a + x) + g) % 4294967291 := by
          simp [Nat.add_mod, Nat.mul_mod]
        rw [h1]
        congr 1
        rw [Nat.mul_add, Nat.add_mul, Nat.add_mul]; omega
theorem mixV_form (l : List UInt8) : mixV l = mixOf ((1 + sumV l) % 4294967291, (l.length + wgtV l) % 4294967291) := by
  unfold mixV
  rw [mixL_form]
  by_cases h : l = []
  · subst h; rfl
  · rw [if_neg h, if_neg h, Nat.mul_one, Nat.zero_add]
theorem sumV_set (l : List UInt8) : ∀ (i : Nat) (v : UInt8) (h : i < l.length), sumV (l.set i v) + l[i].toNat = sumV l + v.toNat := by
  induction l with
  | nil => intro i v h; simp at h
  | cons c l ih =>
    intro i v h
    cases i with
    | zero => simp only [List.set_cons_zero, sumV, List.foldr_cons, List.getElem_cons_zero]; omega
    | succ i =>
      have := ih i v (by simpa using h)
      simp only [List.set_cons_succ, sumV, List.foldr_cons, List.getElem_cons_succ] at *; omega
/-- A change of one byte changes the mix. -/
theorem mix_set (l : List UInt8) (i : Nat) (v : UInt8) (h : i < l.length) : (mixV (l.set i v) = mixV l) ↔ l[i] = v := by
  constructor
  · intro e
    rw [mixV_form, mixV_form] at e
    have hs := sumV_set l i v h
    have h1 := l[i].toNat_lt
    have h2 := v.toNat_lt
    have e2 : mixOf ((1 + sumV (l.set i v)) % 4294967291, ((l.set i v).length + wgtV (l.set i v)) % 4294967291) % 4294967296 = mixOf ((1 + sumV l) % 4294967291, (l.length + wgtV l) % 4294967291) % 4294967296 := by rw [e]
    rw [mixOf_mod (by show (1 + sumV (l.set i v)) % 4294967291 < 4294967291; omega), mixOf_mod (by show (1 + sumV l) % 4294967291 < 4294967291; omega)] at e2
    have e3 : (1 + sumV (l.set i v)) % 4294967291 = (1 + sumV l) % 4294967291 := e2
    clear e2 e
    apply UInt8.toNat_inj.1
    omega
  · rintro rfl; rw [List.set_getElem_self]
theorem sumV_snoc (l : List UInt8) (c : UInt8) : sumV (l ++ [c]) = sumV l + c.toNat := by
  induction l with
  | nil => simp [sumV]
  | cons x l ih =>
    have e1 : sumV (x :: l) = x.toNat + sumV l := rfl
    have e2 : sumV (x :: (l ++ [c])) = x.toNat + sumV (l ++ [c]) := rfl
    rw [List.cons_append, e1, e2, ih]; omega
theorem wgtV_snoc (l : List UInt8) (c : UInt8) : wgtV (l ++ [c]) = wgtV l + sumV l + c.toNat := by
  induction l with
  | nil => simp [wgtV, sumV]
  | cons x l ih =>
    have e1 : sumV (x :: l) = x.toNat + sumV l := rfl
    simp only [List.cons_append, wgtV] at *
    rw [ih, e1, List.length_append, List.length_singleton, Nat.add_mul (l.length + 1) 1]; omega
/-- Roll of the mix is the mix of the next window. -/
theorem roll_next (x : UInt8) (t : List UInt8) (c : UInt8) (hn : t.length < 1000000) : rollV (mixV (x :: t)) (t.length + 1 : Nat) x.toNat c.toNat = mixV (t ++ [c]) := by
  unfold rollV
  rw [if_pos (isMix_mixV _), if_neg (by omega), Int.toNat_natCast]
  have hx := x.toNat_lt
  have hc := c.toNat_lt
  have e1 : sumV (x :: t) = x.toNat + sumV t := rfl
  have e2 : wgtV (x :: t) = (t.length + 1) * x.toNat + wgtV t := rfl
  have hm : (t.length + 1) * x.toNat ≤ 1000000 * 255 := Nat.mul_le_mul (by omega) (by omega)
  rw [mixV_form (t ++ [c]), sumV_snoc, wgtV_snoc, List.length_append, List.length_singleton]
  have hA : rollA (mixV (x :: t)) x.toNat c.toNat = (1 + (sumV t + c.toNat)) % 4294967291 := by
    unfold rollA
    rw [mixV_form, mixOf_mod (by simp only; omega), e1]
    simp only
    omega
  congr 1
  rw [hA]
  congr 1
  unfold rollB
  rw [hA, mixV_form, mixOf_div (by simp only; omega), e2]
  simp only [List.length_cons]
  generalize (t.length + 1) * x.toNat = m at *
  omega
theorem roll_nextE (x : UInt8) (t : List UInt8) (hn : t.length < 1000000) : rollE (mixV (x :: t)) (t.length + 1 : Nat) = 0 := by
  unfold rollE
  rw [if_pos (isMix_mixV _), if_neg (by omega)]
end Go.Proofs.YtbaibmndmcdfdaaDoor
