/- What records are, as plain words: the bytes of a value, what is read of them; that each undoes the other. -/
import Derived.Test.YtnocmkjaifjgfaaDoorProg
namespace Go.Proofs.YtnocmkjaifjgfaaDoor

structure Rv where
  num : Nat
  str : ByteArray
  list : List Nat
def Rv.zero : Rv := ⟨0, ByteArray.empty, []⟩
structure Rv.Ok (v : Rv) : Prop where
  num : v.num < 18446744073709551616
  list : ∀ x ∈ v.list, x < 4294967296

def widV (c : Nat) : Nat := if c = 98 then 1 else if c = 119 then 2 else if c = 100 then 4 else if c = 113 then 8 else 0
def kindB (c : Nat) : Bool := decide (c = 98 ∨ c = 119 ∨ c = 100 ∨ c = 113 ∨ c = 118 ∨ c = 115 ∨ c = 108)
def formE (s : List UInt8) : Nat := if 64 < s.length then 3 else if s.all (fun c => kindB c.toNat) then 0 else 2
def lowL (n : Nat) : Nat → List UInt8
  | 0 => []
  | k + 1 => UInt8.ofNat n :: lowL (n / 256) k
def grpF : Nat → Nat → List UInt8
  | 0, n => [UInt8.ofNat n]
  | f + 1, n => if n < 128 then [UInt8.ofNat n] else UInt8.ofNat (n % 128 + 128) :: grpF f (n / 128)
def grpL (n : Nat) : List UInt8 := grpF 9 n
def lowsL : List Nat → List UInt8
  | [] => []
  | x :: r => lowL x 4 ++ lowsL r
def badF (c : Nat) (v : Rv) : Bool := decide ((c ≠ 115 ∧ 0 < v.str.size) ∨ (c ≠ 108 ∧ 0 < v.list.length) ∨ ((c = 115 ∨ c = 108) ∧ 0 < v.num))
def valE (c : Nat) (v : Rv) : Nat :=
  if badF c v then 2 else if 0 < widV c ∧ widV c < 8 ∧ 256 ^ widV c ≤ v.num then 7 else if 400 < v.str.size ∨ 60 < v.list.length then 3 else 0
def valL (c : Nat) (v : Rv) : List UInt8 :=
  if c = 118 then grpL v.num else if c = 115 then grpL v.str.size ++ v.str.data.toList else if c = 108 then grpL v.list.length ++ lowsL v.list else lowL v.num (widV c)
def valsE : List UInt8 → List Rv → Nat
  | c :: s, v :: l => if valE c.toNat v ≠ 0 then valE c.toNat v else valsE s l
  | _, _ => 0
def valsL : List UInt8 → List Rv → List UInt8
  | c :: s, v :: l => valL c.toNat v ++ valsL s l
  | _, _ => []
def encE (s : List UInt8) (l : List Rv) : Nat :=
  if formE s ≠ 0 then formE s else if l.length ≠ s.length then 2 else if valsE s l ≠ 0 then valsE s l else if 4000 < (valsL s l).length then 3 else 0
def encL (s : List UInt8) (l : List Rv) : List UInt8 := if encE s l = 0 then valsL s l else []

/-! ### reading -/
def numL : List UInt8 → Nat
  | [] => 0
  | c :: r => c.toNat + 256 * numL r
/-- The number, how many bytes, the error. -/
def grpK : Nat → Nat → Nat → List UInt8 → Nat × Nat × Nat
  | 0, _, _, _ => (0, 0, 6)
  | _ + 1, _, _, [] => (0, 0, 10)
  | k + 1, i, a, c :: b =>
    if 128 ≤ c.toNat then grpK k (i + 1) (a + c.toNat % 128 * 128 ^ i) b
    else if (0 < i ∧ c.toNat = 0) ∨ (k = 0 ∧ 1 < c.toNat) then (0, 0, 6)
    else (a + c.toNat * 128 ^ i, i + 1, 0)
def grpD (b : List UInt8) : Nat × Nat × Nat := grpK 10 0 0 b
def numsL : Nat → List UInt8 → List Nat
  | 0, _ => []
  | k + 1, b => numL (b.take 4) :: numsL k (b.drop 4)
def oneD (c : Nat) (b : List UInt8) : Rv × Nat × Nat :=
  if 0 < widV c then (if b.length < widV c then (Rv.zero, 0, 10) else (⟨numL (b.take (widV c)), ByteArray.empty, []⟩, widV c, 0))
  else if (grpD b).2.2 ≠ 0 then (Rv.zero, 0, (grpD b).2.2)
  else if c = 118 then (⟨(grpD b).1, ByteArray.empty, []⟩, (grpD b).2.1, 0)
  else if c = 115 then
    (if 400 < (grpD b).1 then (Rv.zero, 0, 3) else if b.length - (grpD b).2.1 < (grpD b).1 then (Rv.zero, 0, 10)
      else (⟨0, ⟨((b.drop (grpD b).2.1).take (grpD b).1).toArray⟩, []⟩, (grpD b).2.1 + (grpD b).1, 0))
  else
    (if 60 < (grpD b).1 then (Rv.zero, 0, 3) else if b.length - (grpD b).2.1 < 4 * (grpD b).1 then (Rv.zero, 0, 10)
      else (⟨0, ByteArray.empty, numsL (grpD b).1 (b.drop (grpD b).2.1)⟩, (grpD b).2.1 + 4 * (grpD b).1, 0))
def combD (vs : List Rv) (n : Nat) (r : List Rv × Nat × Nat) : List Rv × Nat × Nat := if r.2.2 ≠ 0 then ([], 0, r.2.2) else (vs ++ r.1, n + r.2.1, 0)
def decV : List UInt8 → List UInt8 → List Rv × Nat × Nat
  | [], _ => ([], 0, 0)
  | c :: s, b => if (oneD c.toNat b).2.2 ≠ 0 then ([], 0, (oneD c.toNat b).2.2) else combD [(oneD c.toNat b).1] (oneD c.toNat b).2.1 (decV s (b.drop (oneD c.toNat b).2.1))
def decR (s b : List UInt8) : List Rv × Nat × Nat :=
  if formE s ≠ 0 then ([], 0, formE s) else if (decV s b).2.2 ≠ 0 then ([], 0, (decV s b).2.2) else if 4000 < (decV s b).2.1 then ([], 0, 3) else decV s b
def wholeE (s b : List UInt8) : Nat := if (decR s b).2.2 ≠ 0 then (decR s b).2.2 else if (decR s b).2.1 < b.length then 6 else 0
def wholeL (s b : List UInt8) : List Rv := if wholeE s b = 0 then (decR s b).1 else []

/-! ### facts -/
theorem u8_of (n : Nat) : (UInt8.ofNat n).toNat = n % 256 := UInt8.toNat_ofNat'
theorem lowL_len (k : Nat) : ∀ n, (lowL n k).length = k := by induction k with | zero => intro n; rfl | succ k ih => intro n; simp [lowL, ih]
theorem lowsL_len (l : List Nat) : (lowsL l).length = 4 * l.length := by induction l with | nil => rfl | cons x r ih => simp [lowsL, lowL_len, ih]; omega
theorem numL_lt (l : List UInt8) : numL l < 256 ^ l.length := by
  induction l with
  | nil => simp [numL]
  | cons c l ih => simp only [numL, List.length_cons, Nat.pow_succ]; have := c.toNat_lt; omega
theorem numL_low (k : Nat) : ∀ n, n < 256 ^ k → numL (lowL n k) = n := by
  induction k with
  | zero => intro n h; simp at h; subst h; rfl
  | succ k ih => intro n h; rw [Nat.pow_succ] at h; simp only [lowL, numL, u8_of]; rw [ih _ (by omega)]; omega
theorem low_numL (l : List UInt8) : lowL (numL l) l.length = l := by
  induction l with
  | nil => rfl
  | cons c l ih =>
    have := c.toNat_lt
    simp only [List.length_cons, lowL, numL]
    rw [show (c.toNat + 256 * numL l) / 256 = numL l from by omega, ih]
    congr 1
    apply UInt8.toNat_inj.1
    rw [u8_of]; omega
theorem wid_cases (c : Nat) : widV c = 0 ∨ (c = 98 ∧ widV c = 1) ∨ (c = 119 ∧ widV c = 2) ∨ (c = 100 ∧ widV c = 4) ∨ (c = 113 ∧ widV c = 8) := by
  unfold widV
  by_cases h1 : c = 98
  · simp [h1]
  by_cases h2 : c = 119
  · simp [h2]
  by_cases h3 : c = 100
  · simp [h3]
  by_cases h4 : c = 113
  · simp [h4]
  simp [h1, h2, h3, h4]
theorem wid_le (c : Nat) : widV c ≤ 8 := by rcases wid_cases c with h | ⟨_, h⟩ | ⟨_, h⟩ | ⟨_, h⟩ | ⟨_, h⟩ <;> omega
theorem grpF_pos (f : Nat) : ∀ n, 0 < (grpF f n).length := by
  cases f with
  | zero => intro n; simp [grpF]
  | succ f => intro n; simp only [grpF]; split <;> simp
theorem grpF_len (f : Nat) : ∀ n, (grpF f n).length ≤ f + 1 := by
  induction f with
  | zero => intro n; simp [grpF]
  | succ f ih => intro n; simp only [grpF]; split; simp; have := ih (n / 128); simp; omega
theorem grpL_len (n : Nat) : (grpL n).length ≤ 10 := grpF_len 9 n
/-- What is written in groups is read. -/
theorem grpK_F : ∀ (f i a n : Nat) (x : List UInt8), f + i = 9 → n < 2 * 128 ^ f → (0 < i → 0 < n) → grpK (f + 1) i a (grpF f n ++ x) = (a + n * 128 ^ i, i + (grpF f n).length, 0) := by
  intro f
  induction f with
  | zero =>
    intro i a n x hi hn h0
    simp at hn
    have e : (UInt8.ofNat n).toNat = n := by rw [u8_of]; omega
    simp only [grpF, List.cons_append, List.nil_append, grpK, e]
    rw [if_neg (by omega), if_neg (by omega)]
    rfl
  | succ f ih =>
    intro i a n x hi hn h0
    simp only [grpF]
    by_cases hc : n < 128
    · rw [if_pos hc]
      have e : (UInt8.ofNat n).toNat = n := by rw [u8_of]; omega
      simp only [List.cons_append, List.nil_append, grpK, e]
      rw [if_neg (by omega), if_neg (by omega)]
      rfl
    · rw [if_neg hc]
      have e : (UInt8.ofNat (n % 128 + 128)).toNat = n % 128 + 128 := by rw [u8_of]; omega
      rw [Nat.pow_succ] at hn
      rw [List.cons_append, grpK, e, if_pos (by omega), ih (i + 1) _ (n / 128) x (by omega) (by omega) (by omega)]
      have hd : n = n % 128 + 128 * (n / 128) := (Nat.mod_add_div n 128).symm
      have : a + (n % 128 + 128) % 128 * 128 ^ i + n / 128 * 128 ^ (i + 1) = a + n * 128 ^ i := by
        rw [show (n % 128 + 128) % 128 = n % 128 from by omega, Nat.pow_succ, Nat.add_assoc, Nat.mul_comm (128 ^ i) 128, ← Nat.mul_assoc, ← Nat.add_mul, Nat.mul_comm (n / 128) 128, ← hd]
      rw [this]
      simp only [List.length_cons]
      congr 2; omega
theorem grpD_L (n : Nat) (x : List UInt8) (h : n < 18446744073709551616) : grpD (grpL n ++ x) = (n, (grpL n).length, 0) := by
  unfold grpD grpL
  rw [grpK_F 9 0 0 n x rfl (by simpa using h) (by simp)]
  simp
/-- Fewer bytes of it: more are needed. -/
theorem grpK_cut : ∀ (f i a n k : Nat), f + i = 9 → k < (grpF f n).length → grpK (f + 1) i a ((grpF f n).take k) = (0, 0, 10) := by
  intro f
  induction f with
  | zero =>
    intro i a n k hi hk
    simp [grpF] at hk; subst hk
    simp [grpK]
  | succ f ih =>
    intro i a n k hi hk
    cases k with
    | zero => simp [grpK]
    | succ k =>
      simp only [grpF] at hk ⊢
      by_cases hc : n < 128
      · rw [if_pos hc] at hk; simp at hk
      · rw [if_neg hc] at hk ⊢
        have e : (UInt8.ofNat (n % 128 + 128)).toNat = n % 128 + 128 := by rw [u8_of]; omega
        rw [List.take_succ_cons, grpK, e, if_pos (by omega)]
        exact ih _ _ _ _ (by omega) (by simpa using hk)
theorem grpD_cut (n k : Nat) (hk : k < (grpL n).length) : grpD ((grpL n).take k) = (0, 0, 10) := grpK_cut 9 0 0 n k rfl hk
/-- What is read in groups is the one way to write it. -/
theorem grpK_one : ∀ (k i a : Nat) (b : List UInt8), k + i = 10 → (grpK k i a b).2.2 = 0 →
    ∃ (m : Nat), (grpK k i a b).1 = a + m * 128 ^ i ∧ (grpK k i a b).2.1 ≤ i + b.length ∧ i < (grpK k i a b).2.1 ∧ m < 2 * 128 ^ (k - 1) ∧ (0 < i → 0 < m) ∧ 0 < k ∧ grpF (k - 1) m = b.take ((grpK k i a b).2.1 - i) := by
  intro k
  induction k with
  | zero => intro i a b hk h; simp [grpK] at h
  | succ k ih =>
    intro i a b hk h
    cases b with
    | nil => simp [grpK] at h
    | cons c b =>
      have hc := c.toNat_lt
      simp only [grpK] at h ⊢
      by_cases h1 : 128 ≤ c.toNat
      · rw [if_pos h1] at h ⊢
        obtain ⟨m, e1, e2, e3, e4, e5, e6, e7⟩ := ih (i + 1) _ b (by omega) h
        have hm := e5 (by omega)
        refine ⟨c.toNat % 128 + 128 * m, ?_, ?_, by omega, ?_, by omega, by omega, ?_⟩
        · rw [e1, Nat.add_mul, Nat.pow_succ, ← Nat.add_assoc, Nat.mul_comm 128 m, Nat.mul_assoc, Nat.mul_comm 128]
        · simp only [List.length_cons]; omega
        · obtain ⟨q, rfl⟩ : ∃ q, k = q + 1 := ⟨k - 1, by omega⟩
          simp only [Nat.add_sub_cancel, Nat.pow_succ] at e4 ⊢; omega
        · obtain ⟨q, rfl⟩ : ∃ q, k = q + 1 := ⟨k - 1, by omega⟩
          simp only [Nat.add_sub_cancel] at e7 ⊢
          obtain ⟨u, hu⟩ : ∃ u, (grpK (q + 1) (i + 1) (a + c.toNat % 128 * 128 ^ i) b).2.1 = i + 1 + u := ⟨_, (Nat.add_sub_cancel' (Nat.le_of_lt e3)).symm⟩
          rw [hu] at e7 ⊢
          rw [show i + 1 + u - i = u + 1 from by omega, List.take_succ_cons, grpF, if_neg (by omega), show (c.toNat % 128 + 128 * m) / 128 = m from by omega, e7,
            show i + 1 + u - (i + 1) = u from by omega]
          congr 1
          apply UInt8.toNat_inj.1
          rw [u8_of]; omega
      · rw [if_neg h1] at h ⊢
        by_cases h2 : (0 < i ∧ c.toNat = 0) ∨ (k = 0 ∧ 1 < c.toNat)
        · rw [if_pos h2] at h; simp at h
        · rw [if_neg h2] at h ⊢
          refine ⟨c.toNat, rfl, by simp, Nat.lt_succ_self i, ?_, fun hi => by omega, by omega, ?_⟩
          · simp only [Nat.add_sub_cancel]
            cases k with
            | zero => simp; omega
            | succ k => rw [Nat.pow_succ]; have : 0 < 128 ^ k := Nat.pow_pos (by omega); omega
          · simp only [Nat.add_sub_cancel]
            rw [show i + 1 - i = 1 from by omega]
            have e : UInt8.ofNat c.toNat = c := by apply UInt8.toNat_inj.1; rw [u8_of]; omega
            cases k with
            | zero => simp [grpF]
            | succ k => rw [grpF, if_pos (by omega)]; simp
theorem grpD_one (b : List UInt8) (h : (grpD b).2.2 = 0) : grpL (grpD b).1 = b.take (grpD b).2.1 ∧ (grpD b).2.1 ≤ b.length ∧ (grpD b).1 < 18446744073709551616 := by
  obtain ⟨m, e1, e2, e3, e4, e5, e6, e7⟩ := grpK_one 10 0 0 b rfl h
  simp only [Nat.pow_zero, Nat.mul_one, Nat.zero_add, Nat.sub_zero] at e1 e2 e7
  unfold grpD
  refine ⟨by rw [e1]; exact e7, e2, by rw [e1]; simpa using e4⟩
theorem grpK_cases : ∀ (k i a : Nat) (b : List UInt8), (grpK k i a b).2.2 = 0 ∨ ((grpK k i a b).1 = 0 ∧ (grpK k i a b).2.1 = 0) := by
  intro k
  induction k with
  | zero => intro i a b; right; simp [grpK]
  | succ k ih =>
    intro i a b
    cases b with
    | nil => right; simp [grpK]
    | cons c b =>
      simp only [grpK]
      split
      · exact ih _ _ _
      · split
        · right; simp
        · left; simp
theorem numsL_len (k : Nat) : ∀ b, (numsL k b).length = k := by induction k with | zero => intro b; rfl | succ k ih => intro b; simp [numsL, ih]
theorem numsL_lows : ∀ (l : List Nat) (x : List UInt8), (∀ y ∈ l, y < 4294967296) → numsL l.length (lowsL l ++ x) = l := by
  intro l
  induction l with
  | nil => intro x _; rfl
  | cons y r ih =>
    intro x h
    simp only [List.length_cons, numsL, lowsL, List.append_assoc]
    rw [List.take_left' (lowL_len 4 y), List.drop_left' (lowL_len 4 y), numL_low 4 y (by simpa using h y (by simp)), ih _ (fun z hz => h z (by simp [hz]))]
theorem lows_numsL : ∀ (k : Nat) (b : List UInt8), 4 * k ≤ b.length → lowsL (numsL k b) = b.take (4 * k) := by
  intro k
  induction k with
  | zero => intro b _; simp [numsL, lowsL]
  | succ k ih =>
    intro b h
    simp only [numsL, lowsL]
    have h4 : (b.take 4).length = 4 := by rw [List.length_take]; omega
    have := low_numL (b.take 4)
    rw [h4] at this
    rw [this, ih _ (by rw [List.length_drop]; omega), show 4 * (k + 1) = 4 + 4 * k from by omega, List.take_add]
theorem numsL_lt : ∀ (k : Nat) (b : List UInt8), ∀ x ∈ numsL k b, x < 4294967296 := by
  intro k
  induction k with
  | zero => intro b x h; simp [numsL] at h
  | succ k ih =>
    intro b x h
    simp only [numsL, List.mem_cons] at h
    rcases h with rfl | h
    · have h1 := numL_lt (b.take 4)
      have h2 : (b.take 4).length ≤ 4 := by rw [List.length_take]; omega
      have : 256 ^ (b.take 4).length ≤ 256 ^ 4 := Nat.pow_le_pow_right (by omega) h2
      omega
    · exact ih _ _ h
end Go.Proofs.YtnocmkjaifjgfaaDoor
