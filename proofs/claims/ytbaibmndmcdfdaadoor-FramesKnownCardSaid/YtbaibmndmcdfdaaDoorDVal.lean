/- Sectors, writes, devices: what a device is, and what becomes of it. Plain. -/
namespace Go.Proofs.YtbaibmndmcdfdaaDoor.D

structure Sec where
  l : List UInt8
  len : l.length = 128
  deriving DecidableEq
def Sec.fill (f b : UInt8) : Sec := ⟨f :: List.replicate 127 b, by simp⟩
def Sec.zero : Sec := ⟨List.replicate 128 0, by simp⟩
structure Wr where
  at_ : Int
  data : Sec
  deriving DecidableEq
structure Dv where
  st : List Sec
  ca : List Wr
  tk : Int
  pw : Int
  off : Bool
  deriving DecidableEq

def inS (n : Nat) (i : Int) : Bool := decide (0 ≤ i ∧ i < n)
theorem inS_true {n : Nat} {i : Int} (h : inS n i = true) : 0 ≤ i ∧ i < n := by simpa [inS] using h
theorem inS_false {n : Nat} {i : Int} (h : inS n i = false) : ¬ (0 ≤ i ∧ i < n) := by simpa [inS] using h
theorem inS_nat {n : Nat} {i : Int} (h : inS n i = true) : ∃ k : Nat, i = k ∧ k < n := ⟨i.toNat, by have := inS_true h; omega, by have := inS_true h; omega⟩
theorem inS_mk {n : Nat} {i : Int} (h0 : 0 ≤ i) (h1 : i < n) : inS n i = true := by simp [inS]; omega
theorem inS_no {n : Nat} {i : Int} (h : ¬ (0 ≤ i ∧ i < n)) : inS n i = false := by simpa [inS] using h

/-! ### What a sector reads as -/
def stepR (n : Int) (x : Sec) (w : Wr) : Sec := if w.at_ = n then w.data else x
def readsV (st : List Sec) (ca : List Wr) (n : Int) : Sec := ca.foldl (stepR n) (st.getD n.toNat Sec.zero)
theorem readsV_nil (st : List Sec) (n : Int) : readsV st [] n = st.getD n.toNat Sec.zero := rfl
theorem readsV_snoc (st : List Sec) (ca : List Wr) (w : Wr) (n : Int) : readsV st (ca ++ [w]) n = stepR n (readsV st ca n) w := by
  simp [readsV]
/-- The map from a sector to the newest write of it. -/
def updM (f : Int → Option Nat) (k : Int) (v : Nat) (x : Int) : Option Nat := if x = k then some v else f x
def newF : List Wr → Nat → (Int → Option Nat) → Int → Option Nat
  | [], _, f => f
  | w :: r, i, f => newF r (i + 1) (updM f w.at_ i)
def newestF (ca : List Wr) : Int → Option Nat := newF ca 0 (fun _ => none)
theorem newF_snoc (w : Wr) : ∀ (l : List Wr) (i : Nat) (f : Int → Option Nat), newF (l ++ [w]) i f = updM (newF l i f) w.at_ (i + l.length)
  | [], i, f => by simp [newF]
  | x :: l, i, f => by
    simp only [List.cons_append, newF]
    rw [newF_snoc w l (i + 1) _]
    simp only [List.length_cons]
    congr 1
    omega
theorem newestF_snoc (ca : List Wr) (w : Wr) : newestF (ca ++ [w]) = updM (newestF ca) w.at_ ca.length := by
  unfold newestF; rw [newF_snoc, Nat.zero_add]
theorem newestF_nil : newestF [] = fun _ => none := rfl
theorem snoc_cases {α : Type} (l : List α) : l = [] ∨ ∃ m x, l = m ++ [x] := by
  rcases List.eq_nil_or_concat l with h | ⟨m, x, h⟩
  · exact .inl h
  · exact .inr ⟨m, x, by simpa using h⟩
theorem readsV_new (st : List Sec) (n : Int) : ∀ (k : Nat) (ca : List Wr), ca.length = k → (newestF ca n = none ∧ readsV st ca n = st.getD n.toNat Sec.zero) ∨ ∃ i w, newestF ca n = some i ∧ ca[i]? = some w ∧ readsV st ca n = w.data
  | 0, ca, h => by
    have : ca = [] := List.eq_nil_of_length_eq_zero h
    subst this; exact .inl ⟨rfl, rfl⟩
  | k + 1, ca, h => by
    rcases snoc_cases ca with rfl | ⟨m, x, rfl⟩
    · simp at h
    · have hk : m.length = k := by simpa using h
      rw [newestF_snoc, readsV_snoc]
      unfold updM stepR
      by_cases e : n = x.at_
      · subst e
        exact .inr ⟨m.length, x, by simp, by simp, by simp⟩
      · rw [if_neg e, if_neg (fun h => e h.symm)]
        rcases readsV_new st n k m hk with ⟨h1, h2⟩ | ⟨i, w, h1, h2, h3⟩
        · exact .inl ⟨h1, h2⟩
        · refine .inr ⟨i, w, h1, ?_, h3⟩
          have hi : i < m.length := by
            rcases Nat.lt_or_ge i m.length with hh | hh
            · exact hh
            · rw [List.getElem?_eq_none hh] at h2; cases h2
          rw [List.getElem?_append_left hi]; exact h2

/-! ### What is made stable -/
def applyV (st : List Sec) (w : Wr) : List Sec := st.set w.at_.toNat w.data
def settleV (st : List Sec) (ca : List Wr) : List Sec := ca.foldl applyV st
theorem applyV_len (st : List Sec) (w : Wr) : (applyV st w).length = st.length := by simp [applyV]
theorem settleV_len (ca : List Wr) : ∀ st : List Sec, (settleV st ca).length = st.length := by
  induction ca with
  | nil => intro st; rfl
  | cons w r ih => intro st; show (settleV (applyV st w) r).length = _; rw [ih, applyV_len]
theorem settleV_snoc (st : List Sec) (ca : List Wr) (w : Wr) : settleV st (ca ++ [w]) = applyV (settleV st ca) w := by simp [settleV]
theorem settleV_take (st : List Sec) (ca : List Wr) (k : Nat) (hk : k < ca.length) : settleV st (ca.take (k + 1)) = applyV (settleV st (ca.take k)) ca[k] := by
  rw [List.take_succ_eq_append_getElem hk, settleV_snoc]
/-- What is stable reads so. -/
theorem settle_reads (st : List Sec) (n : Nat) (hn : n < st.length) : ∀ (k : Nat) (ca : List Wr), ca.length = k → (∀ w ∈ ca, 0 ≤ w.at_) → (settleV st ca).getD n Sec.zero = readsV st ca n
  | 0, ca, h, _ => by
    have : ca = [] := List.eq_nil_of_length_eq_zero h
    subst this; simp [settleV, readsV]
  | k + 1, ca, h, h0 => by
    rcases snoc_cases ca with rfl | ⟨m, x, rfl⟩
    · simp at h
    · have hk : m.length = k := by simpa using h
      have ih := settle_reads st n hn k m hk (fun w hw => h0 w (by simp [hw]))
      have hx : 0 ≤ x.at_ := h0 x (by simp)
      rw [settleV_snoc, readsV_snoc, ← ih]
      unfold applyV stepR
      have hl := settleV_len m st
      by_cases e : x.at_ = (n : Int)
      · rw [if_pos e, e, Int.toNat_natCast, List.getD_eq_getElem?_getD, List.getElem?_set_self (by omega)]; rfl
      · rw [if_neg e, List.getD_eq_getElem?_getD, List.getElem?_set_ne (by omega), ← List.getD_eq_getElem?_getD]

/-! ### The calls -/
/-- The states of devices. -/
structure Dv.ok (D : Dv) : Prop where
  s0 : 64 ≤ D.st.length
  s1 : D.st.length ≤ 256
  ca : D.ca.length ≤ 400
  ats : ∀ w ∈ D.ca, 0 ≤ w.at_ ∧ w.at_ < D.st.length
  t0 : 0 ≤ D.tk
  t1 : D.tk ≤ 1000000000000
  p0 : -1 ≤ D.pw
  p1 : D.pw ≤ 1000000000000
def readyE (D : Dv) : Int := if D.off then 13 else 0
def readE (D : Dv) (n : Int) : Int := if D.off then 13 else if inS D.st.length n then 0 else 7
def readD (D : Dv) (n : Int) : Sec := if D.off then Sec.zero else if inS D.st.length n then readsV D.st D.ca n else Sec.zero
def settleD (D : Dv) : Dv := { D with st := settleV D.st D.ca, ca := [] }
def fullD (D : Dv) : Dv := if D.ca.length < 400 then D else settleD D
def tookD (D : Dv) (n : Int) (s : Sec) : Dv := { D with ca := D.ca ++ [⟨n, s⟩], tk := D.tk + 1, pw := if 0 < D.pw then D.pw - 1 else D.pw }
def emptyB (D : Dv) : Bool := decide (D.pw = 0 ∨ D.tk = 1000000000000)
def writeE (D : Dv) (n : Int) : Int := if D.off then 13 else if inS D.st.length n then (if emptyB D then 13 else 0) else 7
def writeD (D : Dv) (n : Int) (s : Sec) : Dv := if D.off then D else if inS D.st.length n then (if emptyB D then { D with off := true } else tookD (fullD D) n s) else D
def flushD (D : Dv) : Dv := if D.off then D else settleD D
def isCt (n : Int) : Bool := decide (64 ≤ n ∧ n ≤ 256)
def isPw (n : Int) : Bool := decide (-1 ≤ n ∧ n ≤ 1000000000000)
def limitE (n : Int) : Int := if isPw n then 0 else 7
def limitD (D : Dv) (n : Int) : Dv := if isPw n then { D with pw := n } else D
def ascB : List Int → Bool
  | a :: b :: r => decide (a < b) && ascB (b :: r)
  | _ => true
def keepE (n : Nat) (keep : List Int) : Int := if keep.all (inS n) then (if ascB keep then 0 else 6) else 7
def keptV (ca : List Wr) (keep : List Int) : List Wr := keep.filterMap fun i => ca[i.toNat]?
def crashedD (D : Dv) (keep : List Int) : Dv := { st := settleV D.st (keptV D.ca keep), ca := [], tk := D.tk, pw := -1, off := false }
def crashD (D : Dv) (keep : List Int) : Dv := if keepE D.ca.length keep = 0 then crashedD D keep else D
def diffV (D E : Dv) : List Nat := (List.range D.st.length).filter fun n => readsV D.st D.ca n != readsV E.st E.ca n
def newD (n : Nat) : Dv := ⟨List.replicate n Sec.zero, [], 0, -1, false⟩
def checkE (D : Dv) : Int := if D.st.length < 64 ∨ 256 < D.st.length ∨ D.tk < 0 ∨ 1000000000000 < D.tk ∨ D.pw < -1 ∨ 1000000000000 < D.pw then 7 else if D.ca.all (fun w => inS D.st.length w.at_) then (if 400 < D.ca.length then 3 else 0) else 7
theorem checkE_ok {D : Dv} : checkE D = 0 ↔ D.ok := by
  unfold checkE
  constructor
  · intro h
    by_cases h1 : D.st.length < 64 ∨ 256 < D.st.length ∨ D.tk < 0 ∨ 1000000000000 < D.tk ∨ D.pw < -1 ∨ 1000000000000 < D.pw
    · rw [if_pos h1] at h; cases h
    · rw [if_neg h1] at h
      by_cases h2 : D.ca.all (fun w => inS D.st.length w.at_) = true
      · rw [if_pos h2] at h
        by_cases h3 : 400 < D.ca.length
        · rw [if_pos h3] at h; cases h
        · exact ⟨by omega, by omega, by omega, fun w hw => inS_true (List.all_eq_true.1 h2 w hw), by omega, by omega, by omega, by omega⟩
      · rw [if_neg h2] at h; cases h
  · intro h
    have := h.s0; have := h.s1; have := h.t0; have := h.t1; have := h.p0; have := h.p1; have := h.ca
    rw [if_neg (by omega), if_pos (List.all_eq_true.2 fun w hw => inS_mk (h.ats w hw).1 (h.ats w hw).2), if_neg (by omega)]

/-- What Load asks first. -/
def rangeB (D : Dv) : Bool := isCt D.st.length && !decide (D.tk < 0) && !decide (1000000000000 < D.tk) && isPw D.pw && D.ca.all (fun w => inS D.st.length w.at_)
theorem checkE_range (D : Dv) : checkE D = if rangeB D then (if 400 < D.ca.length then 3 else 0) else 7 := by
  unfold checkE
  by_cases h1 : D.st.length < 64 ∨ 256 < D.st.length ∨ D.tk < 0 ∨ 1000000000000 < D.tk ∨ D.pw < -1 ∨ 1000000000000 < D.pw
  · have e : rangeB D = false := by
      cases hr : rangeB D with
      | false => rfl
      | true =>
        unfold rangeB isCt isPw at hr
        simp only [Bool.and_eq_true, Bool.not_eq_true', decide_eq_true_eq, decide_eq_false_iff_not] at hr
        omega
    rw [if_pos h1, e]; rfl
  · have e : rangeB D = D.ca.all (fun w => inS D.st.length w.at_) := by
      have e1 : isCt D.st.length = true := by unfold isCt; simp only [decide_eq_true_eq]; omega
      have e2 : isPw D.pw = true := by unfold isPw; simp only [decide_eq_true_eq]; omega
      have e3 : decide (D.tk < 0) = false := by simp only [decide_eq_false_iff_not]; omega
      have e4 : decide (1000000000000 < D.tk) = false := by simp only [decide_eq_false_iff_not]; omega
      unfold rangeB; rw [e1, e2, e3, e4]; simp
    rw [if_neg h1, e]

theorem settleD_ok {D : Dv} (h : D.ok) : (settleD D).ok := by
  have hl := settleV_len D.ca D.st
  exact ⟨by show 64 ≤ (settleV D.st D.ca).length; rw [hl]; exact h.s0, by show (settleV D.st D.ca).length ≤ 256; rw [hl]; exact h.s1, Nat.zero_le _, fun w hw => (by cases hw), h.t0, h.t1, h.p0, h.p1⟩
theorem fullD_ok {D : Dv} (h : D.ok) : (fullD D).ok := by
  unfold fullD; split
  · exact h
  · exact settleD_ok h
theorem fullD_lt {D : Dv} : (fullD D).ca.length < 400 := by
  unfold fullD; split
  · assumption
  · show (0 : Nat) < 400; omega
theorem fullD_len {D : Dv} : (fullD D).st.length = D.st.length := by
  unfold fullD; split
  · rfl
  · exact settleV_len _ _
theorem fullD_tk {D : Dv} : (fullD D).tk = D.tk := by unfold fullD; split <;> rfl
theorem fullD_pw {D : Dv} : (fullD D).pw = D.pw := by unfold fullD; split <;> rfl
theorem fullD_off {D : Dv} : (fullD D).off = D.off := by unfold fullD; split <;> rfl
theorem tookD_ok {D : Dv} (h : D.ok) (hl : D.ca.length < 400) (ht : D.tk < 1000000000000) {n : Int} (hn : inS D.st.length n = true) (s : Sec) : (tookD D n s).ok := by
  refine ⟨h.s0, h.s1, ?_, ?_, ?_, ?_, ?_, ?_⟩
  · show (D.ca ++ [_]).length ≤ 400; simp; omega
  · intro w hw
    rcases List.mem_append.1 hw with hw | hw
    · exact h.ats w hw
    · rw [List.mem_singleton.1 hw]; exact inS_true hn
  · show 0 ≤ D.tk + 1; have := h.t0; omega
  · show D.tk + 1 ≤ _; omega
  · show -1 ≤ (if 0 < D.pw then D.pw - 1 else D.pw); have := h.p0; split <;> omega
  · show (if 0 < D.pw then D.pw - 1 else D.pw) ≤ _; have := h.p1; split <;> omega
theorem writeD_ok {D : Dv} (h : D.ok) (n : Int) (s : Sec) : (writeD D n s).ok := by
  unfold writeD
  split
  · exact h
  · split
    · rename_i hn
      cases he : emptyB D with
      | true => exact ⟨h.s0, h.s1, h.ca, h.ats, h.t0, h.t1, h.p0, h.p1⟩
      | false =>
        have ht : ¬ (D.pw = 0 ∨ D.tk = 1000000000000) := by simpa [emptyB] using he
        refine tookD_ok (fullD_ok h) fullD_lt (by rw [fullD_tk]; have := h.t1; omega) (by rw [fullD_len]; exact hn) s
    · exact h
theorem flushD_ok {D : Dv} (h : D.ok) : (flushD D).ok := by
  unfold flushD; split
  · exact h
  · exact settleD_ok h
theorem limitD_ok {D : Dv} (h : D.ok) (n : Int) : (limitD D n).ok := by
  unfold limitD
  cases hp : isPw n with
  | true => have : -1 ≤ n ∧ n ≤ 1000000000000 := by simpa [isPw] using hp
            exact ⟨h.s0, h.s1, h.ca, h.ats, h.t0, h.t1, this.1, this.2⟩
  | false => exact h
theorem keptV_mem {ca : List Wr} {keep : List Int} {w : Wr} (h : w ∈ keptV ca keep) : w ∈ ca := by
  obtain ⟨i, _, hi⟩ := List.mem_filterMap.1 h
  exact List.mem_of_getElem? hi
theorem crashedD_ok {D : Dv} (h : D.ok) (keep : List Int) : (crashedD D keep).ok := by
  have hl := settleV_len (keptV D.ca keep) D.st
  exact ⟨by show 64 ≤ (settleV D.st (keptV D.ca keep)).length; rw [hl]; exact h.s0, by show (settleV D.st (keptV D.ca keep)).length ≤ 256; rw [hl]; exact h.s1, Nat.zero_le _, fun w hw => (by cases hw), h.t0, h.t1, by show (-1 : Int) ≤ -1; omega, by show (-1 : Int) ≤ _; omega⟩
theorem crashD_ok {D : Dv} (h : D.ok) (keep : List Int) : (crashD D keep).ok := by
  unfold crashD; split
  · exact crashedD_ok h keep
  · exact h
theorem newD_ok {n : Nat} (h0 : 64 ≤ n) (h1 : n ≤ 256) : (newD n).ok :=
  ⟨by simp [newD]; omega, by simp [newD]; omega, by simp [newD], by simp [newD], by simp [newD], by simp [newD], by simp [newD], by simp [newD]⟩
end Go.Proofs.YtbaibmndmcdfdaaDoor.D
