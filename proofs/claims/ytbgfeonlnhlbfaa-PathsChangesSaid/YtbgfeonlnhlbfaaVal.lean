/- Plain values: names, paths, their texts and their order. No program in this text. -/
namespace Go.Proofs.Ytbgfeonlnhlbfaa

abbrev Bs := List UInt8

/-! ### A total order from one of the elements, list by list -/
def lexC {α : Type} (c : α → α → Int) : List α → List α → Int
  | [], [] => 0
  | [], _ :: _ => -1
  | _ :: _, [] => 1
  | a :: x, b :: y => if c a b = 0 then lexC c x y else c a b

structure Tot {α : Type} (c : α → α → Int) : Prop where
  low : ∀ a b, c a b = -1 ∨ c a b = 0 ∨ c a b = 1
  eq : ∀ a b, c a b = 0 ↔ a = b
  neg : ∀ a b, c b a = - c a b
  trans : ∀ a b d, c a b ≤ 0 → c b d ≤ 0 → c a d ≤ 0

theorem lexC_self {α : Type} {c : α → α → Int} (h : Tot c) : ∀ x, lexC c x x = 0
  | [] => rfl
  | a :: x => by rw [lexC, if_pos ((h.eq a a).2 rfl)]; exact lexC_self h x

theorem Tot.lex {α : Type} {c : α → α → Int} (h : Tot c) : Tot (lexC c) where
  low := by
    intro x
    induction x with
    | nil => intro y; cases y <;> simp [lexC]
    | cons a x ih =>
      intro y
      cases y with
      | nil => simp [lexC]
      | cons b y =>
        rw [lexC]; split
        · exact ih y
        · exact h.low a b
  eq := by
    intro x
    induction x with
    | nil => intro y; cases y <;> simp [lexC]
    | cons a x ih =>
      intro y
      cases y with
      | nil => simp [lexC]
      | cons b y =>
        rw [lexC]; split
        · rename_i e
          rw [ih y, List.cons.injEq, (h.eq a b).1 e]; simp
        · rename_i e
          have : a ≠ b := fun he => e ((h.eq a b).2 he)
          simp [this, e]
  neg := by
    intro x
    induction x with
    | nil => intro y; cases y <;> simp [lexC]
    | cons a x ih =>
      intro y
      cases y with
      | nil => simp [lexC]
      | cons b y =>
        have hn := h.neg a b
        by_cases e : c a b = 0
        · have e' : c b a = 0 := by omega
          simp only [lexC, e, e', if_true]; exact ih y
        · have e' : ¬ c b a = 0 := by omega
          simp only [lexC, e, e', if_false]; exact hn
  trans := by
    intro x
    induction x with
    | nil => intro y z; cases y <;> cases z <;> simp [lexC]
    | cons a x ih =>
      intro y z
      cases y with
      | nil => simp [lexC]
      | cons b y =>
        cases z with
        | nil => simp [lexC]
        | cons d z =>
          by_cases e1 : c a b = 0
          · by_cases e2 : c b d = 0
            · have e3 : c a d = 0 := by rw [(h.eq a b).1 e1]; exact e2
              simp only [lexC, e1, e2, e3, if_true]; exact ih y z
            · have e3 : c a d = c b d := by rw [(h.eq a b).1 e1]
              have e4 : ¬ c a d = 0 := by omega
              simp only [lexC, e1, e2, e4, if_true, if_false]; intro _ h2; omega
          · by_cases e2 : c b d = 0
            · have e3 : c a d = c a b := by rw [(h.eq b d).1 e2]
              have e4 : ¬ c a d = 0 := by omega
              simp only [lexC, e1, e2, e4, if_true, if_false]; intro h1 _; omega
            · have ht := h.trans a b d
              by_cases e3 : c a d = 0
              · have hd := (h.eq a d).1 e3
                subst hd
                have := h.neg a b
                simp only [lexC, e1, e2, e3, if_true, if_false]; intro h1 h2; omega
              · simp only [lexC, e1, e2, e3, if_false]; exact ht

/-! ### Bytes, names, paths -/
def cmpI (a b : Int) : Int := if a < b then -1 else if a = b then 0 else 1
def cmpB (a b : UInt8) : Int := cmpI a.toNat b.toNat
theorem cmpB_tot : Tot cmpB where
  low := by
    intro a b; unfold cmpB cmpI; split
    · simp
    · split <;> simp
  eq := by
    intro a b; unfold cmpB cmpI
    constructor
    · intro h; split at h
      · omega
      · split at h
        · rename_i e; exact UInt8.toNat_inj.1 (by omega)
        · omega
    · rintro rfl; simp
  neg := by
    intro a b; unfold cmpB cmpI
    by_cases h : (a.toNat : Int) < b.toNat
    · rw [if_pos h, if_neg (by omega), if_neg (by omega)]; rfl
    · by_cases h' : (a.toNat : Int) = b.toNat
      · rw [if_neg h, if_pos h', if_neg (by omega), if_pos h'.symm]; rfl
      · rw [if_neg h, if_neg h', if_pos (by omega)]
  trans := by
    intro a b d; unfold cmpB cmpI
    repeat' split
    all_goals omega
def cmpN : Bs → Bs → Int := lexC cmpB
theorem cmpN_tot : Tot cmpN := cmpB_tot.lex
def cmpP : List Bs → List Bs → Int := lexC cmpN
theorem cmpP_tot : Tot cmpP := cmpN_tot.lex

def okC (c : UInt8) : Bool := decide (33 ≤ c.toNat ∧ c.toNat ≤ 126 ∧ c.toNat ≠ 47)
def nameE (l : Bs) : Int := if l = [] ∨ l = [46] ∨ l = [46, 46] then 6 else if l.all okC = true then (if 24 < l.length then 3 else 0) else 6
def firstE : List Bs → Int
  | [] => 0
  | s :: r => if nameE s = 0 then firstE r else nameE s
def checkE (p : List Bs) : Int := if 8 < p.length then 3 else firstE p
/-- The first error of Check among paths. -/
def checksE : List (List Bs) → Int
  | [] => 0
  | p :: r => if checkE p = 0 then checksE r else checkE p

theorem firstE_zero {p : List Bs} : firstE p = 0 ↔ ∀ s ∈ p, nameE s = 0 := by
  induction p with
  | nil => simp [firstE]
  | cons a r ih => rw [firstE]; split <;> simp_all
theorem checkE_zero {p : List Bs} : checkE p = 0 ↔ p.length ≤ 8 ∧ ∀ s ∈ p, nameE s = 0 := by
  unfold checkE; split
  · constructor
    · intro h; omega
    · intro h; omega
  · rw [firstE_zero]; constructor
    · intro h; exact ⟨by omega, h⟩
    · intro h; exact h.2
theorem nameE_ok {l : Bs} (h : nameE l = 0) : l ≠ [] ∧ l.length ≤ 24 ∧ ∀ c ∈ l, okC c = true := by
  unfold nameE at h
  split at h
  · omega
  · rename_i h0
    split at h
    · rename_i h1
      split at h
      · omega
      · exact ⟨fun e => h0 (.inl e), by omega, List.all_eq_true.1 h1⟩
    · omega
theorem okC_ne {c : UInt8} (h : okC c = true) : c ≠ 0 ∧ c ≠ 47 := by
  have h' := of_decide_eq_true h
  constructor
  · rintro rfl; simp at h'
  · rintro rfl; simp at h'

/-! ### Texts -/
def splitS : Bs → List Bs
  | [] => [[]]
  | c :: r => if c = 47 then [] :: splitS r else match splitS r with
    | [] => [[c]]
    | a :: t => (c :: a) :: t
theorem splitS_ne (l : Bs) : splitS l ≠ [] := by
  cases l with
  | nil => simp [splitS]
  | cons c r =>
    rw [splitS]; split
    · simp
    · split <;> simp
def joinS : List Bs → Bs
  | [] => []
  | a :: t => 47 :: (a ++ joinS t)
theorem joinS_split (l : Bs) : joinS (splitS l) = 47 :: l := by
  induction l with
  | nil => rfl
  | cons c r ih =>
    rw [splitS]; split
    · rename_i h; subst h; rw [joinS, ih]; rfl
    · split
      · rename_i h; exact absurd h (splitS_ne r)
      · rename_i a t h; rw [h, joinS] at ih; rw [joinS]; simp at ih ⊢; exact ih
/-- What stands before the first slash, and the rest. -/
theorem splitS_none {l : Bs} (h : 47 ∉ l) : splitS l = [l] := by
  induction l with
  | nil => rfl
  | cons c r ih =>
    simp at h
    rw [splitS, if_neg (fun e => h.1 e.symm), ih h.2]
theorem splitS_app {a r : Bs} (h : 47 ∉ a) : splitS (a ++ 47 :: r) = a :: splitS r := by
  induction a with
  | nil => rw [List.nil_append, splitS, if_pos rfl]
  | cons c t ih =>
    simp at h
    rw [List.cons_append, splitS, if_neg (fun e => h.1 e.symm), ih h.2]
theorem splitS_join {a : Bs} {p : List Bs} (h : ∀ s ∈ a :: p, 47 ∉ s) : splitS (a ++ joinS p) = a :: p := by
  induction p generalizing a with
  | nil => rw [joinS, List.append_nil]; exact splitS_none (h a (by simp))
  | cons b t ih =>
    rw [joinS, splitS_app (h a (by simp)), ih (fun s hs => h s (by simp at hs ⊢; right; exact hs))]
def textL (p : List Bs) : Bs := if p = [] then [47] else joinS p
def parseE : Bs → Int
  | [] => 6
  | c :: r => if c = 47 then (if r = [] then 0 else checkE (splitS r)) else 6
def parseP (l : Bs) : List Bs := if parseE l = 0 then (if l = [47] then [] else splitS l.tail) else []
def printE (p : List Bs) : Int := checkE p
def printT (p : List Bs) : Bs := if checkE p = 0 then textL p else []

theorem no_slash {p : List Bs} (h : checkE p = 0) : ∀ s ∈ p, 47 ∉ s := fun s hs hm => (okC_ne ((nameE_ok ((checkE_zero.1 h).2 s hs)).2.2 47 hm)).2 rfl
/-- Print of what Parse returns is the text. -/
theorem text_parse {l : Bs} (h : parseE l = 0) : checkE (parseP l) = 0 ∧ textL (parseP l) = l := by
  unfold parseP
  rw [if_pos h]
  cases l with
  | nil => simp [parseE] at h
  | cons c r =>
    rw [parseE] at h
    split at h
    · rename_i hc; subst hc
      split at h
      · rename_i hr; subst hr; simp [textL, checkE, firstE]
      · rename_i hr
        rw [if_neg (by simpa using hr)]
        refine ⟨h, ?_⟩
        show textL (splitS r) = _
        rw [textL, if_neg (splitS_ne r), joinS_split]
    · omega
/-- Parse of what Print returns is the path. -/
theorem parse_text {p : List Bs} (h : checkE p = 0) : parseE (textL p) = 0 ∧ parseP (textL p) = p := by
  cases p with
  | nil => simp [textL, parseE, parseP]
  | cons a t =>
    have hs := splitS_join (a := a) (p := t) (no_slash h)
    have ha := (nameE_ok ((checkE_zero.1 h).2 a (by simp))).1
    have hn : a ++ joinS t ≠ [] := by simp [ha]
    have h0 : parseE (textL (a :: t)) = 0 := by
      rw [textL, if_neg (by simp), joinS, parseE, if_pos rfl, if_neg hn, hs]; exact h
    refine ⟨h0, ?_⟩
    have ht : textL (a :: t) = 47 :: (a ++ joinS t) := by rw [textL, if_neg (by simp), joinS]
    rw [parseP, if_pos h0, ht, if_neg (fun e => hn (by rw [List.cons.injEq] at e; exact e.2))]
    exact hs

/-! ### Common beginnings -/
def comN : List Bs → List Bs → Nat
  | a :: p, b :: q => if a = b then comN p q + 1 else 0
  | _, _ => 0
theorem comN_le : ∀ p q : List Bs, comN p q ≤ p.length ∧ comN p q ≤ q.length
  | [], q => by simp [comN]
  | a :: p, [] => by simp [comN]
  | a :: p, b :: q => by
    have := comN_le p q
    rw [comN]; split <;> simp <;> omega
theorem comN_take : ∀ p q : List Bs, p.take (comN p q) = q.take (comN p q)
  | [], q => by simp [comN]
  | a :: p, [] => by simp [comN]
  | a :: p, b :: q => by
    rw [comN]; split
    · rename_i h; rw [List.take_succ_cons, List.take_succ_cons, comN_take p q, h]
    · rfl
theorem comN_pre {p q : List Bs} : comN p q = q.length ↔ q <+: p := by
  induction q generalizing p with
  | nil => cases p <;> simp [comN]
  | cons b q ih =>
    cases p with
    | nil => simp [comN]
    | cons a p =>
      rw [comN]; split
      · rename_i h; subst h; rw [List.length_cons, Nat.add_right_cancel_iff, ih, List.cons_prefix_cons]; simp
      · rename_i h; rw [List.cons_prefix_cons]; constructor
        · intro e; simp at e
        · rintro ⟨e, _⟩; exact absurd e.symm h
/-- The program's way: step by step, up to where they part. -/
theorem comN_at {p q : List Bs} (k : Nat) (hp : k ≤ p.length) (hq : k ≤ q.length) (he : ∀ j (h : j < k), p[j]'(by omega) = q[j]'(by omega))
    (hend : k = p.length ∨ k = q.length ∨ ∃ (h1 : k < p.length) (h2 : k < q.length), p[k] ≠ q[k]) : comN p q = k := by
  induction k generalizing p q with
  | zero =>
    cases p with
    | nil => simp [comN]
    | cons a p =>
      cases q with
      | nil => simp [comN]
      | cons b q =>
        rcases hend with h | h | ⟨h1, h2, h⟩
        · simp at h
        · simp at h
        · rw [comN, if_neg (by simpa using h)]
  | succ k ih =>
    cases p with
    | nil => simp at hp
    | cons a p =>
      cases q with
      | nil => simp at hq
      | cons b q =>
        have h0 := he 0 (by omega)
        simp at h0
        rw [comN, if_pos h0, ih (by simpa using hp) (by simpa using hq) (fun j h => by have := he (j + 1) (by omega); simpa using this)]
        rcases hend with h | h | ⟨h1, h2, h⟩
        · left; simpa using h
        · right; left; simpa using h
        · right; right; exact ⟨by simpa using h1, by simpa using h2, by simpa using h⟩
/-- The same of the order. -/
theorem cmpP_at {p q : List Bs} (k : Nat) (hp : k ≤ p.length) (hq : k ≤ q.length) (he : ∀ j (h : j < k), p[j]'(by omega) = q[j]'(by omega)) :
    cmpP p q = cmpP (p.drop k) (q.drop k) := by
  induction k generalizing p q with
  | zero => rfl
  | succ k ih =>
    cases p with
    | nil => simp at hp
    | cons a p =>
      cases q with
      | nil => simp at hq
      | cons b q =>
        have h0 := he 0 (by omega)
        simp at h0
        rw [List.drop_succ_cons, List.drop_succ_cons, ← ih (by simpa using hp) (by simpa using hq) (fun j h => by have := he (j + 1) (by omega); simpa using this)]
        show lexC cmpN _ _ = _
        rw [lexC, if_pos ((cmpN_tot.eq a b).2 h0)]; rfl
theorem cmpP_diff {p q : List Bs} (k : Nat) (hp : k < p.length) (hq : k < q.length) (he : ∀ j (h : j < k), p[j]'(by omega) = q[j]'(by omega)) (hd : p[k] ≠ q[k]) :
    cmpP p q = cmpN p[k] q[k] := by
  rw [cmpP_at k (by omega) (by omega) he, List.drop_eq_getElem_cons hp, List.drop_eq_getElem_cons hq]
  show lexC cmpN _ _ = _
  rw [lexC, if_neg (fun e => hd ((cmpN_tot.eq _ _).1 e))]
theorem cmpP_end {p q : List Bs} (he : ∀ j (h1 : j < p.length) (h2 : j < q.length), p[j] = q[j]) : cmpP p q = cmpI p.length q.length := by
  by_cases h : p.length ≤ q.length
  · rw [cmpP_at p.length (Nat.le_refl _) h (fun j hj => he j hj (by omega)), List.drop_eq_nil_of_le (Nat.le_refl _)]
    cases e : q.drop p.length with
    | nil =>
      have : q.length ≤ p.length := List.drop_eq_nil_iff.1 e
      show (0 : Int) = _
      unfold cmpI; rw [if_neg (by omega), if_pos (by omega)]
    | cons b t =>
      have : p.length < q.length := by
        have := congrArg List.length e; simp at this; omega
      show (-1 : Int) = _
      unfold cmpI; rw [if_pos (by omega)]
  · rw [cmpP_at q.length (by omega) (Nat.le_refl _) (fun j hj => he j (by omega) hj), List.drop_eq_nil_of_le (Nat.le_refl q.length)]
    cases e : p.drop q.length with
    | nil =>
      have : p.length ≤ q.length := List.drop_eq_nil_iff.1 e
      omega
    | cons b t =>
      show (1 : Int) = _
      unfold cmpI; rw [if_neg (by omega), if_neg (by omega)]

/-! ### Names as arrays -/
def padL (l : Bs) : Bs := l ++ List.replicate (24 - l.length) 0
theorem padL_len {l : Bs} (h : l.length ≤ 24) : (padL l).length = 24 := by simp [padL]; omega
theorem cmp_pad : ∀ (a b : Bs) (m n : Nat), a.length + m = b.length + n → (∀ c ∈ a, c ≠ 0) → (∀ c ∈ b, c ≠ 0) →
    lexC cmpB (a ++ List.replicate m 0) (b ++ List.replicate n 0) = lexC cmpB a b
  | [], [], m, n, h, _, _ => by
    have : m = n := by simpa using h
    subst this
    simp only [List.nil_append]
    exact lexC_self cmpB_tot _
  | [], b :: y, m, n, h, _, hb => by
    cases m with
    | zero => simp at h; omega
    | succ m =>
      have h0 : b ≠ 0 := hb b (by simp)
      have h1 : ¬ b.toNat = 0 := fun e => h0 (UInt8.toNat_inj.1 (by simpa using e))
      have : cmpB 0 b = -1 := by unfold cmpB cmpI; rw [if_pos (by simp; omega)]
      rw [List.nil_append, List.replicate_succ, List.cons_append]
      show (if cmpB 0 b = 0 then _ else cmpB 0 b) = -1
      rw [this]; rfl
  | a :: x, [], m, n, h, ha, _ => by
    cases n with
    | zero => simp at h
    | succ n =>
      have h0 : a ≠ 0 := ha a (by simp)
      have h1 : ¬ a.toNat = 0 := fun e => h0 (UInt8.toNat_inj.1 (by simpa using e))
      have : cmpB a 0 = 1 := by unfold cmpB cmpI; rw [if_neg (by simp), if_neg (by simpa using h1)]
      rw [List.nil_append, List.replicate_succ, List.cons_append]
      show (if cmpB a 0 = 0 then _ else cmpB a 0) = 1
      rw [this]; rfl
  | a :: x, b :: y, m, n, h, ha, hb => by
    rw [List.cons_append, List.cons_append, lexC, lexC]
    split
    · exact cmp_pad x y m n (by simp at h; omega) (fun c hc => ha c (by simp [hc])) (fun c hc => hb c (by simp [hc]))
    · rfl
theorem cmp_padL {a b : Bs} (ha : nameE a = 0) (hb : nameE b = 0) : lexC cmpB (padL a) (padL b) = cmpN a b := by
  have h1 := nameE_ok ha; have h2 := nameE_ok hb
  exact cmp_pad a b _ _ (by omega) (fun c hc => (okC_ne (h1.2.2 c hc)).1) (fun c hc => (okC_ne (h2.2.2 c hc)).1)
theorem padL_inj {a b : Bs} (ha : nameE a = 0) (hb : nameE b = 0) : padL a = padL b ↔ a = b := by
  constructor
  · intro h
    exact (cmpN_tot.eq a b).1 (by rw [← cmp_padL ha hb, h]; exact lexC_self cmpB_tot _)
  · rintro rfl; rfl

/-! ### Moves -/
theorem cmpP_under {p q : List Bs} (h : q <+: p) : 0 ≤ cmpP p q := by
  obtain ⟨t, rfl⟩ := h
  induction q with
  | nil => cases t <;> simp [cmpP, lexC]
  | cons a q ih => 
    show 0 ≤ lexC cmpN _ _
    rw [List.cons_append, lexC, if_pos ((cmpN_tot.eq a a).2 rfl)]; exact ih
theorem cmpP_app (t p q : List Bs) : cmpP (t ++ p) (t ++ q) = cmpP p q := by
  induction t with
  | nil => rfl
  | cons a t ih =>
    show lexC cmpN _ _ = _
    rw [List.cons_append, List.cons_append, lexC, if_pos ((cmpN_tot.eq a a).2 rfl)]; exact ih

end Go.Proofs.Ytbgfeonlnhlbfaa
