/- Plain values of package blocks: layouts, lists of blocks, states as lists of bools. -/
import Derived.Test.YtkknelcolbdphaaProg
import Derived.WalkKit
import Derived.Lib.Hide
namespace Go.Proofs.Ytkknelcolbdphaa

/-- A layout. -/
structure Lay where
  s : Int
  j : Int
  n : Int
def inB (a lo hi : Int) : Bool := decide (lo ≤ a) && decide (a ≤ hi)
def isLay (l : Lay) : Bool := inB l.s 64 256 && (inB l.j 8 96 && inB l.n 1 60)
def blkN (l : Lay) : Int := l.s - 2 - l.j - l.n
def regE (l : Lay) : Int := if isLay l then (if blkN l < 8 then 5 else 0) else 7
def chkE (l : Lay) (U : List Bool) : Int := if regE l = 0 then (if (U.length : Int) = blkN l then 0 else 6) else regE l
structure LayOK (l : Lay) : Prop where
  s0 : 64 ≤ l.s
  s1 : l.s ≤ 256
  j0 : 8 ≤ l.j
  j1 : l.j ≤ 96
  n0 : 1 ≤ l.n
  n1 : l.n ≤ 60
theorem isLay_ok {l : Lay} (h : isLay l = true) : LayOK l := by
  unfold isLay inB at h
  simp at h
  exact ⟨h.1.1, h.1.2, h.2.1.1, h.2.1.2, h.2.2.1, h.2.2.2⟩
theorem regE_zero {l : Lay} (h : regE l = 0) : LayOK l ∧ 8 ≤ blkN l := by
  unfold regE at h
  split at h
  · rename_i hl
    split at h
    · cases h
    · exact ⟨isLay_ok hl, by omega⟩
  · cases h
theorem regE_cases (l : Lay) : regE l = 0 ∨ regE l = 5 ∨ regE l = 7 := by
  unfold regE; split
  · split <;> simp
  · simp
theorem chkE_zero {l : Lay} {U : List Bool} (h : chkE l U = 0) : regE l = 0 ∧ (U.length : Int) = blkN l := by
  unfold chkE at h
  by_cases hr : regE l = 0
  · rw [if_pos hr] at h
    split at h
    · rename_i e; exact ⟨hr, e⟩
    · cases h
  · rw [if_neg hr] at h; exact absurd h hr
theorem chkE_len {l : Lay} {U : List Bool} (h : chkE l U = 0) : 8 ≤ U.length ∧ U.length ≤ 245 := by
  obtain ⟨hr, e⟩ := chkE_zero h
  obtain ⟨ok, h8⟩ := regE_zero hr
  have := ok.s1; have := ok.j0; have := ok.n0
  unfold blkN at *
  omega

/-! ### Free blocks -/
/-- The free ones of the first k blocks, from a on. -/
def freeP (U : List Bool) (a k : Nat) : List Nat := ((List.range k).map fun i => (a + i) % U.length).filter fun b => !U.getD b false
def freeL (U : List Bool) (a : Nat) : List Nat := freeP U a U.length
theorem freeP_zero (U : List Bool) (a : Nat) : freeP U a 0 = [] := rfl
theorem freeP_succ (U : List Bool) (a k : Nat) : freeP U a (k + 1) = if U.getD ((a + k) % U.length) false then freeP U a k else freeP U a k ++ [(a + k) % U.length] := by
  unfold freeP
  rw [List.range_succ, List.map_append, List.filter_append]
  cases h : U.getD ((a + k) % U.length) false <;> simp only [List.map_cons, List.map_nil, List.filter_cons, List.filter_nil, h] <;> simp
theorem freeP_used {U : List Bool} {a k : Nat} (h : U.getD ((a + k) % U.length) false = true) : freeP U a (k + 1) = freeP U a k := by rw [freeP_succ, h]; rfl
theorem freeP_free {U : List Bool} {a k : Nat} (h : U.getD ((a + k) % U.length) false = false) : freeP U a (k + 1) = freeP U a k ++ [(a + k) % U.length] := by rw [freeP_succ, h]; rfl
theorem freeP_len (U : List Bool) (a k : Nat) : (freeP U a k).length ≤ k := by
  unfold freeP; exact Nat.le_trans (List.length_filter_le _ _) (by simp)
theorem freeP_pre (U : List Bool) (a : Nat) {k m : Nat} (h : k ≤ m) : freeP U a k <+: freeP U a m := by
  obtain ⟨d, rfl⟩ := Nat.exists_eq_add_of_le h
  induction d with
  | zero => exact List.prefix_refl _
  | succ d ih =>
    refine (ih (by omega)).trans ?_
    rw [← Nat.add_assoc, freeP_succ]
    split
    · exact List.prefix_refl _
    · exact List.prefix_append _ _
theorem freeP_mem {U : List Bool} {a k b : Nat} (h : b ∈ freeP U a k) (hn : 0 < U.length) : b < U.length ∧ U.getD b false = false := by
  unfold freeP at h
  obtain ⟨h1, h2⟩ := List.mem_filter.1 h
  obtain ⟨i, _, rfl⟩ := List.mem_map.1 h1
  exact ⟨Nat.mod_lt _ hn, by simpa using h2⟩
theorem range_rot (n a : Nat) (h : a ≤ n) : (List.range n).map (fun i => (a + i) % n) = List.range' a (n - a) ++ List.range a := by
  apply List.ext_getElem
  · simp; omega
  · intro i h1 h2
    simp at h1
    simp only [List.getElem_map, List.getElem_range]
    by_cases hi : i < n - a
    · rw [List.getElem_append_left (by simpa using hi), List.getElem_range', Nat.mod_eq_of_lt (by omega)]; omega
    · rw [List.getElem_append_right (by simp; omega), List.getElem_range, List.length_range']
      have : a + i = (a + i - n) + n := by omega
      rw [this, Nat.add_mod_right, Nat.mod_eq_of_lt (by omega)]; omega
theorem freeL_len (U : List Bool) (a : Nat) (h : a ≤ U.length) : (freeL U a).length = (freeL U 0).length := by
  unfold freeL freeP
  rw [range_rot _ _ h, range_rot _ 0 (by omega)]
  rw [List.filter_append, List.filter_append, List.length_append, List.length_append]
  simp only [List.range_zero, List.filter_nil, List.length_nil, Nat.add_zero, Nat.sub_zero]
  have e : List.range' 0 U.length = List.range a ++ List.range' a (U.length - a) := by
    rw [List.range_eq_range']
    have := List.range'_append_1 (s := 0) (m := a) (n := U.length - a)
    rw [Nat.zero_add] at this
    rw [this]
    congr 1
    omega
  rw [e, List.filter_append, List.length_append]
  omega
/-- How many of the first k are free. -/
theorem mod_small {k n : Nat} (h : k < n) : (0 + k) % n = k := by rw [Nat.zero_add]; exact Nat.mod_eq_of_lt h

/-! ### Blocks that turn -/
def withL (U : List Bool) (L : List Nat) (u : Bool) : List Bool := L.foldl (fun V b => V.set b u) U
theorem withL_len (L : List Nat) (u : Bool) : ∀ U, (withL U L u).length = U.length := by
  induction L with
  | nil => intro U; rfl
  | cons b r ih => intro U; show (withL (U.set b u) r u).length = _; rw [ih, List.length_set]
theorem withL_snoc (U : List Bool) (L : List Nat) (b : Nat) (u : Bool) : withL U (L ++ [b]) u = (withL U L u).set b u := by
  unfold withL; rw [List.foldl_append]; rfl
theorem getD_set (U : List Bool) (b i : Nat) (u d : Bool) (hb : b < U.length) : (U.set b u).getD i d = if i = b then u else U.getD i d := by
  rw [List.getD_eq_getElem?_getD, List.getD_eq_getElem?_getD, List.getElem?_set]
  by_cases h : b = i
  · subst h; simp [hb]
  · rw [if_neg h, if_neg (fun e => h e.symm)]
theorem withL_get (u : Bool) (i : Nat) (d : Bool) : ∀ (L : List Nat) (U : List Bool), (∀ b ∈ L, b < U.length) → (withL U L u).getD i d = if i ∈ L then u else U.getD i d
  | [], U, _ => by simp [withL]
  | b :: r, U, h => by
    show (withL (U.set b u) r u).getD i d = _
    rw [withL_get u i d r (U.set b u) (fun c hc => by rw [List.length_set]; exact h c (List.mem_cons_of_mem _ hc)), getD_set _ _ _ _ _ (h b (by simp))]
    by_cases h1 : i ∈ r
    · simp [h1]
    · by_cases h2 : i = b
      · simp [h2]
      · simp [h1, h2]

/-! ### Lists of blocks -/
def okAt (n : Int) (L : List Int) (k : Nat) : Int := if inB (L.getD k 0) 0 (n - 1) then (if L.getD k 0 ∈ L.take k then 8 else 0) else 7
/-- The error of the first k of a list. -/
def listN (n : Int) (L : List Int) : Nat → Int
  | 0 => 0
  | k + 1 => if listN n L k = 0 then okAt n L k else listN n L k
def listE (n : Int) (L : List Int) : Int := listN n L L.length
theorem listN_stop {n : Int} {L : List Int} {k : Nat} (h : listN n L k ≠ 0) : ∀ m, k ≤ m → listN n L m = listN n L k := by
  intro m hm
  obtain ⟨d, rfl⟩ := Nat.exists_eq_add_of_le hm
  induction d with
  | zero => rfl
  | succ d ih => rw [← Nat.add_assoc, listN, ih (by omega), if_neg h]
theorem listN_ok {n : Int} {L : List Int} {m : Nat} (h : listN n L m = 0) : ∀ k, k < m → okAt n L k = 0 := by
  induction m with
  | zero => intro k hk; omega
  | succ m ih =>
    intro k hk
    rw [listN] at h
    by_cases h0 : listN n L m = 0
    · rw [if_pos h0] at h
      by_cases e : k = m
      · rw [e]; exact h
      · exact ih h0 k (by omega)
    · rw [if_neg h0] at h; exact absurd h h0
theorem okAt_in {n : Int} {L : List Int} {k : Nat} (h : okAt n L k = 0) : 0 ≤ L.getD k 0 ∧ L.getD k 0 < n := by
  unfold okAt at h
  split at h
  · rename_i hi
    unfold inB at hi
    rw [Bool.and_eq_true, decide_eq_true_eq, decide_eq_true_eq] at hi
    omega
  · cases h
/-- The error that blocks are so already, in the first k. -/
def anyP (U : List Bool) (L : List Int) (u : Bool) (k : Nat) : Bool := (L.take k).any fun b => U.getD b.toNat false == u
def putE (l : Lay) (U : List Bool) (L : List Int) (u : Bool) (x : Int) : Int :=
  if chkE l U = 0 then (if listE U.length L = 0 then (if anyP U L u L.length then x else 0) else listE U.length L) else chkE l U
def putU (l : Lay) (U : List Bool) (L : List Int) (u : Bool) (x : Int) : List Bool := if putE l U L u x = 0 then withL U (L.map Int.toNat) u else U
/-- Alloc. -/
def allocE (l : Lay) (U : List Bool) (near many : Int) : Int :=
  if chkE l U = 0 then (if inB near 0 (U.length - 1) && decide (0 ≤ many) then (if ((freeL U 0).length : Int) < many then 11 else 0) else 7) else chkE l U
def allocL (l : Lay) (U : List Bool) (near many : Int) : List Nat := if allocE l U near many = 0 then (freeL U near.toNat).take many.toNat else []
def allocU (l : Lay) (U : List Bool) (near many : Int) : List Bool := if allocE l U near many = 0 then withL U ((freeL U near.toNat).take many.toNat) true else U
def countV (l : Lay) (U : List Bool) : Nat := if chkE l U = 0 then (freeL U 0).length else 0
end Go.Proofs.Ytkknelcolbdphaa
