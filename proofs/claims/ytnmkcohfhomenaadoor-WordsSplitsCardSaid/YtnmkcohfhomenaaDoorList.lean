/- List. -/
import Derived.Test.YtnmkcohfhomenaaDoorRun
import Derived.Test.YtnmkcohfhomenaaDoorShelf
import Derived.BigQuiet
import Derived.Deep.AppendLies
import Derived.Deep.RegionHeld3
import Derived.Deep.DrawnRows
namespace Go.Proofs.YtnmkcohfhomenaaDoor
open Go.RowKit
attribute [local go_sem ↓] Go.wp_at_zero Go.wp_at_succ

/-- The ints l lie in memory as the slice v. -/
def IntsAt (w : World) (v : Value) (l : List Int) : Prop :=
  (∃ a c, v = .slice a 0 c ∧ l = []) ∨
  ∃ b o c, v = .slice (some ⟨b, o, none⟩) l.length c ∧ b < w.heap.size ∧ ∀ k (h : k < l.length), w.cell? ⟨b, o + k, none⟩ = some (.int .i64 l[k])

def runsA (f p : Int) : List Int → List (List UInt8)
  | [] => [wrS f p]
  | x :: xs => if x = p + 1 then runsA f x xs else wrS f p :: runsA x x xs
def listP : List Int → List (List UInt8)
  | [] => []
  | x :: xs => runsA x x xs
def outB (l : List Int) : Bool := l.any fun n => decide (n < 0) || decide (1000000000 < n)
def ascB : List Int → Bool
  | [] => true
  | [_] => true
  | x :: y :: r => decide (x < y) && ascB (y :: r)
def listN (l : List Int) : Int := if 500 < l.length then 3 else if outB l then 7 else if ascB l then 0 else 6
def listS (l : List Int) : List UInt8 := if listN l = 0 then (if l = [] then [45] else Lib.join (listP l) [44]) else []

def listV (l : List Int) : Value := .tuple #[.string ⟨(listS l).toArray⟩, .int .i64 (listN l)]
theorem listV_of {l : List Int} {n : Int} {s : List UInt8} (h1 : listN l = n) (h2 : listS l = s) : listV l = .tuple #[.string ⟨s.toArray⟩, .int .i64 n] := by unfold listV; rw [h1, h2]

theorem runsA_len (l : List Int) : ∀ f p, (runsA f p l).length ≤ l.length + 1 := by
  induction l with
  | nil => intro f p; simp [runsA]
  | cons x xs ih => intro f p; unfold runsA; split
                    · have := ih f x; simp; omega
                    · have := ih x x; simp; omega
theorem listP_len (l : List Int) : (listP l).length ≤ l.length := by
  cases l with
  | nil => simp [listP]
  | cons x xs => exact runsA_len xs x x
theorem wrS_len (a b : Int) (a0 : 0 ≤ a) (a1 : a ≤ 1000000000) (b0 : 0 ≤ b) (b1 : b ≤ 1000000000) : (wrS a b).length ≤ 43 := by
  have h1 : (Lib.itoa a).length ≤ 21 := Lib.itoa_length_le a (by omega) (by omega)
  have h2 : (Lib.itoa b).length ≤ 21 := Lib.itoa_length_le b (by omega) (by omega)
  unfold wrS; split
  · omega
  · simp; omega
theorem runsA_all (l : List Int) (h : ∀ n ∈ l, 0 ≤ n ∧ n ≤ 1000000000) : ∀ f p, 0 ≤ f → f ≤ 1000000000 → 0 ≤ p → p ≤ 1000000000 → ∀ s ∈ runsA f p l, s.length ≤ 43 := by
  induction l with
  | nil => intro f p a b c d s hs; simp [runsA] at hs; subst hs; exact wrS_len _ _ a b c d
  | cons x xs ih =>
    intro f p a b c d s hs
    have hx := h x (by simp)
    have h' : ∀ n ∈ xs, 0 ≤ n ∧ n ≤ 1000000000 := fun n hn => h n (by simp [hn])
    unfold runsA at hs; split at hs
    · exact ih h' f x a b hx.1 hx.2 s hs
    · rcases List.mem_cons.1 hs with rfl | hs
      · exact wrS_len _ _ a b c d
      · exact ih h' x x hx.1 hx.2 hx.1 hx.2 s hs
theorem listP_all (l : List Int) (h : ∀ n ∈ l, 0 ≤ n ∧ n ≤ 1000000000) : ∀ s ∈ listP l, s.length ≤ 43 := by
  cases l with
  | nil => intro s hs; simp [listP] at hs
  | cons x xs => have hx := h x (by simp)
                 exact runsA_all xs (fun n hn => h n (by simp [hn])) x x hx.1 hx.2 hx.1 hx.2
theorem outB_false {l : List Int} (h : outB l = false) : ∀ n ∈ l, 0 ≤ n ∧ n ≤ 1000000000 := by
  unfold outB at h; rw [List.any_eq_false] at h
  intro n hn; have := h n hn; simp at this; omega
theorem outB_at {l : List Int} (k : Nat) (h : k < l.length) (hx : l[k] < 0 ∨ 1000000000 < l[k]) : outB l = true := by
  unfold outB; rw [List.any_eq_true]; exact ⟨l[k], List.getElem_mem h, by simpa using hx⟩
theorem ascB_iff : ∀ l : List Int, ascB l = true ↔ ∀ k (h : k + 1 < l.length), l[k] < l[k + 1]
  | [] => by simp [ascB]
  | [x] => by simp [ascB]
  | x :: y :: r => by
    rw [ascB, Bool.and_eq_true, ascB_iff (y :: r)]
    constructor
    · rintro ⟨h1, h2⟩ k hk
      cases k with
      | zero => simpa using h1
      | succ k => exact h2 k (by simpa using hk)
    · intro h
      refine ⟨by simpa using h 0 (by simp), fun k hk => ?_⟩
      exact h (k + 1) (by simpa using hk)
theorem ascB_no {l : List Int} (k : Nat) (h : k + 1 < l.length) (hx : l[k + 1] ≤ l[k]) : ascB l = false := by
  rw [← Bool.not_eq_true, ascB_iff]; intro hh; have := hh k h; omega

/-- What the third loop has done: P parts are written, the run from place f is open. -/
def Open3 (l : List Int) (P : List (List UInt8)) (f i : Nat) : Prop :=
  f ≤ i ∧ i ≤ l.length ∧ P.length ≤ i ∧ (i = l.length → listP l = P) ∧ ∀ (hi : i < l.length), listP l = P ++ runsA (l[f]?.getD 0) l[i] (l.drop (i + 1))
theorem open3_start (l : List Int) : Open3 l [] 0 0 := by
  refine ⟨Nat.le_refl _, Nat.zero_le _, Nat.le_refl _, fun h => ?_, fun hi => ?_⟩
  · have : l = [] := List.eq_nil_of_length_eq_zero h.symm
    subst this; rfl
  · cases l with
    | nil => exact absurd hi (by simp)
    | cons x xs => simp [listP]
theorem open3_last {l : List Int} {P f i} (h : Open3 l P f i) (hi : i < l.length) (hl : i + 1 = l.length) : Open3 l (P ++ [wrS (l[f]?.getD 0) l[i]]) (i + 1) (i + 1) := by
  obtain ⟨h1, h2, h3, h4, h5⟩ := h
  refine ⟨Nat.le_refl _, by omega, by simp; omega, fun _ => ?_, fun hi => by omega⟩
  rw [h5 hi, List.drop_of_length_le (by omega)]; rfl
theorem open3_cut {l : List Int} {P f i} (h : Open3 l P f i) (hi : i + 1 < l.length) (hl : l[i + 1] ≠ l[i] + 1) : Open3 l (P ++ [wrS (l[f]?.getD 0) l[i]]) (i + 1) (i + 1) := by
  obtain ⟨h1, h2, h3, h4, h5⟩ := h
  refine ⟨Nat.le_refl _, by omega, by simp; omega, fun e => by omega, fun _ => ?_⟩
  have e : (l[i + 1]?.getD 0) = l[i + 1] := by rw [List.getElem?_eq_getElem hi]; rfl
  rw [h5 (by omega), List.drop_eq_getElem_cons (by omega : i + 1 < l.length), runsA, if_neg hl, e, List.append_assoc]; rfl
theorem open3_go {l : List Int} {P f i} (h : Open3 l P f i) (hi : i + 1 < l.length) (hl : l[i + 1] = l[i] + 1) : Open3 l P f (i + 1) := by
  obtain ⟨h1, h2, h3, h4, h5⟩ := h
  refine ⟨by omega, by omega, by omega, fun e => by omega, fun _ => ?_⟩
  rw [h5 (by omega), List.drop_eq_getElem_cons (by omega : i + 1 < l.length), runsA, if_pos hl]

def strCells (P : List (List UInt8)) : List Value := P.map fun p => .string ⟨p.toArray⟩
theorem strCells_snoc (P : List (List UInt8)) (p : List UInt8) : strCells (P ++ [p]) = strCells P ++ [.string ⟨p.toArray⟩] := by simp [strCells]

theorem joinTail_len (r : List (List UInt8)) (h : ∀ s ∈ r, s.length ≤ 43) : (Lib.joinTail [44] r).length ≤ 44 * r.length := by
  induction r with
  | nil => simp [Lib.joinTail]
  | cons x xs ih =>
    have h1 := h x (by simp)
    have h2 := ih (fun s hs => h s (by simp [hs]))
    have e : Lib.joinTail [44] (x :: xs) = (44 :: x) ++ Lib.joinTail [44] xs := rfl
    rw [e, List.length_append, List.length_cons, List.length_cons]; omega
theorem join_len (r : List (List UInt8)) (h : ∀ s ∈ r, s.length ≤ 43) : (Lib.join r [44]).length ≤ 44 * r.length := by
  cases r with
  | nil => simp [Lib.join_nil]
  | cons x xs =>
    have h1 := h x (by simp)
    have h2 := joinTail_len xs (fun s hs => h s (by simp [hs]))
    rw [Lib.join_cons, List.length_append, List.length_cons]; omega
theorem runsA_ne (l : List Int) : ∀ f p, 0 < (runsA f p l).length := by
  induction l with
  | nil => intro f p; simp [runsA]
  | cons x xs ih => intro f p; unfold runsA; split
                    · exact ih f x
                    · simp
/-- The strings P lie in memory as the slice v. -/
def StrsAt (w : World) (v : Value) (P : List (List UInt8)) : Prop :=
  (∃ c, v = .slice none 0 c ∧ P = []) ∨ ∃ g c, v = .slice (some ⟨g, 0, none⟩) P.length c ∧ g < w.heap.size ∧ P.length ≤ c ∧ ∀ j x, (P.map fun p => (⟨p.toArray⟩ : ByteArray))[j]? = some x → w.cell? ⟨g, 0 + j, none⟩ = some (.string x)
theorem strsAt_of_row {W : World} {base : Nat} {v : Value} {P : List (List UInt8)} (h : W.ownsRow base 9 1 v P.length (strCells P)) : StrsAt W v P := by
  rcases h.2 with ⟨rfl, h0⟩ | ⟨g, cap, cur, rfl, _, hg, hn, _, _, _⟩
  · exact .inl ⟨0, rfl, List.eq_nil_of_length_eq_zero h0⟩
  · refine .inr ⟨g, cap, rfl, (Array.getElem?_eq_some_iff.1 hg).1, hn, fun j x hj => ?_⟩
    have hj' : (strCells P)[j]? = some (.string x) := by
      unfold strCells; rw [List.getElem?_map] at hj ⊢
      cases hp : P[j]? with
      | none => rw [hp] at hj; cases hj
      | some p => rw [hp] at hj; cases hj; rfl
    have e0 := h.cells (g := g) rfl _ _ hj'
    rw [addr_add] at e0
    rw [Nat.zero_add]
    exact e0
theorem map_data (P : List (List UInt8)) : (P.map fun p => (⟨p.toArray⟩ : ByteArray)).map (·.data.toList) = P := by
  rw [List.map_map]; exact (List.map_congr_left (fun x _ => rfl)).trans (List.map_id _)
/-- strings.Join with a comma. -/
theorem joinC_any (v : Value) (P : List (List UInt8)) (w : World) (h : StrsAt w v P) (hN : P.length ≤ 1000) (hl : ∀ s ∈ P, s.length ≤ 43) :
    Calls Tryd.prog 59 #[v, .string ⟨#[44]⟩] w fun e w' => e = .returned (.string ⟨(Lib.join P [44]).toArray⟩) ∧ Below w.heap.size w w' := by
  rcases h with ⟨c, rfl, rfl⟩ | ⟨g, c, rfl, hg, hc, hcells⟩
  · refine (Tryd.strings_Join_none none c ⟨#[44]⟩ w).mono ?_
    rintro e w' ⟨rfl, rfl⟩
    exact ⟨rfl, Below.refl _ _⟩
  · have hj := join_len P hl
    have := Tryd.strings_Join g 0 c (P.map fun p => (⟨p.toArray⟩ : ByteArray)) ⟨#[44]⟩ w hcells hg (by rw [List.length_map]; omega) (by rw [List.length_map]; exact hc) (by rw [map_data]; show (Lib.join P [44]).length ≤ _; omega)
    rw [map_data, List.length_map] at this
    exact this

theorem row_drewN {w : World} {base t s n : Nat} {v : Value} {xs : List Value} (h : w.ownsRow base t s v n xs) (k : Nat) : (w.drewN k).ownsRow base t s v n xs := h

theorem Tryd.infoString : (Tryd.prog.info? 9).map (fun i => (i.zero, i.size, i.bytes)) = some (some (.string ⟨#[]⟩), 1, 16) := by kernel_rfl

set_option maxHeartbeats 1000000 in
set_option maxRecDepth 100000 in
theorem list_some (b o c : Nat) (l : List Int) (w : World) (hE : EnvD w) (hb : b < w.heap.size) (hl : l.length ≤ 140737488355328) (hcap : l.length ≤ c)
    (hc : ∀ k (h : k < l.length), w.cell? ⟨b, o + k, none⟩ = some (.int .i64 l[k])) :
    Calls Tryd.prog 30 #[.slice (some ⟨b, o, none⟩) l.length c] w fun e w' => e = .returned (listV l) ∧ Below w.heap.size w w' := by
  by_cases h500 : 500 < l.length
  · have HN : Hid (listN l = 3) := Lib.hid (by unfold listN; rw [if_pos h500])
    have HS : Hid (listS l = []) := Lib.hid (by unfold listS; rw [HN.out]; rfl)
    have HF := Lib.hid (listV_of HN.out HS.out)
    go_enter Tryd.func30, Tryd.ntmps30
    go_wp2
    go_ret2
    exact ⟨congrArg Ending.returned HF.out.symm, Below.refl _ _⟩
  · have h500' : l.length ≤ 500 := by omega
    have H500 := Lib.hid h500
    clear h500
    have HC := Lib.hid hc
    clear hc
    have HE := Lib.hid hE
    have h9 := hE.env.nine
    clear hE
    go_enter Tryd.func30, Tryd.ntmps30
    go_wp2
    go_loopw [15] (fun i wr => ∃ k : Nat, k ≤ l.length ∧ i = .int .i64 k ∧ Below w.heap.size w wr ∧ Hid (∀ j (hj : j < l.length), j < k → 0 ≤ l[j] ∧ l[j] ≤ 1000000000)) (fun i _ => l.length - (intOf i).toNat)
    case atStart => exact ⟨0, Nat.zero_le _, rfl, Below.refl _ _, Lib.hid (fun j _ h => by omega)⟩
    case round =>
      obtain ⟨k, hk, rfl, hbel, hh⟩ := hrel
      by_cases hlt : k < l.length
      · have hc0 := (hbel.cell (p := ⟨b, o + k, none⟩) hb).trans (HC.out k hlt)
        obtain ⟨x, hx⟩ : ∃ x, l[k] = x := ⟨_, rfl⟩
        rw [hx] at hc0
        have HX := Lib.hid hx
        clear hx
        by_cases h0 : x < 0 ∨ 1000000000 < x
        · have HN : Hid (listN l = 7) := Lib.hid (by unfold listN; rw [if_neg H500.out, if_pos (outB_at k hlt (by rw [HX.out]; exact h0))])
          have HS : Hid (listS l = []) := Lib.hid (by unfold listS; rw [HN.out]; rfl)
          have HF := Lib.hid (listV_of HN.out HS.out)
          rcases h0 with h0 | h0
          · go_wp2
            go_ret2
            exact ⟨congrArg Ending.returned HF.out.symm, hbel⟩
          · have h0' : ¬ x < 0 := by omega
            go_wp2
            go_ret2
            exact ⟨congrArg Ending.returned HF.out.symm, hbel⟩
        · have h0' : 0 ≤ x := by omega
          have h1' : x ≤ 1000000000 := by omega
          clear h0
          have hh' : Hid (∀ j (hj : j < l.length), j < k + 1 → 0 ≤ l[j] ∧ l[j] ≤ 1000000000) := Lib.hid (fun j hj h => by
            by_cases e : j = k
            · subst e; rw [HX.out]; exact ⟨h0', h1'⟩
            · exact hh.out j hj (by omega))
          go_wp2
          go_roundw
          case rel => exact ⟨k + 1, by omega, by go_num, hbel, hh'⟩
          case measure => simp [intOf]; omega
      · have HO : Hid (outB l = false) := Lib.hid (by
          unfold outB; rw [List.any_eq_false]; intro f hf
          obtain ⟨j, hj, rfl⟩ := List.mem_iff_getElem.1 hf
          have := hh.out j hj (by omega)
          simp; omega)
        have HI : Hid (∀ j (hj : j < l.length), 0 ≤ l[j] ∧ l[j] ≤ 1000000000) := Lib.hid (fun j hj => hh.out j hj (by omega))
        clear hh
        have hek : k = l.length := by omega
        subst hek
        clear hlt hk
        go_wp2_with fail
        go_loopw [6] (fun i wr2 => ∃ k : Nat, 1 ≤ k ∧ (k ≤ l.length ∨ k = 1) ∧ i = .int .i64 k ∧ Below w.heap.size w wr2 ∧ Hid (∀ j (hj : j + 1 < l.length), j + 1 < k → l[j] < l[j + 1])) (fun i _ => l.length - (intOf i).toNat)
        case atStart => exact ⟨1, Nat.le_refl _, .inr rfl, rfl, hbel, Lib.hid (fun j _ h => by omega)⟩
        case round =>
          obtain ⟨k, hk1, hk2, rfl, hbel2, hh⟩ := hrel
          by_cases hlt : k < l.length
          · have hc0 := (hbel2.cell (p := ⟨b, o + k, none⟩) hb).trans (HC.out k hlt)
            have hc1 := (hbel2.cell (p := ⟨b, o + (k - 1), none⟩) hb).trans (HC.out (k - 1) (by omega))
            obtain ⟨x, hx⟩ : ∃ x, l[k] = x := ⟨_, rfl⟩
            obtain ⟨y, hy⟩ : ∃ y, l[k - 1]'(by omega) = y := ⟨_, rfl⟩
            rw [hx] at hc0
            rw [hy] at hc1
            have HX := Lib.hid hx
            have HY := Lib.hid hy
            clear hx hy
            obtain ⟨m, rfl⟩ : ∃ m, k = m + 1 := ⟨k - 1, by omega⟩
            rw [Nat.add_sub_cancel] at hc1
            have e1 : ((m : Int) + 1 - 1) = m := by omega
            by_cases hle : x ≤ y
            · have HA : Hid (ascB l = false) := Lib.hid (ascB_no m (by omega) (by rw [HX.out]; have := HY.out; simp only [Nat.add_sub_cancel] at this; rw [this]; exact hle))
              have HN : Hid (listN l = 6) := Lib.hid (by unfold listN; rw [if_neg H500.out, HO.out, HA.out]; rfl)
              have HS : Hid (listS l = []) := Lib.hid (by unfold listS; rw [HN.out]; rfl)
              have HF := Lib.hid (listV_of HN.out HS.out)
              go_wp2_with fail
              go_quiet (fail)
              go_wp2
              go_ret2
              exact ⟨congrArg Ending.returned HF.out.symm, below_drewN hbel2 _⟩
            · have hgt : y < x := by omega
              clear hle
              have hh' : Hid (∀ j (hj : j + 1 < l.length), j + 1 < m + 1 + 1 → l[j] < l[j + 1]) := Lib.hid (fun j hj h => by
                by_cases e : j = m
                · subst e; have h2 := HY.out; simp only [Nat.add_sub_cancel] at h2; rw [HX.out, h2]; exact hgt
                · exact hh.out j hj (by omega))
              have hlt2 : ¬ x ≤ y := by omega
              go_wp2_with fail
              go_quiet (fail)
              go_wp2
              go_roundw
              case rel => exact ⟨m + 1 + 1, by omega, .inl (by omega), by go_num, below_drewN hbel2 _, hh'⟩
              case measure => simp [intOf]; omega
          · have HA : Hid (ascB l = true) := Lib.hid (by
              rw [ascB_iff]; intro j hj; exact hh.out j hj (by omega))
            clear hh
            have HN : Hid (listN l = 0) := Lib.hid (by unfold listN; rw [if_neg H500.out, HO.out, HA.out]; rfl)
            by_cases hz : l.length = 0
            · have HS : Hid (listS l = [45]) := Lib.hid (by unfold listS; rw [HN.out, if_pos rfl, if_pos (List.eq_nil_of_length_eq_zero hz)])
              have HF := Lib.hid (listV_of HN.out HS.out)
              go_wp2
              go_ret2
              exact ⟨congrArg Ending.returned HF.out.symm, hbel2⟩
            · have HS : Hid (listS l = Lib.join (listP l) [44]) := Lib.hid (by unfold listS; rw [HN.out, if_pos rfl, if_neg (fun e => hz (by rw [e]; rfl))])
              have HF := Lib.hid (listV_of HN.out HS.out)
              have hpos : 0 < l.length := by omega
              have hzb : ((l.length : Int) == 0) = false := by rw [beq_eq_false_iff_ne]; omega
              clear hk2 hk1
              go_wp2_with fail
              obtain ⟨i0, hi, hz0, hz1, hz2⟩ := info_parts Tryd.infoString
              go_loopw [7, 8, 47] (fun p f i wr3 => ∃ (k g : Nat) (P : List (List UInt8)), i = .int .i64 k ∧ f = .int .i64 g ∧ wr3.ownsRow w.heap.size 9 1 p P.length (strCells P) ∧ Below w.heap.size w wr3 ∧ Hid (Open3 l P g k)) (fun _ _ i _ => l.length - (intOf i).toNat)
              case atStart => exact ⟨0, 0, [], rfl, rfl, World.ownsRow_nil _ _ _ _, hbel2, Lib.hid (open3_start l)⟩
              case round =>
                obtain ⟨k, g, P, rfl, rfl, hown, hbel3, hop⟩ := hrel
                have hkl := hop.out.2.1
                have hgk := hop.out.1
                have hPk := hop.out.2.2.1
                by_cases hlt : k < l.length
                · obtain ⟨x, hx⟩ : ∃ x, l[k] = x := ⟨_, rfl⟩
                  obtain ⟨y, hy⟩ : ∃ y, l[g]'(by omega) = y := ⟨_, rfl⟩
                  have hc0 := (hbel3.cell (p := ⟨b, o + k, none⟩) hb).trans (HC.out k hlt)
                  have hcg := (hbel3.cell (p := ⟨b, o + g, none⟩) hb).trans (HC.out g (by omega))
                  have hbx := HI.out k hlt
                  have hby := HI.out g (by omega)
                  rw [hx] at hc0 hbx
                  rw [hy] at hcg hby
                  have hyg : l[g]?.getD 0 = y := by rw [List.getElem?_eq_getElem (by omega : g < l.length)]; exact hy
                  have HX := Lib.hid hx
                  have HY := Lib.hid hyg
                  clear hx hy hyg
                  by_cases hlast : k + 1 = l.length
                  · have hlastI : (k : Int) + 1 = l.length := by omega
                    have hop' := Lib.hid (open3_last hop.out hlt hlast)
                    rw [HX.out, HY.out] at hop'
                    go_wp2_with fail
                    go_quiet (fail)
                    go_wp2_with fail
                    have hown2 := Lib.hid (below_drewN hbel3 nq)
                    have hown3 := row_drewN hown nq
                    have hcgD : (World.drewN wr nq).cell? ⟨b, o + g, none⟩ = some (.int .i64 y) := hcg
                    have hckD : (World.drewN wr nq).cell? ⟨b, o + k, none⟩ = some (.int .i64 x) := hc0
                    have hEW : EnvD (World.drewN wr nq) := HE.out.below hown2.out h9
                    generalize hW : World.drewN wr nq = W at *
                    have hEd : EnvD W.drew := hEW.below (Below.refl w.heap.size W).drew h9
                    have hbW : b < W.heap.size := Nat.lt_of_lt_of_le hb hown2.out.size
                    have hwW : w.heap.size ≤ W.heap.size := hown2.out.size
                    have HWr := Lib.hid (writeRun_any y x W.drew hEd hby.1 hby.2 hbx.1 hbx.2)
                    have hm1 : P.length + 1 ≤ maxLen := by unfold maxLen; omega
                    have hfar : u7.ownBlock ≠ some b := fun e => by have := (hown3.lt b e).1; omega
                    have i00 : (0 : Int) ≤ (k : Int) := Int.natCast_nonneg _
                    have i01 : (k : Int) < (l.length : Int) := by omega
                    have i10 : (0 : Int) ≤ (g : Int) := Int.natCast_nonneg _
                    have i11 : (g : Int) < (l.length : Int) := by omega
                    go_region_held3 (fun w' => w'.cell? ⟨b, o + g, none⟩ = some (.int .i64 y) ∧ w'.cell? ⟨b, o + k, none⟩ = some (.int .i64 x))
                      (first
                        | go_keep
                        | exact ⟨hcg1, hck1⟩
                        | (refine ⟨?_, ?_⟩
                           · (rw [hgrow.cell_far _ hbA (Ne.symm hfar)]; exact (World.cell?_of_block (Below.heap_alloc w1 _ b (Nat.lt_of_lt_of_le hbW hs1))).trans hcg1)
                           · (rw [hgrow.cell_far _ hbA (Ne.symm hfar)]; exact (World.cell?_of_block (Below.heap_alloc w1 _ b (Nat.lt_of_lt_of_le hbW hs1))).trans hck1)))
                      ((first
                        | (go_at_call 58; refine HWr.out.mono ?_; rintro e w1 ⟨rfl, hB1⟩; have hrow1 := ownsRow_below (World.ownsRow.drew hown3) hB1; have hcg1 := (hB1.cell (p := ⟨b, o + g, none⟩) hbW).trans hcgD; have hck1 := (hB1.cell (p := ⟨b, o + k, none⟩) hbW).trans hckD; have hs1 : W.heap.size ≤ w1.heap.size := hB1.size; have hbA : b < (w1.alloc (.cells #[.string ⟨(wrS y x).toArray⟩] 9)).heap.size := by rw [World.size_alloc]; omega)
                        | (refine step_append_lies _ (by rfl) _ _ _ (by rfl) w.heap.size 9 i0 _ 1 16 Tryd.underlying77 hi hz0 hz1 hz2 rfl (by omega) u7 P.length (strCells P) (by rfl) (hrow1.alloc _) ⟨w1.heap.size, 0, none⟩ 1 1 [.string ⟨(wrS y x).toArray⟩] (by rfl) (by rfl) (World.news_of_block (cs := #[.string ⟨(wrS y x).toArray⟩]) (t := 9) (fr := (0, 0)) (heap_alloc_new w1 _)) (by simp [Value.oneCell']) (by omega) hm1 (by omega) (by simp; omega) (w1.heap.size + 1) (by simp) ?_; intro gg cap w2 hown4 hgrow hat hlt)))
                    go_wp2_with fail
                    go_roundw
                    case rel =>
                      refine ⟨k + 1, k + 1, P ++ [wrS y x], by go_num, congrArg (Value.int .i64) (by omega), ?_, ?_, hop'⟩
                      · rw [strCells_snoc, List.length_append]; exact hown4
                      · exact ((hown2.out.drew.trans (hB1.mono hwW)).alloc (by omega) _).grown hgrow (by rw [World.size_alloc]; omega) (fun q e => (hown3.lt q e).1)
                    case measure => simp [intOf]; omega
                  · have hk1 : k + 1 < l.length := by omega
                    obtain ⟨z, hz⟩ : ∃ z, l[k + 1] = z := ⟨_, rfl⟩
                    have hc1 := (hbel3.cell (p := ⟨b, o + (k + 1), none⟩) hb).trans (HC.out (k + 1) hk1)
                    rw [hz] at hc1
                    have hlastI : ¬ (k : Int) + 1 = l.length := by omega
                    have hlastB : ((k : Int) + 1 == l.length) = false := by simpa using hlastI
                    have j1 : (k : Int) + 1 < l.length := by omega
                    by_cases hne : z = x + 1
                    · have hop' := Lib.hid (open3_go hop.out hk1 (by rw [hz, HX.out]; exact hne))
                      have hnb : (z != x + 1) = false := by simp [hne]
                      clear hz hlastI
                      go_wp2_with fail
                      go_quiet (fail)
                      go_wp2_with fail
                      go_roundw
                      case rel => exact ⟨k + 1, g, P, by go_num, rfl, row_drewN hown _, below_drewN hbel3 _, hop'⟩
                      case measure => simp [intOf]; omega
                    · have hnb : (z != x + 1) = true := by simp [hne]
                      have hop' := Lib.hid (open3_cut hop.out hk1 (by rw [hz, HX.out]; exact hne))
                      rw [HX.out, HY.out] at hop'
                      clear hz hne hlastI
                      go_wp2_with fail
                      go_quiet (fail)
                      go_wp2_with fail
                      have hown2 := Lib.hid (below_drewN hbel3 nq)
                      have hown3 := row_drewN hown nq
                      have hcgD : (World.drewN wr nq).cell? ⟨b, o + g, none⟩ = some (.int .i64 y) := hcg
                      have hckD : (World.drewN wr nq).cell? ⟨b, o + k, none⟩ = some (.int .i64 x) := hc0
                      have hEW : EnvD (World.drewN wr nq) := HE.out.below hown2.out h9
                      generalize hW : World.drewN wr nq = W at *
                      have hEd : EnvD W.drew := hEW.below (Below.refl w.heap.size W).drew h9
                      have hbW : b < W.heap.size := Nat.lt_of_lt_of_le hb hown2.out.size
                      have hwW : w.heap.size ≤ W.heap.size := hown2.out.size
                      have HWr := Lib.hid (writeRun_any y x W.drew hEd hby.1 hby.2 hbx.1 hbx.2)
                      have hm1 : P.length + 1 ≤ maxLen := by unfold maxLen; omega
                      have hfar : u7.ownBlock ≠ some b := fun e => by have := (hown3.lt b e).1; omega
                      have i00 : (0 : Int) ≤ (k : Int) := Int.natCast_nonneg _
                      have i01 : (k : Int) < (l.length : Int) := by omega
                      have i10 : (0 : Int) ≤ (g : Int) := Int.natCast_nonneg _
                      have i11 : (g : Int) < (l.length : Int) := by omega
                      go_region_held3 (fun w' => w'.cell? ⟨b, o + g, none⟩ = some (.int .i64 y) ∧ w'.cell? ⟨b, o + k, none⟩ = some (.int .i64 x))
                        (first
                          | go_keep
                          | exact ⟨hcg1, hck1⟩
                          | (refine ⟨?_, ?_⟩
                             · (rw [hgrow.cell_far _ hbA (Ne.symm hfar)]; exact (World.cell?_of_block (Below.heap_alloc w1 _ b (Nat.lt_of_lt_of_le hbW hs1))).trans hcg1)
                             · (rw [hgrow.cell_far _ hbA (Ne.symm hfar)]; exact (World.cell?_of_block (Below.heap_alloc w1 _ b (Nat.lt_of_lt_of_le hbW hs1))).trans hck1)))
                        ((first
                          | (go_at_call 58; refine HWr.out.mono ?_; rintro e w1 ⟨rfl, hB1⟩; have hrow1 := ownsRow_below (World.ownsRow.drew hown3) hB1; have hcg1 := (hB1.cell (p := ⟨b, o + g, none⟩) hbW).trans hcgD; have hck1 := (hB1.cell (p := ⟨b, o + k, none⟩) hbW).trans hckD; have hs1 : W.heap.size ≤ w1.heap.size := hB1.size; have hbA : b < (w1.alloc (.cells #[.string ⟨(wrS y x).toArray⟩] 9)).heap.size := by rw [World.size_alloc]; omega)
                          | (refine step_append_lies _ (by rfl) _ _ _ (by rfl) w.heap.size 9 i0 _ 1 16 Tryd.underlying77 hi hz0 hz1 hz2 rfl (by omega) u7 P.length (strCells P) (by rfl) (hrow1.alloc _) ⟨w1.heap.size, 0, none⟩ 1 1 [.string ⟨(wrS y x).toArray⟩] (by rfl) (by rfl) (World.news_of_block (cs := #[.string ⟨(wrS y x).toArray⟩]) (t := 9) (fr := (0, 0)) (heap_alloc_new w1 _)) (by simp [Value.oneCell']) (by omega) hm1 (by omega) (by simp; omega) (w1.heap.size + 1) (by simp) ?_; intro gg cap w2 hown4 hgrow hat hlt)))
                      go_wp2_with fail
                      go_roundw
                      case rel =>
                        refine ⟨k + 1, k + 1, P ++ [wrS y x], by go_num, by go_num, ?_, ?_, hop'⟩
                        · rw [strCells_snoc, List.length_append]; exact hown4
                        · exact ((hown2.out.drew.trans (hB1.mono hwW)).alloc (by omega) _).grown hgrow (by rw [World.size_alloc]; omega) (fun q e => (hown3.lt q e).1)
                      case measure => simp [intOf]; omega
                · have hke : k = l.length := by omega
                  have HP := hop.out.2.2.2.1 hke
                  have hT := joinC_any u7 P wr (strsAt_of_row hown) (by omega) (by rw [← HP]; exact listP_all l (fun n hn => by obtain ⟨j, hj, rfl⟩ := List.mem_iff_getElem.1 hn; exact HI.out j hj))
                  rw [← HP] at hT
                  have HT := Lib.hid hT
                  clear HP hT
                  subst hke
                  go_wp2_with fail
                  refine HT.out.mono ?_
                  rintro e w5 ⟨rfl, hB5⟩
                  go_wp2_with fail
                  go_ret2
                  exact ⟨congrArg Ending.returned HF.out.symm, hbel3.trans (hB5.mono hbel3.size)⟩
end Go.Proofs.YtnmkcohfhomenaaDoor
