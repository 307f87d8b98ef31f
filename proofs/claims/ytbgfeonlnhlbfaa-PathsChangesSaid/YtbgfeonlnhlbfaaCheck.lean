/- checkAll; the law's long; the reference's Same. -/
import Derived.Test.YtbgfeonlnhlbfaaBase
namespace Go.Proofs.Ytbgfeonlnhlbfaa
open Go.RowKit

/-- The values vs lie in memory as the slice v. -/
def ListAt (w : World) (v : Value) (vs : List Value) : Prop :=
  (∃ a c, v = .slice a 0 c ∧ vs = []) ∨
  ∃ b o c, v = .slice (some ⟨b, o, none⟩) vs.length c ∧ b < w.heap.size ∧ ∀ k (h : k < vs.length), w.cell? ⟨b, o + k, none⟩ = some vs[k]
/-- Paths in memory: a slice of slices. -/
def PathsAt (w : World) (v : Value) (ps : List (List ByteArray)) : Prop :=
  ∃ vs : List Value, vs.length = ps.length ∧ ListAt w v vs ∧ ∀ k (h : k < ps.length) (h' : k < vs.length), StrsAt w vs[k] ps[k]
theorem ListAt.below {w w' : World} {v : Value} {vs : List Value} (h : ListAt w v vs) (hb : Below w.heap.size w w') : ListAt w' v vs := by
  rcases h with h | ⟨b, o, c, hv, hlt, hcell⟩
  · exact .inl h
  · exact .inr ⟨b, o, c, hv, Nat.lt_of_lt_of_le hlt hb.size, fun k hk => (hb.cell (p := ⟨b, o + k, none⟩) hlt).trans (hcell k hk)⟩
theorem PathsAt.below {w w' : World} {v : Value} {ps : List (List ByteArray)} (h : PathsAt w v ps) (hb : Below w.heap.size w w') : PathsAt w' v ps := by
  obtain ⟨vs, hl, h1, h2⟩ := h
  exact ⟨vs, hl, h1.below hb, fun k hk hk' => (h2 k hk hk').below hb⟩

abbrev bsP (ps : List (List ByteArray)) : List (List Bs) := ps.map bsL
theorem checksE_take (ps : List (List ByteArray)) (k : Nat) (hk : k ≤ ps.length) (h : ∀ j (hj : j < ps.length), j < k → checkE (bsL ps[j]) = 0) : checksE (bsP ps) = checksE (bsP (ps.drop k)) := by
  induction k generalizing ps with
  | zero => rfl
  | succ k ih =>
    cases ps with
    | nil => simp at hk
    | cons a r =>
      have h0 := h 0 (by simp) (by omega)
      simp only [List.getElem_cons_zero] at h0
      show checksE (bsL a :: bsP r) = _
      rw [checksE, if_pos h0, List.drop_succ_cons, ← ih r (by simpa using hk) (fun j hj hlt => by have := h (j + 1) (by simp; omega) (by omega); simpa using this)]
theorem checksE_at (ps : List (List ByteArray)) (k : Nat) (hk : k < ps.length) (h : ∀ j (hj : j < ps.length), j < k → checkE (bsL ps[j]) = 0) (hb : checkE (bsL ps[k]) ≠ 0) : checksE (bsP ps) = checkE (bsL ps[k]) := by
  rw [checksE_take ps k (by omega) h, List.drop_eq_getElem_cons hk]
  show checksE (_ :: _) = _
  rw [checksE, if_neg hb]
theorem checksE_all (ps : List (List ByteArray)) (h : ∀ j (hj : j < ps.length), checkE (bsL ps[j]) = 0) : checksE (bsP ps) = 0 := by
  rw [checksE_take ps ps.length (Nat.le_refl _) (fun j hj _ => h j hj), List.drop_eq_nil_of_le (Nat.le_refl _)]; rfl

set_option maxHeartbeats 1000000 in
set_option maxRecDepth 100000 in
theorem checkAll_any (v : Value) (ps : List (List ByteArray)) (w : World) (h : PathsAt w v ps) (hm : ∀ p ∈ ps, Modest p) (hl : ps.length ≤ 70368744177664) :
    Calls Try.prog 46 #[v] w fun e w' => e = .returned (.int .i64 (checksE (bsP ps))) ∧ Below w.heap.size w w' := by
  obtain ⟨vs, hlen, h1, h2⟩ := h
  have H2 := Lib.hid h2
  have HM := Lib.hid hm
  clear h2 hm
  rcases h1 with ⟨a, c, rfl, hv⟩ | ⟨b, o, c, rfl, hb, hc⟩
  · subst hv
    have : ps = [] := List.eq_nil_of_length_eq_zero (by simpa using hlen.symm)
    subst this
    go_enter Try.func46, Try.ntmps46
    go_wp2
    refine wp_loop_rounds 1 ?_
    rw [rounds_succ]
    go_wp2
    go_ret
    exact ⟨rfl, Below.refl _ _⟩
  · have HC := Lib.hid hc
    have HL := Lib.hid hlen
    have hl' : vs.length ≤ 70368744177664 := by omega
    clear hc hlen
    go_enter Try.func46, Try.ntmps46
    go_wp2
    go_loopw [8] (fun i wr => ∃ k : Nat, k ≤ vs.length ∧ i = .int .i64 k ∧ Below w.heap.size w wr ∧ Hid (∀ j (hj : j < ps.length), j < k → checkE (bsL ps[j]) = 0)) (fun i _ => vs.length - (intOf i).toNat)
    case atStart => exact ⟨0, Nat.zero_le _, rfl, Below.refl _ _, Lib.hid (fun j _ h => by omega)⟩
    case round =>
      obtain ⟨k, hk, rfl, hbel, hh⟩ := hrel
      by_cases hlt : k < vs.length
      · have hlt' : k < ps.length := by have := HL.out; omega
        have hc0 := (hbel.cell (p := ⟨b, o + k, none⟩) hb).trans (HC.out k hlt)
        have hcall := check_any (vs[k]) ps[k] wr ((H2.out k hlt' hlt).below hbel) (HM.out _ (List.getElem_mem hlt'))
        by_cases h0 : checkE (bsL ps[k]) = 0
        · have hh' : Hid (∀ j (hj : j < ps.length), j < k + 1 → checkE (bsL ps[j]) = 0) := Lib.hid (fun j hj h => by
            by_cases e : j = k
            · subst e; exact h0
            · exact hh.out j hj (by omega))
          rw [h0] at hcall
          clear h0
          generalize vs[k] = u at *
          go_wp2_with (go_at_call 19; refine hcall.mono ?_; rintro e w' ⟨rfl, hb1⟩; have hb2 := hbel.trans (hb1.mono hbel.size))
          go_roundw
          case rel => exact ⟨k + 1, by omega, by go_num, hb2, hh'⟩
          case measure => simp [intOf]; omega
        · have HN := Lib.hid (checksE_at ps k hlt' hh.out h0)
          have h0' : (checkE (bsL ps[k]) != 0) = true := by simpa using h0
          obtain ⟨z, hz⟩ : ∃ z, z = checkE (bsL ps[k]) := ⟨_, rfl⟩
          rw [← hz] at hcall h0' HN h0
          clear hz
          generalize vs[k] = u at *
          go_wp2_with (go_at_call 19; refine hcall.mono ?_; rintro e w' ⟨rfl, hb1⟩; have hb2 := hbel.trans (hb1.mono hbel.size))
          go_ret
          exact ⟨ret_int HN.out.symm, hb2⟩
      · have HN := Lib.hid (checksE_all ps (fun j hj => hh.out j hj (by have := HL.out; omega)))
        go_wp2
        go_ret
        exact ⟨ret_int HN.out.symm, hbel⟩

/-! ### long -/
def longB (ss : List ByteArray) : Bool := decide (20 < ss.length) || ss.any fun s => decide (100 < s.size)
theorem longB_no {ss : List ByteArray} (h : longB ss = false) : ss.length ≤ 20 ∧ ∀ s ∈ ss, s.size ≤ 100 := by
  unfold longB at h; rw [Bool.or_eq_false_iff] at h
  refine ⟨by simpa using h.1, fun s hs => ?_⟩
  have := List.any_eq_false.1 h.2 s hs
  simpa using this

set_option maxHeartbeats 1000000 in
set_option maxRecDepth 100000 in
theorem long_any (v : Value) (ss : List ByteArray) (w : World) (h : StrsAt w v ss) (hl : ss.length ≤ 9223372036854775807) :
    Calls Try.prog 11 #[v] w fun e w' => e = .returned (.bool (longB ss)) ∧ Below w.heap.size w w' := by
  rcases h with ⟨a, c, rfl, rfl⟩ | ⟨b, o, c, rfl, _, hb, hc⟩
  · go_enter Try.func11, Try.ntmps11
    go_wp2
    refine wp_loop_rounds 1 ?_
    rw [rounds_succ]
    go_wp2
    go_ret
    exact ⟨rfl, Below.refl _ _⟩
  by_cases h64 : 20 < ss.length
  · have HF : Hid (longB ss = true) := Lib.hid (by unfold longB; simp [h64])
    go_enter Try.func11, Try.ntmps11
    go_wp2
    go_ret
    exact ⟨ret_bool HF.out.symm, Below.refl _ _⟩
  · have h64' : ss.length ≤ 20 := by omega
    clear h64
    have HC := Lib.hid hc
    clear hc
    go_enter Try.func11, Try.ntmps11
    go_wp2
    go_loopw [3] (fun i wr => ∃ k : Nat, k ≤ ss.length ∧ i = .int .i64 k ∧ Below w.heap.size w wr ∧ Hid (∀ j (hj : j < ss.length), j < k → ss[j].size ≤ 100)) (fun i _ => ss.length - (intOf i).toNat)
    case atStart => exact ⟨0, Nat.zero_le _, rfl, Below.refl _ _, Lib.hid (fun j _ h => by omega)⟩
    case round =>
      obtain ⟨k, hk, rfl, hbel, hh⟩ := hrel
      by_cases hlt : k < ss.length
      · have hc0 := (hbel.cell (p := ⟨b, o + k, none⟩) hb).trans (HC.out k hlt)
        by_cases h2 : ss[k].size ≤ 100
        · have hh' : Hid (∀ j (hj : j < ss.length), j < k + 1 → ss[j].size ≤ 100) := Lib.hid (fun j hj h => by
            by_cases e : j = k
            · subst e; exact h2
            · exact hh.out j hj (by omega))
          generalize ss[k] = s at *
          go_wp2
          go_roundw
          case rel => exact ⟨k + 1, by omega, by go_num, hbel, hh'⟩
          case measure => simp [intOf]; omega
        · have h2' : 100 < ss[k].size := by omega
          have HF : Hid (longB ss = true) := Lib.hid (by
            unfold longB; rw [Bool.or_eq_true]; right; rw [List.any_eq_true]
            exact ⟨ss[k], List.getElem_mem hlt, by simpa using h2'⟩)
          clear h2
          generalize ss[k] = s at *
          go_wp2
          go_ret
          exact ⟨ret_bool HF.out.symm, hbel⟩
      · have HF : Hid (longB ss = false) := Lib.hid (by
          unfold longB; rw [Bool.or_eq_false_iff]; refine ⟨by simpa using h64', ?_⟩
          rw [List.any_eq_false]; intro f hf
          obtain ⟨j, hj, rfl⟩ := List.mem_iff_getElem.1 hf
          have := hh.out j hj (by omega)
          simp; exact this)
        go_wp2
        go_ret
        exact ⟨ret_bool HF.out.symm, hbel⟩

/-! ### Same -/
def sameB (a b : List ByteArray) : Bool := decide (bsL a = bsL b)
theorem sameB_len {a b : List ByteArray} (h : a.length ≠ b.length) : sameB a b = false := by
  unfold sameB; rw [decide_eq_false_iff_not]; intro e
  have := congrArg List.length e; simp at this; exact h this
theorem sameB_at {a b : List ByteArray} {k : Nat} (h1 : k < a.length) (h2 : k < b.length) (h : a[k].data.toList ≠ b[k].data.toList) : sameB a b = false := by
  unfold sameB; rw [decide_eq_false_iff_not]; intro e
  have h3 : (bsL a)[k]'(by simpa using h1) = (bsL b)[k]'(by simpa using h2) := List.getElem_of_eq e _
  rw [List.getElem_map, List.getElem_map] at h3; exact h h3
theorem sameB_all {a b : List ByteArray} (h : a.length = b.length) (he : ∀ j (h1 : j < a.length) (h2 : j < b.length), a[j].data.toList = b[j].data.toList) : sameB a b = true := by
  unfold sameB; rw [decide_eq_true_iff]
  apply List.ext_getElem (by simpa using h)
  intro j h1 h2
  rw [List.getElem_map, List.getElem_map]
  exact he j (by simpa using h1) (by simpa using h2)

set_option maxHeartbeats 1000000 in
set_option maxRecDepth 100000 in
theorem same_some (b1 o1 c1 b2 o2 c2 : Nat) (fs gs : List ByteArray) (w : World) (hlen : fs.length = gs.length)
    (hc1 : ∀ k (h : k < fs.length), w.cell? ⟨b1, o1 + k, none⟩ = some (.string fs[k]))
    (hc2 : ∀ k (h : k < gs.length), w.cell? ⟨b2, o2 + k, none⟩ = some (.string gs[k]))
    (hl : fs.length ≤ 140737488355328) :
    Calls Try.prog 21 #[.slice (some ⟨b1, o1, none⟩) fs.length c1, .slice (some ⟨b2, o2, none⟩) gs.length c2] w fun e w' => e = .returned (.bool (sameB fs gs)) ∧ Below w.heap.size w w' := by
  have HC1 := Lib.hid hc1
  have HC2 := Lib.hid hc2
  have HL := Lib.hid hlen
  clear hc1 hc2
  rw [← hlen]
  clear hlen
  go_enter Try.func21, Try.ntmps21
  go_wp2
  go_loopw [5] (fun i wr => ∃ k : Nat, k ≤ fs.length ∧ i = .int .i64 k ∧ (∃ n, wr = w.drewN n) ∧ Hid (∀ j (h1 : j < fs.length) (h2 : j < gs.length), j < k → fs[j].data.toList = gs[j].data.toList)) (fun i _ => fs.length - (intOf i).toNat)
  case atStart => exact ⟨0, Nat.zero_le _, rfl, ⟨0, rfl⟩, Lib.hid (fun j _ _ h => by omega)⟩
  case round =>
    obtain ⟨k, hk, rfl, ⟨n, rfl⟩, hh⟩ := hrel
    by_cases hlt : k < fs.length
    · have hlt2 : k < gs.length := by have := HL.out; omega
      have h0 := HC1.out k hlt
      have h1 := HC2.out k hlt2
      have i00 : (0 : Int) ≤ (k : Int) := Int.natCast_nonneg _
      have i01 : (k : Int) < (fs.length : Int) := by omega
      by_cases he : fs[k].data.toList = gs[k].data.toList
      · have hh' : Hid (∀ j (h1 : j < fs.length) (h2 : j < gs.length), j < k + 1 → fs[j].data.toList = gs[j].data.toList) := Lib.hid (fun j h1 h2 h => by
          by_cases e : j = k
          · subst e; exact he
          · exact hh.out j h1 h2 (by omega))
        have he' : (fs[k].toList == gs[k].toList) = true := by rw [Lib.toList_data, Lib.toList_data, he]; simp
        have he2 : fs[k].toList = gs[k].toList := by rw [Lib.toList_data, Lib.toList_data, he]
        clear he
        generalize fs[k] = s at *
        generalize gs[k] = t at *
        go_wp2_with fail
        go_quiet (fail)
        go_wp2
        go_roundw
        case rel => exact ⟨k + 1, by omega, by go_num, ⟨_, rfl⟩, hh'⟩
        case measure => simp [intOf]; omega
      · have HF := Lib.hid (sameB_at hlt hlt2 he)
        have he' : (fs[k].toList == gs[k].toList) = false := by rw [Lib.toList_data, Lib.toList_data]; simpa using he
        have he2 : ¬ fs[k].toList = gs[k].toList := by rw [Lib.toList_data, Lib.toList_data]; exact he
        clear he
        generalize fs[k] = s at *
        generalize gs[k] = t at *
        go_wp2_with fail
        go_quiet (fail)
        go_wp2
        go_ret
        exact ⟨ret_bool HF.out.symm, below_drewN (below_drewN (Below.refl _ _) _) _⟩
    · have HF := Lib.hid (sameB_all HL.out (fun j h1 h2 => hh.out j h1 h2 (by omega)))
      go_wp2
      go_ret
      exact ⟨ret_bool HF.out.symm, below_drewN (Below.refl _ _) _⟩

theorem same_nil (a1 a2 : Option Addr) (c1 c2 : Nat) (w : World) :
    Calls Try.prog 21 #[.slice a1 0 c1, .slice a2 0 c2] w fun e w' => e = .returned (.bool true) ∧ Below w.heap.size w w' := by
  go_enter Try.func21, Try.ntmps21
  go_wp2
  refine wp_loop_rounds 1 ?_
  rw [rounds_succ]
  go_wp2
  go_ret
  exact ⟨rfl, Below.refl _ _⟩
theorem same_len (a1 a2 : Option Addr) (n1 n2 c1 c2 : Nat) (h : n1 ≠ n2) (w : World) (h1 : n1 ≤ 140737488355328) (h2 : n2 ≤ 140737488355328) :
    Calls Try.prog 21 #[.slice a1 n1 c1, .slice a2 n2 c2] w fun e w' => e = .returned (.bool false) ∧ Below w.heap.size w w' := by
  have hd : ¬ (n1 : Int) = (n2 : Int) := by omega
  have hd' : ((n1 : Int) != (n2 : Int)) = true := by simpa using hd
  go_enter Try.func21, Try.ntmps21
  go_wp2
  go_ret
  exact ⟨rfl, Below.refl _ _⟩
theorem StrsAt.shape {w : World} {v : Value} {ss : List ByteArray} (h : StrsAt w v ss) : ∃ a c, v = .slice a ss.length c := by
  rcases h with ⟨a, c, rfl, rfl⟩ | ⟨b, o, c, rfl, _⟩
  · exact ⟨a, c, rfl⟩
  · exact ⟨_, _, rfl⟩

theorem sameR_any (v1 v2 : Value) (fs gs : List ByteArray) (w : World) (h1 : StrsAt w v1 fs) (h2 : StrsAt w v2 gs) (l1 : fs.length ≤ 140737488355328) (l2 : gs.length ≤ 140737488355328) :
    Calls Try.prog 21 #[v1, v2] w fun e w' => e = .returned (.bool (sameB fs gs)) ∧ Below w.heap.size w w' := by
  by_cases hl : fs.length = gs.length
  · rcases h1 with ⟨a1, c1, rfl, rfl⟩ | ⟨b1, o1, c1, rfl, _, hb1, hc1⟩
    · have : gs = [] := List.eq_nil_of_length_eq_zero (by simpa using hl.symm)
      subst this
      obtain ⟨a2, c2, rfl⟩ := h2.shape
      exact same_nil a1 a2 c1 c2 w
    · rcases h2 with ⟨a2, c2, rfl, rfl⟩ | ⟨b2, o2, c2, rfl, _, hb2, hc2⟩
      · have : fs = [] := List.eq_nil_of_length_eq_zero (by simpa using hl)
        subst this
        exact same_nil _ a2 c1 c2 w
      · exact same_some b1 o1 c1 b2 o2 c2 fs gs w hl hc1 hc2 l1
  · obtain ⟨a1, c1, rfl⟩ := h1.shape
    obtain ⟨a2, c2, rfl⟩ := h2.shape
    rw [sameB_len hl]
    exact same_len a1 a2 _ _ c1 c2 hl w l1 l2
end Go.Proofs.Ytbgfeonlnhlbfaa
