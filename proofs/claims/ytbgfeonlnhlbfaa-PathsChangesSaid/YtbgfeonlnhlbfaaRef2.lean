/- The reference: less, Compare, common, Under. -/
import Derived.Test.YtbgfeonlnhlbfaaRef
namespace Go.Proofs.Ytbgfeonlnhlbfaa
open Go.RowKit

theorem bytesLess_eq (a b : Bs) : Op.bytesLess a b = decide (cmpN a b < 0) := by
  induction a generalizing b with
  | nil => cases b <;> simp [Op.bytesLess, cmpN, lexC]
  | cons x a ih =>
    cases b with
    | nil => simp [Op.bytesLess, cmpN, lexC]
    | cons y b =>
      rw [Op.bytesLess, ih]
      show _ = decide (lexC cmpB (x :: a) (y :: b) < 0)
      rw [lexC]
      by_cases e : x = y
      · subst e
        rw [if_pos ((cmpB_tot.eq x x).2 rfl)]
        simp [UInt8.lt_irrefl]; rfl
      · have hne : ¬ cmpB x y = 0 := fun h => e ((cmpB_tot.eq x y).1 h)
        rw [if_neg hne]
        have hb : (x == y) = false := by simpa using e
        rw [hb, Bool.false_and, Bool.or_false, Bool.eq_iff_iff, decide_eq_true_iff, decide_eq_true_iff, UInt8.lt_iff_toNat_lt]
        unfold cmpB cmpI
        constructor
        · intro h; rw [if_pos (by omega)]; decide
        · intro h
          split at h
          · omega
          · split at h
            · omega
            · omega

theorem drewN2 (w : World) (a b : Nat) : ∃ n, (w.drewN a).drewN b = w.drewN n := ⟨a + b, by simp⟩
theorem drewN3 (w : World) (a b c : Nat) : ∃ n, ((w.drewN a).drewN b).drewN c = w.drewN n := ⟨a + b + c, by simp⟩
def lessB (ps qs : List ByteArray) : Bool := decide (cmpP (bsL ps) (bsL qs) < 0)
theorem lessB_at {ps qs : List ByteArray} {k : Nat} (h1 : k < ps.length) (h2 : k < qs.length) (he : ∀ j (h : j < k), ps[j].data.toList = qs[j].data.toList) (hd : ps[k].data.toList ≠ qs[k].data.toList) : Op.bytesLess ps[k].toList qs[k].toList = lessB ps qs := by
  unfold lessB
  rw [bytesLess_eq, cmpP_diff (p := bsL ps) (q := bsL qs) k (by simpa using h1) (by simpa using h2) (fun j hj => by rw [List.getElem_map, List.getElem_map]; exact he j hj) (by rw [List.getElem_map, List.getElem_map]; exact hd), Lib.toList_data, Lib.toList_data]
  simp
theorem lessB_end {ps qs : List ByteArray} (he : ∀ j (h1 : j < ps.length) (h2 : j < qs.length), ps[j].data.toList = qs[j].data.toList) : decide ((ps.length : Int) < (qs.length : Int)) = lessB ps qs := by
  unfold lessB
  rw [cmpP_end (p := bsL ps) (q := bsL qs) (fun j h1 h2 => by
    rw [List.getElem_map, List.getElem_map]; exact he j (by simpa using h1) (by simpa using h2))]
  unfold cmpI
  rw [bsL_len, bsL_len, Bool.eq_iff_iff, decide_eq_true_iff, decide_eq_true_iff]
  constructor
  · intro h; rw [if_pos h]; decide
  · intro h
    split at h
    · assumption
    · split at h <;> omega

set_option maxHeartbeats 2000000 in
set_option maxRecDepth 100000 in
theorem lessR_any (v1 v2 : Value) (ps qs : List ByteArray) (w : World) (h1 : StrsAt w v1 ps) (h2 : StrsAt w v2 qs) (l1 : ps.length ≤ 1000) (l2 : qs.length ≤ 1000) :
    Calls Try.prog 49 #[v1, v2] w fun e w' => e = .returned (.bool (lessB ps qs)) ∧ ∃ n, w' = w.drewN n := by
  have H1 := Lib.hid h1
  have H2 := Lib.hid h2
  obtain ⟨a1, c1, rfl⟩ := h1.shape
  obtain ⟨a2, c2, rfl⟩ := h2.shape
  clear h1 h2
  go_enter Try.func49, Try.ntmps49
  go_wp2
  go_loopw [5] (fun i wr => ∃ k : Nat, k ≤ ps.length ∧ k ≤ qs.length ∧ i = .int .i64 k ∧ (∃ n, wr = w.drewN n) ∧ Hid (∀ j (h1 : j < ps.length) (h2 : j < qs.length), j < k → ps[j].data.toList = qs[j].data.toList)) (fun i _ => ps.length - (intOf i).toNat)
  case atStart => exact ⟨0, Nat.zero_le _, Nat.zero_le _, rfl, ⟨0, rfl⟩, Lib.hid (fun j _ _ h => by omega)⟩
  case round =>
    obtain ⟨k, hk, hk', rfl, ⟨n, rfl⟩, hh⟩ := hrel
    by_cases hk1 : k < ps.length
    · by_cases hk2 : k < qs.length
      · obtain ⟨g1, o1, rfl, hp⟩ := H1.out.at' k hk1
        obtain ⟨g2, o2, rfl, hq⟩ := H2.out.at' k hk2
        have r1 := hp w (Below.refl _ _)
        have r2 := hq w (Below.refl _ _)
        clear hp hq
        have i00 : (0 : Int) ≤ (k : Int) := Int.natCast_nonneg _
        have i01 : (k : Int) < (ps.length : Int) := by omega
        have i02 : (k : Int) < (qs.length : Int) := by omega
        by_cases he : ps[k].data.toList = qs[k].data.toList
        · have hh' : Hid (∀ j (h1 : j < ps.length) (h2 : j < qs.length), j < k + 1 → ps[j].data.toList = qs[j].data.toList) := Lib.hid (fun j h1 h2 h => by
            by_cases e : j = k
            · subst e; exact he
            · exact hh.out j h1 h2 (by omega))
          have he' : (ps[k].toList == qs[k].toList) = true := by rw [Lib.toList_data, Lib.toList_data, he]; simp
          have he2 : ps[k].toList = qs[k].toList := by rw [Lib.toList_data, Lib.toList_data, he]
          clear he
          generalize ps[k] = s at *
          generalize qs[k] = t at *
          go_wp2_with fail
          go_quiet (fail)
          go_wp2
          go_roundw
          case rel => exact ⟨k + 1, by omega, by omega, by go_num, ⟨_, rfl⟩, hh'⟩
          case measure => simp [intOf]; omega
        · have HF := Lib.hid (lessB_at hk1 hk2 (fun j hj => hh.out j (by omega) (by omega) hj) he)
          have he' : (ps[k].toList == qs[k].toList) = false := by rw [Lib.toList_data, Lib.toList_data]; simpa using he
          have he2 : ¬ ps[k].toList = qs[k].toList := by rw [Lib.toList_data, Lib.toList_data]; exact he
          clear he
          generalize ps[k] = s at *
          generalize qs[k] = t at *
          go_wp2_with fail
          go_quiet (fail)
          go_wp2_with fail
          go_quiet (fail)
          go_wp2
          go_ret
          exact ⟨ret_bool HF.out, drewN3 _ _ _ _⟩
      · have HF := Lib.hid (lessB_end (ps := ps) (qs := qs) (fun j h1 h2 => hh.out j h1 h2 (by omega)))
        go_wp2
        go_ret
        exact ⟨ret_bool (by rw [← HF.out]; simp), _, rfl⟩
    · have HF := Lib.hid (lessB_end (ps := ps) (qs := qs) (fun j h1 h2 => hh.out j h1 h2 (by omega)))
      go_wp2
      go_ret
      exact ⟨ret_bool (by rw [← HF.out]; simp), _, rfl⟩

set_option maxHeartbeats 2000000 in
set_option maxRecDepth 100000 in
theorem commonR_any (v1 v2 : Value) (ps qs : List ByteArray) (w : World) (h1 : StrsAt w v1 ps) (h2 : StrsAt w v2 qs) (l1 : ps.length ≤ 1000) (l2 : qs.length ≤ 1000) :
    Calls Try.prog 51 #[v1, v2] w fun e w' => e = .returned (.int .i64 (comN (bsL ps) (bsL qs) : Nat)) ∧ ∃ n, w' = w.drewN n := by
  have H1 := Lib.hid h1
  have H2 := Lib.hid h2
  obtain ⟨a1, c1, rfl⟩ := h1.shape
  obtain ⟨a2, c2, rfl⟩ := h2.shape
  obtain ⟨m, hm⟩ : ∃ m, m = comN (bsL ps) (bsL qs) := ⟨_, rfl⟩
  rw [← hm]
  have HM := Lib.hid hm
  clear h1 h2 hm
  go_enter Try.func51, Try.ntmps51
  go_wp2
  go_loopw [5] (fun i wr => ∃ k : Nat, k ≤ ps.length ∧ k ≤ qs.length ∧ i = .int .i64 k ∧ (∃ n, wr = w.drewN n) ∧ Hid (∀ j (h1 : j < ps.length) (h2 : j < qs.length), j < k → ps[j].data.toList = qs[j].data.toList)) (fun i _ => ps.length - (intOf i).toNat)
  case atStart => exact ⟨0, Nat.zero_le _, Nat.zero_le _, rfl, ⟨0, rfl⟩, Lib.hid (fun j _ _ h => by omega)⟩
  case round =>
    obtain ⟨k, hk, hk', rfl, ⟨n, rfl⟩, hh⟩ := hrel
    have HEND : Hid ((k = ps.length ∨ k = qs.length ∨ ∃ (h1 : k < ps.length) (h2 : k < qs.length), ps[k].data.toList ≠ qs[k].data.toList) → k = m) := Lib.hid (fun h => by
      rw [HM.out]; symm
      refine comN_at k (by simpa using hk) (by simpa using hk') (fun j hj => ?_) ?_
      · rw [List.getElem_map, List.getElem_map]; exact hh.out j (by omega) (by omega) hj
      · rcases h with h | h | ⟨h1, h2, h⟩
        · left; simpa using h
        · right; left; simpa using h
        · right; right; refine ⟨by simpa using h1, by simpa using h2, ?_⟩
          rw [List.getElem_map, List.getElem_map]; exact h)
    by_cases hk1 : k < ps.length
    · have d1 : decide ((k : Int) < (ps.length : Int)) = true := by simp; omega
      by_cases hk2 : k < qs.length
      · have d2 : decide ((k : Int) < (qs.length : Int)) = true := by simp; omega
        obtain ⟨g1, o1, rfl, hp⟩ := H1.out.at' k hk1
        obtain ⟨g2, o2, rfl, hq⟩ := H2.out.at' k hk2
        have r1 := hp w (Below.refl _ _)
        have r2 := hq w (Below.refl _ _)
        clear hp hq
        have i00 : (0 : Int) ≤ (k : Int) := Int.natCast_nonneg _
        have i01 : (k : Int) < (ps.length : Int) := by omega
        have i02 : (k : Int) < (qs.length : Int) := by omega
        by_cases he : ps[k].data.toList = qs[k].data.toList
        · have hh' : Hid (∀ j (h1 : j < ps.length) (h2 : j < qs.length), j < k + 1 → ps[j].data.toList = qs[j].data.toList) := Lib.hid (fun j h1 h2 h => by
            by_cases e : j = k
            · subst e; exact he
            · exact hh.out j h1 h2 (by omega))
          have he' : (ps[k].toList == qs[k].toList) = true := by rw [Lib.toList_data, Lib.toList_data, he]; simp
          clear he
          generalize ps[k] = s at *
          generalize qs[k] = t at *
          go_wp2_with fail
          go_quiet (fail)
          go_wp2
          go_roundw
          case rel => exact ⟨k + 1, by omega, by omega, by go_num, ⟨_, rfl⟩, hh'⟩
          case measure => simp [intOf]; omega
        · have HF := Lib.hid (HEND.out (.inr (.inr ⟨hk1, hk2, he⟩)))
          have he' : (ps[k].toList == qs[k].toList) = false := by rw [Lib.toList_data, Lib.toList_data]; simpa using he
          clear he HEND
          generalize ps[k] = s at *
          generalize qs[k] = t at *
          go_wp2_with fail
          go_quiet (fail)
          go_wp2
          go_ret
          exact ⟨ret_int (by rw [HF.out]), drewN2 _ _ _⟩
      · have d2 : decide ((k : Int) < (qs.length : Int)) = false := by simp; omega
        have HF := Lib.hid (HEND.out (.inr (.inl (by omega))))
        clear HEND
        go_wp2_with fail
        go_quiet (fail)
        go_wp2
        go_ret
        exact ⟨ret_int (by rw [HF.out]), drewN2 _ _ _⟩
    · have d1 : decide ((k : Int) < (ps.length : Int)) = false := by simp; omega
      have HF := Lib.hid (HEND.out (.inl (by omega)))
      clear HEND
      go_wp2_with fail
      go_quiet (fail)
      go_wp2
      go_ret
      exact ⟨ret_int (by rw [HF.out]), drewN2 _ _ _⟩
theorem drewN_bel (w : World) (n : Nat) : Below w.heap.size w (w.drewN n) := ⟨rfl, rfl, rfl, Nat.le_refl _, fun _ _ => rfl⟩
end Go.Proofs.Ytbgfeonlnhlbfaa
