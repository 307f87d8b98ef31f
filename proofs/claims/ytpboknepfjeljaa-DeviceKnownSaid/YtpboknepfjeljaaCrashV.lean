/- What the law DeviceCrash wants: plain. -/
import Derived.Test.YtpboknepfjeljaaReadsV
namespace Go.Proofs.Ytpboknepfjeljaa
open Go.RowKit Go.MapKept
set_option maxRecDepth 100000

def Pu.wr (p : Pu) : Wr := ⟨(p.num : Int), p.sec⟩
theorem apply_want (W : List Sec) (p : Pu) : applyV W p.wr = wantP W p := by
  unfold applyV wantP Pu.wr
  rw [show ((p.num : Nat) : Int).toNat = p.num from Int.toNat_natCast _]
theorem settle_want : ∀ (B : List Pu) (W : List Sec), settleV W (B.map Pu.wr) = B.foldl wantP W
  | [], _ => rfl
  | p :: B, W => by
    show settleV (applyV W p.wr) (B.map Pu.wr) = _
    rw [apply_want, settle_want B]; rfl
/-- Where the writes begin that were not flushed. -/
def lastF (L : List Pu) : Nat → Nat
  | 0 => 0
  | k + 1 => if (L[k]?.map Pu.fl).getD false then k + 1 else lastF L k
theorem lastF_le (L : List Pu) : ∀ k, lastF L k ≤ k
  | 0 => Nat.le_refl _
  | k + 1 => by
    unfold lastF; split
    · exact Nat.le_refl _
    · have := lastF_le L k; omega
theorem lastF_succ (L : List Pu) (k : Nat) (hk : k < L.length) : lastF L (k + 1) = if L[k].fl then k + 1 else lastF L k := by
  show (if (L[k]?.map Pu.fl).getD false then k + 1 else lastF L k) = _
  rw [List.getElem?_eq_getElem hk]; rfl
theorem take_drop_snoc {α : Type} (L : List α) (k j : Nat) (hk : k < L.length) (hj : j ≤ k) : (L.take (k + 1)).drop j = (L.take k).drop j ++ [L[k]] := by
  rw [List.take_succ_eq_append_getElem hk, List.drop_append_of_le_length (by rw [List.length_take]; omega)]
theorem puts_shape (L : List Pu) : ∀ k, k ≤ L.length → (putsD (newD 64) (L.take k)).st = (L.take (lastF L k)).foldl wantP zs ∧ (putsD (newD 64) (L.take k)).ca = ((L.take k).drop (lastF L k)).map Pu.wr
  | 0, _ => ⟨rfl, rfl⟩
  | k + 1, hk => by
    have hk' : k < L.length := by omega
    obtain ⟨h1, h2⟩ := puts_shape L k (by omega)
    have hle := lastF_le L k
    rw [putsD_take _ _ _ hk', lastF_succ L k hk']
    generalize putsD (newD 64) (L.take k) = E at *
    unfold putD
    cases hf : L[k].fl with
    | true =>
      simp only [if_true]
      constructor
      · show settleV E.st (E.ca ++ [L[k].wr]) = _
        have e : E.ca ++ [L[k].wr] = ((L.take (k + 1)).drop (lastF L k)).map Pu.wr := by
          rw [h2, take_drop_snoc L k _ hk' hle, List.map_append]; rfl
        rw [e, settle_want, h1, ← List.foldl_append]
        congr 1
        conv => rhs; rw [← List.take_append_drop (lastF L k) (L.take (k + 1)), List.take_take, Nat.min_eq_left (by omega)]
      · show ([] : List Wr) = _
        rw [List.drop_of_length_le (by rw [List.length_take]; omega)]; rfl
    | false =>
      simp only [Bool.false_eq_true, if_false]
      refine ⟨h1, ?_⟩
      show E.ca ++ [L[k].wr] = _
      rw [take_drop_snoc L k _ hk' hle, List.map_append, h2]; rfl
/-- Which write is kept. -/
def bitB (keep : List UInt8) (k : Nat) : Bool := decide (k / 8 < keep.length) && decide ((keep.getD (k / 8) 0).toNat / 2 ^ (k % 8) % 2 = 1)
/-- What the law's second loop has, round by round. -/
def cw (L : List Pu) (keep : List UInt8) (last : Nat) : Nat → List Sec × List Int
  | 0 => (zs, [])
  | i + 1 => match L[i]? with
    | none => cw L keep last i
    | some p => if i < last then (wantP (cw L keep last i).1 p, (cw L keep last i).2) else if bitB keep (i - last) then (wantP (cw L keep last i).1 p, (cw L keep last i).2 ++ [((i - last : Nat) : Int)]) else cw L keep last i
theorem cw_lt {L : List Pu} {keep : List UInt8} {last i : Nat} (hi : i < L.length) (h : i < last) : cw L keep last (i + 1) = (wantP (cw L keep last i).1 L[i], (cw L keep last i).2) := by
  simp only [cw, List.getElem?_eq_getElem hi, if_pos h]
theorem cw_bit {L : List Pu} {keep : List UInt8} {last i : Nat} (hi : i < L.length) (h : ¬ i < last) (hb : bitB keep (i - last) = true) : cw L keep last (i + 1) = (wantP (cw L keep last i).1 L[i], (cw L keep last i).2 ++ [((i - last : Nat) : Int)]) := by
  simp only [cw, List.getElem?_eq_getElem hi, if_neg h, if_pos hb]
theorem cw_no {L : List Pu} {keep : List UInt8} {last i : Nat} (hi : i < L.length) (h : ¬ i < last) (hb : bitB keep (i - last) = false) : cw L keep last (i + 1) = cw L keep last i := by
  simp only [cw, List.getElem?_eq_getElem hi, if_neg h]
  rw [if_neg (by rw [hb]; simp)]
theorem cw_before (L : List Pu) (keep : List UInt8) (last : Nat) (hl : last ≤ L.length) : ∀ i, i ≤ last → cw L keep last i = ((L.take i).foldl wantP zs, [])
  | 0, _ => rfl
  | i + 1, h => by
    rw [cw_lt (by omega) (by omega), cw_before L keep last hl i (by omega), List.take_succ_eq_append_getElem (by omega : i < L.length), List.foldl_append]; rfl
theorem ascB_snoc : ∀ (K : List Int) (m : Int), ascB K = true → (∀ x ∈ K, x < m) → ascB (K ++ [m]) = true
  | [], _, _, _ => rfl
  | [a], m, _, h => by simp [ascB]; exact h a (by simp)
  | a :: b :: r, m, h, hx => by
    simp only [ascB, Bool.and_eq_true, decide_eq_true_eq] at h
    have := ascB_snoc (b :: r) m h.2 (fun x hx' => hx x (by simp [hx']))
    simp only [List.cons_append, ascB, Bool.and_eq_true, decide_eq_true_eq] at this ⊢
    exact ⟨h.1, this⟩
theorem keptV_snoc (ca : List Wr) (K : List Int) (m : Nat) (hm : m < ca.length) : keptV ca (K ++ [(m : Int)]) = keptV ca K ++ [ca[m]] := by
  unfold keptV
  rw [List.filterMap_append]
  simp [hm]
theorem cw_after (L : List Pu) (keep : List UInt8) (last : Nat) (hl : last ≤ L.length) : ∀ m, last + m ≤ L.length → (cw L keep last (last + m)).1 = settleV ((L.take last).foldl wantP zs) (keptV ((L.drop last).map Pu.wr) (cw L keep last (last + m)).2) ∧ ascB (cw L keep last (last + m)).2 = true ∧ ∀ x ∈ (cw L keep last (last + m)).2, 0 ≤ x ∧ x < m
  | 0, _ => by rw [Nat.add_zero, cw_before L keep last hl last (Nat.le_refl _)]; exact ⟨rfl, rfl, fun x h => by cases h⟩
  | m + 1, h => by
    obtain ⟨h1, h2, h3⟩ := cw_after L keep last hl m (by omega)
    have hi : last + m < L.length := by omega
    have e : last + m - last = m := by omega
    rw [show last + (m + 1) = last + m + 1 from by omega]
    cases hb : bitB keep m with
    | true =>
      rw [cw_bit hi (by omega) (by rw [e]; exact hb), e]
      refine ⟨?_, ascB_snoc _ _ h2 (fun x hx => (h3 x hx).2), fun x hx => ?_⟩
      · have hm : m < ((L.drop last).map Pu.wr).length := by simp; omega
        rw [keptV_snoc _ _ _ hm, settleV_snoc, ← h1]
        have eg : ((L.drop last).map Pu.wr)[m] = (L[last + m]).wr := by simp
        rw [eg, apply_want]
      · rcases List.mem_append.1 hx with hx | hx
        · have := h3 x hx; omega
        · rw [List.mem_singleton.1 hx]; omega
    | false =>
      rw [cw_no hi (by omega) (by rw [e]; exact hb)]
      exact ⟨h1, h2, fun x hx => by have := h3 x hx; omega⟩
/-- After the crash the device reads as the law wants. -/
theorem crash_reads (L : List Pu) (keep : List UInt8) : keepE (putsD (newD 64) L).ca.length (cw L keep (lastF L L.length) L.length).2 = 0 ∧ ReadsAs (crashedD (putsD (newD 64) L) (cw L keep (lastF L L.length) L.length).2) (cw L keep (lastF L L.length) L.length).1 ∧ (putsD (newD 64) L).ca.length = L.length - lastF L L.length := by
  have hle := lastF_le L L.length
  obtain ⟨s1, s2⟩ := puts_shape L L.length (Nat.le_refl _)
  rw [List.take_length] at s1 s2
  obtain ⟨c1, c2, c3⟩ := cw_after L keep (lastF L L.length) hle (L.length - lastF L L.length) (by omega)
  rw [show lastF L L.length + (L.length - lastF L L.length) = L.length from by omega] at c1 c2 c3
  generalize lastF L L.length = last at *
  generalize (cw L keep last L.length).2 = K at *
  have hlen : (putsD (newD 64) L).ca.length = L.length - last := by rw [s2]; simp
  refine ⟨?_, ?_, hlen⟩
  · unfold keepE
    rw [hlen, if_pos (List.all_eq_true.2 fun x hx => inS_mk (c3 x hx).1 (by have := (c3 x hx).2; omega)), if_pos c2]
  · have hst : (crashedD (putsD (newD 64) L) K).st = (cw L keep last L.length).1 := by
      show settleV (putsD (newD 64) L).st (keptV (putsD (newD 64) L).ca K) = _
      rw [s1, s2, c1]
    have hl : (cw L keep last L.length).1.length = 64 := by
      rw [c1, settleV_len, want_len]; simp [zs]
    refine ⟨by rw [hst]; exact hl, hl, (fun w hw => by cases hw), fun n hn => ?_⟩
    show readsV (crashedD (putsD (newD 64) L) K).st [] (n : Int) = _
    rw [readsV_nil, Int.toNat_natCast, hst]
theorem cw_len (L : List Pu) (keep : List UInt8) (last : Nat) : ∀ i, (cw L keep last i).1.length = 64 ∧ (cw L keep last i).2.length ≤ i
  | 0 => ⟨by simp [cw, zs], Nat.le_refl _⟩
  | i + 1 => by
    obtain ⟨h1, h2⟩ := cw_len L keep last i
    simp only [cw]
    split
    · exact ⟨h1, Nat.le_succ_of_le h2⟩
    · split
      · exact ⟨by simp [wantP, h1], Nat.le_succ_of_le h2⟩
      · split
        · exact ⟨by simp [wantP, h1], by simp; omega⟩
        · exact ⟨h1, Nat.le_succ_of_le h2⟩
theorem ints_of_row {w : World} {base : Nat} {v : Value} {K : List Int} (h : w.ownsRow base 3 1 v K.length (K.map (Value.int .i64))) : IntsAt w v K := by
  rcases h.2 with ⟨rfl, h0⟩ | ⟨g, cap, cur, rfl, _, hg, _⟩
  · exact .inl ⟨none, 0, rfl, List.eq_nil_of_length_eq_zero h0⟩
  · refine .inr ⟨g, 0, cap, rfl, (Array.getElem?_eq_some_iff.1 hg).1, fun k hk => ?_⟩
    have := h.cells (g := g) rfl k (.int .i64 K[k]) (by simp [hk])
    rw [addr_add0] at this
    exact this
theorem slice_own {v : Value} {g o m c : Nat} (h : v = .slice (some ⟨g, o, none⟩) m c) : v.ownBlock = some g := by subst h; rfl
end Go.Proofs.Ytpboknepfjeljaa
