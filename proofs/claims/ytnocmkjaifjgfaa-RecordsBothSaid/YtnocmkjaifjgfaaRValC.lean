/- What is written is read; what is read is written so; records one after the other. Plain words. -/
import Derived.Test.YtnocmkjaifjgfaaRLaw
namespace Go.Proofs.Ytnocmkjaifjgfaa.R

theorem valE_0 {c : Nat} {v : Rv} (h : valE c v = 0) : ¬ ((c ≠ 115 ∧ 0 < v.str.size) ∨ (c ≠ 108 ∧ 0 < v.list.length) ∨ ((c = 115 ∨ c = 108) ∧ 0 < v.num)) ∧ ¬ (0 < widV c ∧ widV c < 8 ∧ 256 ^ widV c ≤ v.num) ∧ ¬ (400 < v.str.size ∨ 60 < v.list.length) := by
  unfold valE at h
  cases hb : badF c v with
  | true => rw [hb] at h; simp at h
  | false =>
    rw [hb] at h
    simp only [Bool.false_eq_true, if_false] at h
    refine ⟨?_, ?_⟩
    · unfold badF at hb; exact of_decide_eq_false hb
    · split at h
      · omega
      · split at h
        · omega
        · exact ⟨by assumption, by assumption⟩
theorem valE_of {c : Nat} {v : Rv} (h1 : ¬ ((c ≠ 115 ∧ 0 < v.str.size) ∨ (c ≠ 108 ∧ 0 < v.list.length) ∨ ((c = 115 ∨ c = 108) ∧ 0 < v.num))) (h2 : ¬ (0 < widV c ∧ widV c < 8 ∧ 256 ^ widV c ≤ v.num)) (h3 : ¬ (400 < v.str.size ∨ 60 < v.list.length)) : valE c v = 0 := by
  unfold valE badF
  rw [decide_eq_false h1, if_neg (by simp), if_neg h2, if_neg h3]
/-- The four forms of a value that may be written. -/
theorem val_forms {c : Nat} {v : Rv} (hk : kindB c = true) (h : valE c v = 0) (hok : v.Ok) :
    (0 < widV c ∧ v.str = ⟨#[]⟩ ∧ v.list = [] ∧ v.num < 256 ^ widV c ∧ valL c v = lowL v.num (widV c)) ∨
    (c = 118 ∧ v.str = ⟨#[]⟩ ∧ v.list = [] ∧ valL c v = grpL v.num) ∨
    (c = 115 ∧ v.num = 0 ∧ v.list = [] ∧ v.str.size ≤ 400 ∧ valL c v = grpL v.str.size ++ v.str.data.toList) ∨
    (c = 108 ∧ v.num = 0 ∧ v.str = ⟨#[]⟩ ∧ v.list.length ≤ 60 ∧ valL c v = grpL v.list.length ++ lowsL v.list) := by
  obtain ⟨h1, h2, h3⟩ := valE_0 h
  have hn := hok.num
  rcases letters hk with ⟨hw, _, _, _⟩ | rfl | rfl | rfl
  · left
    have hc : c ≠ 118 ∧ c ≠ 115 ∧ c ≠ 108 := by
      rcases wid_cases c with h | ⟨h, _⟩ | ⟨h, _⟩ | ⟨h, _⟩ | ⟨h, _⟩ <;> omega
    refine ⟨hw, str_eq0 (fun e => h1 (.inl ⟨hc.2.1, e⟩)), list_eq0 (fun e => h1 (.inr (.inl ⟨hc.2.2, e⟩))), ?_, ?_⟩
    · by_cases h8 : widV c < 8
      · have : ¬ 256 ^ widV c ≤ v.num := fun e => h2 ⟨hw, h8, e⟩
        omega
      · have : widV c = 8 := by have := wid_le c; omega
        rw [this]; omega
    · unfold valL; rw [if_neg hc.1, if_neg hc.2.1, if_neg hc.2.2]
  · exact .inr (.inl ⟨rfl, str_eq0 (fun e => h1 (.inl ⟨by decide, e⟩)), list_eq0 (fun e => h1 (.inr (.inl ⟨by decide, e⟩))), rfl⟩)
  · exact .inr (.inr (.inl ⟨rfl, by have : ¬ 0 < v.num := fun e => h1 (.inr (.inr ⟨.inl rfl, e⟩))
                                    omega, list_eq0 (fun e => h1 (.inr (.inl ⟨by decide, e⟩))), by omega, rfl⟩))
  · exact .inr (.inr (.inr ⟨rfl, by have : ¬ 0 < v.num := fun e => h1 (.inr (.inr ⟨.inr rfl, e⟩))
                                    omega, str_eq0 (fun e => h1 (.inl ⟨by decide, e⟩)), by omega, rfl⟩))
theorem rv_eta (v : Rv) : v = ⟨v.num, v.str, v.list⟩ := rfl
theorem grpD_pre (n : Nat) (x : List UInt8) (h : n < 18446744073709551616) : grpD (grpL n ++ x) = (n, (grpL n).length, 0) := grpD_L n x h

/-- What is written is read. -/
theorem oneD_valL (c : Nat) (v : Rv) (x : List UInt8) (hk : kindB c = true) (hE : valE c v = 0) (hok : v.Ok) : oneD c (valL c v ++ x) = (v, (valL c v).length, 0) := by
  have hn := hok.num
  obtain ⟨num, str, list⟩ := v
  rcases val_forms hk hE hok with ⟨hw, rfl, rfl, hl, hv⟩ | ⟨rfl, rfl, rfl, hv⟩ | ⟨rfl, rfl, rfl, hs, hv⟩ | ⟨rfl, rfl, rfl, hs, hv⟩
  · rw [hv, oneD_w hw, if_neg (by rw [List.length_append, lowL_len]; omega), List.take_left' (lowL_len _ _), numL_low _ _ hl, lowL_len]; rfl
  · rw [hv, oneD_118', grpD_pre _ _ hn]; rfl
  · have hz : str.size < 18446744073709551616 := by simp at hs; omega
    have h1 := (oneD_115 (valL 115 ⟨0, str, []⟩ ++ x)).2.2
    rw [hv] at h1 ⊢
    rw [List.append_assoc] at h1 ⊢
    unfold cntE at h1
    simp only [grpD_pre str.size (str.data.toList ++ x) hz] at h1
    have hlen := size_data str
    simp at hs
    rw [if_neg (by simp), if_neg (by omega), if_neg (by rw [List.length_append, List.length_append]; omega)] at h1
    rw [h1 rfl, List.drop_left, Nat.mul_one, List.take_left' hlen, List.length_append, hlen]
  · have hz : list.length < 18446744073709551616 := by simp at hs; omega
    have h1 := (oneD_108 (valL 108 ⟨0, ⟨#[]⟩, list⟩ ++ x)).2
    rw [hv] at h1 ⊢
    rw [List.append_assoc] at h1 ⊢
    unfold cntE at h1
    simp only [grpD_pre list.length (lowsL list ++ x) hz] at h1
    have hlen := lowsL_len list
    simp at hs
    rw [if_neg (by simp), if_neg (by omega), if_neg (by rw [List.length_append, List.length_append]; omega)] at h1
    rw [(h1 rfl).2.2, List.drop_left, List.take_left' (by omega), List.length_append, hlen]
    have := numsL_lows list [] hok.list
    rw [List.append_nil] at this
    rw [this, Nat.mul_comm]; rfl
theorem take_app {a b : List UInt8} {k : Nat} (h : a.length ≤ k) : (a ++ b).take k = a ++ b.take (k - a.length) := by
  rw [List.take_append, List.take_of_length_le h]
/-- Fewer bytes: more are needed. -/
theorem oneD_cut (c : Nat) (v : Rv) (k : Nat) (hk : kindB c = true) (hE : valE c v = 0) (hok : v.Ok) (hlt : k < (valL c v).length) : (oneD c ((valL c v).take k)).2.2 = 10 := by
  have hn := hok.num
  obtain ⟨num, str, list⟩ := v
  rcases val_forms hk hE hok with ⟨hw, rfl, rfl, hl, hv⟩ | ⟨rfl, rfl, rfl, hv⟩ | ⟨rfl, rfl, rfl, hs, hv⟩ | ⟨rfl, rfl, rfl, hs, hv⟩
  · rw [hv] at hlt ⊢
    rw [lowL_len] at hlt
    rw [oneD_w hw, if_pos (by rw [List.length_take, lowL_len]; omega)]
  · rw [hv] at hlt ⊢
    rw [oneD_118', grpD_cut _ _ hlt]
  · have hv' : valL 115 ⟨0, str, []⟩ = grpL str.size ++ str.data.toList := hv
    have hs' : str.size ≤ 400 := hs
    rw [hv'] at hlt ⊢
    clear hv hs
    rw [(oneD_115 _).1]
    unfold cntE
    by_cases hg : k < (grpL str.size).length
    · rw [List.take_append_of_le_length (by omega), grpD_cut _ _ hg]; rfl
    · rw [take_app (by omega), grpD_pre _ _ (by omega)]
      have hlen := size_data str
      rw [List.length_append] at hlt
      simp only []
      rw [if_neg (by simp), if_neg (by omega), if_pos (by rw [List.length_append, List.length_take]; omega)]
  · have hv' : valL 108 ⟨0, ⟨#[]⟩, list⟩ = grpL list.length ++ lowsL list := hv
    have hs' : list.length ≤ 60 := hs
    rw [hv'] at hlt ⊢
    clear hv hs
    have h1 := (oneD_108 ((grpL list.length ++ lowsL list).take k)).1
    have hc : cntE 60 4 ((grpL list.length ++ lowsL list).take k) = 10 := by
      unfold cntE
      by_cases hg : k < (grpL list.length).length
      · rw [List.take_append_of_le_length (by omega), grpD_cut _ _ hg]; rfl
      · rw [take_app (by omega), grpD_pre _ _ (by omega)]
        have hlen := lowsL_len list
        rw [List.length_append] at hlt
        simp only []
        rw [if_neg (by simp), if_neg (by omega), if_pos (by rw [List.length_append, List.length_take]; omega)]
    rw [h1 (by rw [hc]; decide), hc]

theorem dec_enc : ∀ (s : List UInt8) (l : List Rv) (x : List UInt8), (∀ j (h : j < s.length), kindB s[j].toNat = true) → l.length = s.length → valsE s l = 0 → (∀ v ∈ l, v.Ok) → decV s (valsL s l ++ x) = (l, (valsL s l).length, 0)
  | [], [], x, _, _, _, _ => rfl
  | c :: s, v :: l, x, hk, hl, hE, hok => by
    have h0 := hk 0 (by simp)
    simp only [List.getElem_cons_zero] at h0
    simp only [valsE] at hE
    by_cases hv : valE c.toNat v = 0
    · rw [if_neg (by omega)] at hE
      have ih := dec_enc s l x (fun j h => by have := hk (j + 1) (by simpa using h); simpa using this) (by simpa using hl) hE (fun y hy => hok y (by simp [hy]))
      have h1 := oneD_valL c.toNat v (valsL s l ++ x) h0 hv (hok v (by simp))
      simp only [valsL, List.append_assoc, decV, h1]
      rw [if_neg (by simp), List.drop_left, ih]
      unfold combD
      simp
    · rw [if_pos hv] at hE; exact absurd hE hv
theorem dec_cut : ∀ (s : List UInt8) (l : List Rv) (k : Nat), (∀ j (h : j < s.length), kindB s[j].toNat = true) → l.length = s.length → valsE s l = 0 → (∀ v ∈ l, v.Ok) → k < (valsL s l).length → (decV s ((valsL s l).take k)).2.2 = 10
  | [], [], k, _, _, _, _, h => by simp [valsL] at h
  | c :: s, v :: l, k, hk, hl, hE, hok, hlt => by
    have h0 := hk 0 (by simp)
    simp only [List.getElem_cons_zero] at h0
    simp only [valsE] at hE
    by_cases hv : valE c.toNat v = 0
    · rw [if_neg (by omega)] at hE
      simp only [valsL] at hlt ⊢
      by_cases hg : k < (valL c.toNat v).length
      · have h1 := oneD_cut c.toNat v k h0 hv (hok v (by simp)) hg
        rw [List.take_append_of_le_length (by omega), decV, if_pos (by omega)]
        exact h1
      · rw [List.length_append] at hlt
        have ih := dec_cut s l (k - (valL c.toNat v).length) (fun j h => by have := hk (j + 1) (by simpa using h); simpa using this) (by simpa using hl) hE (fun y hy => hok y (by simp [hy])) (by omega)
        have h1 := oneD_valL c.toNat v ((valsL s l).take (k - (valL c.toNat v).length)) h0 hv (hok v (by simp))
        rw [take_app (by omega)]
        simp only [decV, h1]
        rw [if_neg (by simp), List.drop_left]
        unfold combD
        rw [if_pos (by omega)]
        exact ih
    · rw [if_pos hv] at hE; exact absurd hE hv

theorem encE_0 {s : List UInt8} {l : List Rv} (h : encE s l = 0) : formE s = 0 ∧ l.length = s.length ∧ valsE s l = 0 ∧ (valsL s l).length ≤ 4000 ∧ encL s l = valsL s l := by
  have hL : encL s l = valsL s l := by unfold encL; rw [if_pos h]
  unfold encE at h
  by_cases h1 : formE s ≠ 0
  · rw [if_pos h1] at h; exact absurd h h1
  · rw [if_neg h1] at h
    by_cases h2 : l.length ≠ s.length
    · rw [if_pos h2] at h; omega
    · rw [if_neg h2] at h
      by_cases h3 : valsE s l ≠ 0
      · rw [if_pos h3] at h; exact absurd h h3
      · rw [if_neg h3] at h
        by_cases h4 : 4000 < (valsL s l).length
        · rw [if_pos h4] at h; omega
        · exact ⟨by omega, by omega, by omega, by omega, hL⟩
theorem encE_of {s : List UInt8} {l : List Rv} (h1 : formE s = 0) (h2 : l.length = s.length) (h3 : valsE s l = 0) : encE s l = if 4000 < (valsL s l).length then 3 else 0 := by
  unfold encE; rw [if_neg (by omega), if_neg (by omega), if_neg (by omega)]
theorem round_dec {s : List UInt8} {l : List Rv} (x : List UInt8) (h : encE s l = 0) (hok : ∀ v ∈ l, v.Ok) : decR s (encL s l ++ x) = (l, (encL s l).length, 0) := by
  obtain ⟨h1, h2, h3, h4, h5⟩ := encE_0 h
  have hd := dec_enc s l x (formE_kind h1).2 h2 h3 hok
  unfold decR
  rw [h5, if_neg (by omega), hd, if_neg (by simp), if_neg (by simp; omega)]
theorem round_cut {s : List UInt8} {l : List Rv} (k : Nat) (h : encE s l = 0) (hok : ∀ v ∈ l, v.Ok) (hk : k < (encL s l).length) : decR s ((encL s l).take k) = ([], 0, 10) := by
  obtain ⟨h1, h2, h3, h4, h5⟩ := encE_0 h
  rw [h5] at hk ⊢
  have hd := dec_cut s l k (formE_kind h1).2 h2 h3 hok hk
  unfold decR
  rw [if_neg (by omega), hd, if_pos (by decide)]

/-! ### what is read is written so -/
theorem one_enc {c : Nat} {b : List UInt8} (hk : kindB c = true) (h : (oneD c b).2.2 = 0) : valE c (oneD c b).1 = 0 ∧ valL c (oneD c b).1 = b.take (oneD c b).2.1 ∧ (oneD c b).1.Ok := by
  have hle := oneD_le c b h
  rcases letters hk with ⟨hw, _, _, _⟩ | rfl | rfl | rfl
  · have hc : c ≠ 118 ∧ c ≠ 115 ∧ c ≠ 108 := by
      rcases wid_cases c with h | ⟨h, _⟩ | ⟨h, _⟩ | ⟨h, _⟩ | ⟨h, _⟩ <;> omega
    rw [oneD_w hw] at h hle ⊢
    by_cases hl : b.length < widV c
    · rw [if_pos hl] at h; simp at h
    · rw [if_neg hl]
      have ht : (b.take (widV c)).length = widV c := by rw [List.length_take]; omega
      have h1 := numL_lt (b.take (widV c))
      have h2 := low_numL (b.take (widV c))
      rw [ht] at h1 h2
      have h8 := wid_le c
      refine ⟨valE_of (by simp [hc]) (by simp; omega) (by simp), ?_, ⟨?_, by simp⟩⟩
      · unfold valL; rw [if_neg hc.1, if_neg hc.2.1, if_neg hc.2.2]; exact h2
      · have : 256 ^ widV c ≤ 256 ^ 8 := Nat.pow_le_pow_right (by omega) h8
        show numL (b.take (widV c)) < _
        omega
  · rw [oneD_118'] at h ⊢
    obtain ⟨h1, h2, h3⟩ := grpD_one b h
    exact ⟨valE_of (by simp) (by simp [widV]) (by simp), h1, ⟨h3, by simp⟩⟩
  · obtain ⟨h1, h2, h3⟩ := oneD_115 b
    rw [h1] at h
    rw [h3 h]
    unfold cntE at h
    by_cases e1 : (grpD b).2.2 ≠ 0
    · rw [if_pos e1] at h; exact absurd h e1
    rw [if_neg e1] at h
    by_cases e2 : 400 < (grpD b).1
    · rw [if_pos e2] at h; omega
    rw [if_neg e2] at h
    by_cases e3 : b.length - (grpD b).2.1 < (grpD b).1 * 1
    · rw [if_pos e3] at h; omega
    obtain ⟨g1, g2, g3⟩ := grpD_one b (by omega)
    have hs : (⟨((b.drop (grpD b).2.1).take ((grpD b).1 * 1)).toArray⟩ : ByteArray).size = (grpD b).1 := by
      rw [← size_data]; simp; omega
    refine ⟨valE_of (by simp) (by simp [widV]) (by rw [hs]; simp; omega), ?_, ⟨by simp, by simp⟩⟩
    show grpL (ByteArray.size _) ++ _ = _
    rw [hs, g1, List.take_add]
  · obtain ⟨h1, h2⟩ := oneD_108 b
    by_cases h0 : cntE 60 4 b = 0
    · obtain ⟨e1, e2, e3⟩ := h2 h0
      rw [e3]
      unfold cntE at h0
      by_cases e4 : (grpD b).2.2 ≠ 0
      · rw [if_pos e4] at h0; exact absurd h0 e4
      obtain ⟨g1, g2, g3⟩ := grpD_one b (by omega)
      refine ⟨valE_of (by simp) (by simp [widV]) (by simp [numsL_len]; exact e1), ?_, ⟨by simp, fun x hx => numsL_lt _ _ x hx⟩⟩
      show grpL (numsL _ _).length ++ lowsL (numsL _ _) = _
      rw [numsL_len, g1, lows_numsL _ _ (by rw [List.length_take, List.length_drop]; omega), List.take_add]
      congr 1
      rw [List.take_take]; congr 1; omega
    · rw [h1 h0] at h; exact absurd h h0
theorem decV_one : ∀ (s : List UInt8) (b : List UInt8), (∀ j (h : j < s.length), kindB s[j].toNat = true) → (decV s b).2.2 = 0 →
    (decV s b).1.length = s.length ∧ valsE s (decV s b).1 = 0 ∧ valsL s (decV s b).1 = b.take (decV s b).2.1 ∧ (∀ v ∈ (decV s b).1, v.Ok) ∧ (decV s b).2.1 ≤ b.length
  | [], b, _, _ => by simp [decV, valsE, valsL]
  | c :: s, b, hk, h => by
    have h0 := hk 0 (by simp)
    simp only [List.getElem_cons_zero] at h0
    simp only [decV] at h ⊢
    by_cases h1 : (oneD c.toNat b).2.2 ≠ 0
    · rw [if_pos h1] at h; exact absurd h h1
    rw [if_neg h1] at h ⊢
    have h1' : (oneD c.toNat b).2.2 = 0 := by omega
    obtain ⟨e1, e2, e3⟩ := one_enc h0 h1'
    have hle := oneD_le c.toNat b h1'
    unfold combD at h ⊢
    by_cases h2 : (decV s (b.drop (oneD c.toNat b).2.1)).2.2 ≠ 0
    · rw [if_pos h2] at h; exact absurd h h2
    rw [if_neg h2]
    obtain ⟨i1, i2, i3, i4, i5⟩ := decV_one s (b.drop (oneD c.toNat b).2.1) (fun j h => by have := hk (j + 1) (by simpa using h); simpa using this) (by omega)
    rw [List.length_drop] at i5
    refine ⟨by simp [i1], ?_, ?_, ?_, by show _ + _ ≤ _; omega⟩
    · simp only [List.cons_append, List.nil_append, valsE]; rw [if_neg (by omega)]; exact i2
    · simp only [List.cons_append, List.nil_append, valsL]; rw [e2, i3, List.take_add]
    · intro v hv; simp at hv; rcases hv with rfl | hv
      · exact e3
      · exact i4 v hv
theorem one_rec {s b : List UInt8} (h : (decR s b).2.2 = 0) : encE s (decR s b).1 = 0 ∧ encL s (decR s b).1 = b.take (decR s b).2.1 ∧ (∀ v ∈ (decR s b).1, v.Ok) ∧ (decR s b).2.1 ≤ b.length ∧ (decR s b).1.length = s.length := by
  unfold decR at h ⊢
  by_cases h1 : formE s ≠ 0
  · rw [if_pos h1] at h; exact absurd h h1
  rw [if_neg h1] at h ⊢
  by_cases h2 : (decV s b).2.2 ≠ 0
  · rw [if_pos h2] at h; exact absurd h h2
  rw [if_neg h2] at h ⊢
  by_cases h3 : 4000 < (decV s b).2.1
  · rw [if_pos h3] at h; simp at h
  rw [if_neg h3]
  obtain ⟨i1, i2, i3, i4, i5⟩ := decV_one s b (formE_kind (by omega)).2 (by omega)
  have hE : encE s (decV s b).1 = 0 := by
    rw [encE_of (by omega) i1 i2, i3, if_neg (by rw [List.length_take]; omega)]
  exact ⟨hE, by rw [(encE_0 hE).2.2.2.2, i3], i4, i5, i1⟩
theorem decR_bad {s b : List UInt8} (h : (decR s b).2.2 ≠ 0) : (decR s b).1 = [] ∧ (decR s b).2.1 = 0 := by
  unfold decR at h ⊢
  by_cases h1 : formE s ≠ 0
  · rw [if_pos h1]; exact ⟨rfl, rfl⟩
  rw [if_neg h1] at h ⊢
  by_cases h2 : (decV s b).2.2 ≠ 0
  · rw [if_pos h2]; exact ⟨rfl, rfl⟩
  rw [if_neg h2] at h ⊢
  by_cases h3 : 4000 < (decV s b).2.1
  · rw [if_pos h3]; exact ⟨rfl, rfl⟩
  rw [if_neg h3] at h; exact absurd h h2
theorem encL_bad {s : List UInt8} {l : List Rv} (h : encE s l ≠ 0) : encL s l = [] := by unfold encL; rw [if_neg h]

/-! ### one after the other -/
theorem vals_app : ∀ (s t : List UInt8) (l m : List Rv), l.length = s.length → valsE s l = 0 → valsE (s ++ t) (l ++ m) = valsE t m ∧ valsL (s ++ t) (l ++ m) = valsL s l ++ valsL t m
  | [], t, [], m, _, _ => ⟨rfl, rfl⟩
  | c :: s, t, v :: l, m, hl, hE => by
    simp only [valsE] at hE
    by_cases hv : valE c.toNat v = 0
    · rw [if_neg (by omega)] at hE
      obtain ⟨i1, i2⟩ := vals_app s t l m (by simpa using hl) hE
      simp only [List.cons_append, valsE, valsL]
      rw [if_neg (by omega), i1, i2, List.append_assoc]
      exact ⟨rfl, rfl⟩
    · rw [if_pos hv] at hE; exact absurd hE hv
theorem form_app {s t : List UInt8} (hs : s.length ≤ 32) (ht : t.length ≤ 32) (h1 : formE s = 0) (h2 : formE t = 0) : formE (s ++ t) = 0 := by
  have k1 := (formE_kind h1).2
  have k2 := (formE_kind h2).2
  unfold formE
  rw [if_neg (by rw [List.length_append]; omega), List.all_append, all_true k1, all_true k2]; rfl
theorem both_rec {s t : List UInt8} {l m : List Rv} (hs : s.length ≤ 32) (ht : t.length ≤ 32) (h1 : encE s l = 0) (h2 : encE t m = 0) :
    encE (s ++ t) (l ++ m) = (if 4000 < (encL s l).length + (encL t m).length then 3 else 0) ∧ (¬ 4000 < (encL s l).length + (encL t m).length → encL (s ++ t) (l ++ m) = encL s l ++ encL t m) := by
  obtain ⟨a1, a2, a3, a4, a5⟩ := encE_0 h1
  obtain ⟨b1, b2, b3, b4, b5⟩ := encE_0 h2
  obtain ⟨c1, c2⟩ := vals_app s t l m a2 a3
  have hE : encE (s ++ t) (l ++ m) = (if 4000 < (encL s l).length + (encL t m).length then 3 else 0) := by
    rw [encE_of (form_app hs ht a1 b1) (by simp [a2, b2]) (by rw [c1]; exact b3), c2, List.length_append, a5, b5]
  refine ⟨hE, fun hn => ?_⟩
  unfold encL
  rw [if_pos (by rw [hE, if_neg hn]), if_pos h1, if_pos h2, c2]
end Go.Proofs.Ytnocmkjaifjgfaa.R
