/- The reference's decimal. -/
import Derived.Test.YtnmkcohfhomenaaDoorSame
import Derived.Deep.Cut
import Derived.Deep.CutRange
namespace Go.Proofs.YtnmkcohfhomenaaDoor
open Go.RowKit

/-- Is l the decimal form of an integer, with a sign or without? -/
def decR (l : List UInt8) : Bool := decD (Lib.trimPrefix l [45]) && !(l == [45, 48])

/-- What is left when the sign is taken away. -/
def cutM (l : List UInt8) : List UInt8 := match l with
  | 45 :: c :: r => if c = 48 then l else c :: r
  | _ => l
theorem decD_45 (r : List UInt8) : decD (45 :: r) = false := by
  unfold decD; simp [digB]
theorem decR_cutM (l : List UInt8) : decR l = decD (cutM l) := by
  unfold cutM
  split
  · rename_i c r
    split
    · rename_i h; subst h
      rw [decD_45]
      unfold decR
      have e : Lib.trimPrefix (45 :: 48 :: r) [45] = 48 :: r := rfl
      rw [e]
      cases r with
      | nil => rfl
      | cons x xs => rw [Bool.and_eq_false_iff]; left; unfold decD; simp
    · rename_i h
      unfold decR
      have e : Lib.trimPrefix (45 :: c :: r) [45] = c :: r := rfl
      rw [e]
      have : ((45 :: c :: r : List UInt8) == [45, 48]) = false := by
        rw [beq_eq_false_iff_ne]; intro hh; injection hh with _ h2; injection h2 with h3 _; exact h h3
      rw [this]; simp
  · rename_i hno
    cases l with
    | nil => rfl
    | cons a r =>
      by_cases ha : a = 45
      · subst ha
        cases r with
        | nil => decide
        | cons c r => exact absurd rfl (hno c r)
      · unfold decR
        have e : Lib.trimPrefix (a :: r) [45] = a :: r := by
          unfold Lib.trimPrefix
          rw [if_neg]
          rw [show Lib.hasPrefix (a :: r) [45] = ((45 : UInt8) == a && true) from rfl, Bool.and_true, beq_eq_false_iff_ne.2 (Ne.symm ha)]; decide
        rw [e]
        have : ((a :: r : List UInt8) == [45, 48]) = false := by
          rw [beq_eq_false_iff_ne]; intro hh; injection hh with h1 _; exact ha h1
        rw [this]; simp

theorem eq_of_data {a b : ByteArray} (h : a.data.toList = b.data.toList) : a = b := by
  apply ByteArray.ext; exact Array.ext' h
theorem list_two (s : ByteArray) (h1 : 1 < s.size) : s.data.toList = s[0] :: s[1] :: s.data.toList.drop 2 := by
  have hl : 1 < s.data.toList.length := by rw [size_len]; exact h1
  conv => lhs; rw [← List.drop_zero (l := s.data.toList), List.drop_eq_getElem_cons (by omega), List.drop_eq_getElem_cons (by omega)]
  rfl
theorem list_one (s : ByteArray) (h1 : 0 < s.size) : s.data.toList = s[0] :: s.data.toList.drop 1 := by
  have hl : 0 < s.data.toList.length := by rw [size_len]; exact h1
  conv => lhs; rw [← List.drop_zero (l := s.data.toList), List.drop_eq_getElem_cons (by omega)]
  rfl
theorem u8_eq {c : UInt8} {n : Nat} (h : c.toNat = n) (hn : n < 256) : c = UInt8.ofNat n := by
  apply UInt8.toNat.inj; rw [UInt8.toNat_ofNat', Nat.mod_eq_of_lt hn]; exact h
theorem cutM_len (l : List UInt8) : (cutM l).length ≤ l.length := by
  unfold cutM; split
  · split
    · exact Nat.le_refl _
    · simp
  · exact Nat.le_refl _
theorem cutM_keep2 (s : ByteArray) (h1 : 1 < s.size) (ha : s[0].toNat = 45) (hb : s[1].toNat = 48) : cutM s.data.toList = s.data.toList := by
  rw [list_two s h1, u8_eq ha (by omega), u8_eq hb (by omega)]; rfl
theorem cutM_cut (s : ByteArray) (h1 : 1 < s.size) (ha : s[0].toNat = 45) (hb : ¬ s[1].toNat = 48) : cutM s.data.toList = s.data.toList.drop 1 := by
  rw [list_two s h1, u8_eq ha (by omega)]
  show (if s[1] = 48 then _ else _) = _
  rw [if_neg (fun h => hb (by rw [h]; rfl))]; rfl
theorem cutM_keep1 (s : ByteArray) (h1 : 0 < s.size) (ha : ¬ s[0].toNat = 45) : cutM s.data.toList = s.data.toList := by
  rw [list_one s h1]
  unfold cutM; split
  · rename_i c r h; injection h with h2 _; exact absurd (by rw [h2]; rfl) ha
  · rfl
theorem cutM_keep0 (s : ByteArray) (h1 : ¬ 1 < s.size) : cutM s.data.toList = s.data.toList := by
  have hl : s.data.toList.length ≤ 1 := by rw [size_len]; omega
  unfold cutM; split
  · rename_i c r h; rw [h] at hl; simp at hl
  · rfl

theorem decD_lead (s : ByteArray) (h1 : 1 < s.size) (h : s[0].toNat = 48) : decD s.data.toList = false := by
  rw [list_two s h1]; unfold decD; simp [h]
theorem decD_all (s : ByteArray) (h0 : 0 < s.size) (h : ¬ (1 < s.size ∧ s[0].toNat = 48)) : ∀ r : Bool, (s.data.toList.all fun c => digB c.toNat) = r → decD s.data.toList = r := by
  intro r hr
  have e1 : s.data.toList.isEmpty = false := by rw [list_one s h0]; rfl
  have e2 : ((s.data.toList.headD 0).toNat == 48 && !(s.data.toList == [48])) = false := by
    by_cases h1 : 1 < s.size
    · have hh : ¬ s[0].toNat = 48 := fun e => h ⟨h1, e⟩
      rw [list_one s h0]; simp [hh]
    · have hd : s.data.toList.drop 1 = [] := List.drop_of_length_le (by rw [size_len]; omega)
      rw [list_one s h0, hd]
      by_cases hh : s[0].toNat = 48
      · rw [u8_eq hh (by omega)]; rfl
      · simp [hh]
  unfold decD; rw [e1, e2, hr]; rfl

set_option maxHeartbeats 1000000 in
set_option maxRecDepth 100000 in
theorem decR_any (s : ByteArray) (w : World) (hs : s.size ≤ 281474976710656) :
    Calls Tryd.prog 38 #[.string s] w fun e w' => e = .returned (.bool (decR s.data.toList)) ∧ w = w' := by
  obtain ⟨t, ht⟩ : ∃ t : ByteArray, t.data.toList = cutM s.data.toList := ⟨⟨(cutM s.data.toList).toArray⟩, rfl⟩
  have HF : Hid (decR s.data.toList = decD t.data.toList) := Lib.hid (by rw [decR_cutM, ht])
  have HT := Lib.hid ht
  have hts : t.size ≤ 281474976710656 := by
    rw [← size_len, ht]; exact Nat.le_trans (cutM_len _) (by rw [size_len]; exact hs)
  obtain ⟨m, hm⟩ : ∃ m : Bool, m = decide (cutM s.data.toList = s.data.toList.drop 1 ∧ 1 < s.size) := ⟨_, rfl⟩
  have HMt : Hid (m = true → 1 < s.size ∧ t.data.toList = s.data.toList.drop 1) := Lib.hid (fun h => by rw [hm, decide_eq_true_eq] at h; exact ⟨h.2, ht.trans h.1⟩)
  have HMf : Hid (m = false → t = s) := Lib.hid (fun h => by
    rw [hm, decide_eq_false_iff_not] at h
    apply eq_of_data; rw [ht]
    by_cases h1 : 1 < s.size
    · by_cases ha : s[0].toNat = 45
      · by_cases hb : s[1].toNat = 48
        · exact cutM_keep2 s h1 ha hb
        · exact absurd ⟨cutM_cut s h1 ha hb, h1⟩ h
      · exact cutM_keep1 s (by omega) ha
    · exact cutM_keep0 s h1)
  have HME := Lib.hid hm
  clear ht hm
  go_enter Tryd.func38, Tryd.ntmps38
  go_upto_region 1 with fail
  go_cut [16] from 4 to 18 (fun x wx => x = .bool m ∧ w = wx)
  case first =>
    have keepM : s.data.toList = cutM s.data.toList → 1 < s.size → m = false := fun h h1 => by
      rw [HME.out, decide_eq_false_iff_not]; rintro ⟨h2, _⟩
      have := congrArg List.length (h.trans h2); rw [List.length_drop, size_len] at this; omega
    by_cases h1 : 1 < s.size
    · by_cases ha : s[0].toNat = 45
      · have e0 : ((s[0].toNat : Int) == 45) = true := by simp; omega
        by_cases hb : s[1].toNat = 48
        · have e1 : ((s[1].toNat : Int) != 48) = false := by simp; omega
          have HS := Lib.hid (keepM (cutM_keep2 s h1 ha hb).symm h1)
          clear ha hb keepM
          go_wp2
          go_meet
          exact ⟨congrArg Value.bool HS.out.symm, rfl⟩
        · have e1 : ((s[1].toNat : Int) != 48) = true := by simp; omega
          have HS : Hid (m = true) := Lib.hid (by rw [HME.out, decide_eq_true_eq]; exact ⟨cutM_cut s h1 ha hb, h1⟩)
          clear ha hb keepM
          go_wp2
          go_meet
          exact ⟨congrArg Value.bool HS.out.symm, rfl⟩
      · have e0 : ((s[0].toNat : Int) == 45) = false := by simp; omega
        have HS := Lib.hid (keepM (cutM_keep1 s (by omega) ha).symm h1)
        clear ha keepM
        go_wp2
        go_meet
        exact ⟨congrArg Value.bool HS.out.symm, rfl⟩
    · have HS : Hid (m = false) := Lib.hid (by rw [HME.out, decide_eq_false_iff_not]; rintro ⟨_, h2⟩; exact h1 h2)
      have h1' : s.size ≤ 1 := by omega
      clear h1 keepM
      go_wp2
      go_meet
      exact ⟨congrArg Value.bool HS.out.symm, rfl⟩
  case rest =>
    obtain ⟨rfl, rfl⟩ := hcut
    cases m with
    | false =>
      have hts2 := HMf.out rfl
      subst hts2
      clear HME HMt HMf
      go_upto_region 3 with fail
      clear HT hs
      by_cases hz : t.size = 0
      · have HZ : Hid (decD t.data.toList = false) := Lib.hid (by rw [List.eq_nil_of_length_eq_zero (show t.data.toList.length = 0 by rw [size_len]; exact hz)]; rfl)
        go_wp2
        go_ret
        exact ⟨ret_bool (HF.out.trans HZ.out).symm, rfl⟩
      · have h0 : 0 < t.size := by omega
        by_cases hld : 1 < t.size ∧ t[0].toNat = 48
        · have HZ := Lib.hid (decD_lead t hld.1 hld.2)
          have g1 := hld.1
          have e0 : ((t[0].toNat : Int) == 48) = true := by have := hld.2; simp; omega
          clear hld
          go_wp2
          go_ret
          exact ⟨ret_bool (HF.out.trans HZ.out).symm, rfl⟩
        · have HD2 := Lib.hid (decD_all t h0 hld)
          have hcase : t.size ≤ 1 ∨ (1 < t.size ∧ ((t[0].toNat : Int) == 48) = false) := by
            by_cases g : 1 < t.size
            · right; refine ⟨g, ?_⟩; have : ¬ t[0].toNat = 48 := fun h => hld ⟨g, h⟩
              simp; omega
            · left; omega
          have hzb : ((t.size : Int) == 0) = false := by rw [beq_eq_false_iff_ne]; omega
          clear hld hz
          rcases hcase with g1 | ⟨g1, e0⟩
          all_goals
            go_wp2
            go_loop [3] (fun i => ∃ k : Nat, k ≤ t.size ∧ i = .int .i64 k ∧ Hid (∀ j (hj : j < t.size), j < k → digB t[j].toNat = true)) (fun i => t.size - (intOf i).toNat)
            case atStart => exact ⟨0, Nat.zero_le _, rfl, Lib.hid (fun j _ h => by omega)⟩
            case round =>
              obtain ⟨k, hk, rfl, hr⟩ := hrel
              by_cases hlt : k < t.size
              · cases hb : digB t[k].toNat with
                | true =>
                  have hr' : Hid (∀ j (hj : j < t.size), j < k + 1 → digB t[j].toNat = true) := Lib.hid (fun j hj h => by
                    by_cases e : j = k
                    · subst e; exact hb
                    · exact hr.out j hj (by omega))
                  go_wp2_with (go_at_call 42; refine (digit_any _ _).mono ?_; rintro e w' ⟨rfl, rfl⟩)
                  go_round
                  case rel => exact ⟨k + 1, by omega, by go_num, hr'⟩
                  case measure => simp [intOf]; omega
                | false =>
                  have HZ := Lib.hid (decD_no t k hlt hb)
                  go_wp2_with (go_at_call 42; refine (digit_any _ _).mono ?_; rintro e w' ⟨rfl, rfl⟩)
                  go_ret
                  exact ⟨ret_bool (HF.out.trans HZ.out).symm, rfl⟩
              · have HZ : Hid (decD t.data.toList = true) := Lib.hid (HD2.out true (by
                  rw [List.all_eq_true]; intro c hc
                  obtain ⟨j, hj, rfl⟩ := List.mem_iff_getElem.1 hc
                  have hj' : j < t.size := by rw [← size_len]; exact hj
                  exact hr.out j hj' (by omega)))
                go_wp2
                go_ret
                exact ⟨ret_bool (HF.out.trans HZ.out).symm, rfl⟩
    | true =>
      have h1 := (HMt.out rfl).1
      have HD := Lib.hid (HMt.out rfl).2
      clear HME HMt HMf
      have hx : s.extract 1 s.size = t := eq_of_data (by rw [HD.out, ByteArray.data_extract, Array.toList_extract]; exact List.take_of_length_le (by rw [List.length_drop, size_len]; omega))
      go_upto_region 3 with fail
      clear HD hx h1 HT hs
      by_cases hz : t.size = 0
      · have HZ : Hid (decD t.data.toList = false) := Lib.hid (by rw [List.eq_nil_of_length_eq_zero (show t.data.toList.length = 0 by rw [size_len]; exact hz)]; rfl)
        go_wp2
        go_ret
        exact ⟨ret_bool (HF.out.trans HZ.out).symm, rfl⟩
      · have h0 : 0 < t.size := by omega
        by_cases hld : 1 < t.size ∧ t[0].toNat = 48
        · have HZ := Lib.hid (decD_lead t hld.1 hld.2)
          have g1 := hld.1
          have e0 : ((t[0].toNat : Int) == 48) = true := by have := hld.2; simp; omega
          clear hld
          go_wp2
          go_ret
          exact ⟨ret_bool (HF.out.trans HZ.out).symm, rfl⟩
        · have HD2 := Lib.hid (decD_all t h0 hld)
          have hcase : t.size ≤ 1 ∨ (1 < t.size ∧ ((t[0].toNat : Int) == 48) = false) := by
            by_cases g : 1 < t.size
            · right; refine ⟨g, ?_⟩; have : ¬ t[0].toNat = 48 := fun h => hld ⟨g, h⟩
              simp; omega
            · left; omega
          have hzb : ((t.size : Int) == 0) = false := by rw [beq_eq_false_iff_ne]; omega
          clear hld hz
          rcases hcase with g1 | ⟨g1, e0⟩
          all_goals
            go_wp2
            go_loop [3] (fun i => ∃ k : Nat, k ≤ t.size ∧ i = .int .i64 k ∧ Hid (∀ j (hj : j < t.size), j < k → digB t[j].toNat = true)) (fun i => t.size - (intOf i).toNat)
            case atStart => exact ⟨0, Nat.zero_le _, rfl, Lib.hid (fun j _ h => by omega)⟩
            case round =>
              obtain ⟨k, hk, rfl, hr⟩ := hrel
              by_cases hlt : k < t.size
              · cases hb : digB t[k].toNat with
                | true =>
                  have hr' : Hid (∀ j (hj : j < t.size), j < k + 1 → digB t[j].toNat = true) := Lib.hid (fun j hj h => by
                    by_cases e : j = k
                    · subst e; exact hb
                    · exact hr.out j hj (by omega))
                  go_wp2_with (go_at_call 42; refine (digit_any _ _).mono ?_; rintro e w' ⟨rfl, rfl⟩)
                  go_round
                  case rel => exact ⟨k + 1, by omega, by go_num, hr'⟩
                  case measure => simp [intOf]; omega
                | false =>
                  have HZ := Lib.hid (decD_no t k hlt hb)
                  go_wp2_with (go_at_call 42; refine (digit_any _ _).mono ?_; rintro e w' ⟨rfl, rfl⟩)
                  go_ret
                  exact ⟨ret_bool (HF.out.trans HZ.out).symm, rfl⟩
              · have HZ : Hid (decD t.data.toList = true) := Lib.hid (HD2.out true (by
                  rw [List.all_eq_true]; intro c hc
                  obtain ⟨j, hj, rfl⟩ := List.mem_iff_getElem.1 hc
                  have hj' : j < t.size := by rw [← size_len]; exact hj
                  exact hr.out j hj' (by omega)))
                go_wp2
                go_ret
                exact ⟨ret_bool (HF.out.trans HZ.out).symm, rfl⟩
end Go.Proofs.YtnmkcohfhomenaaDoor
