/- The reference's bare and Split: the walks. -/
import Derived.Test.YtnmkcohfhomenaaDoorRSplitV
import Derived.Test.YtnmkcohfhomenaaDoorSame
namespace Go.Proofs.YtnmkcohfhomenaaDoor
open Go.RowKit

set_option maxHeartbeats 400000 in
theorem bareR_any (s : ByteArray) (w : World) (hs : s.size ≤ maxLen) :
    Calls Tryd.prog 50 #[.string s] w fun e w' => e = .returned (.bool (bareR s.data.toList)) ∧ w = w' := by
  unfold maxLen at hs
  have hsl := size_len s
  go_enter Tryd.func50, Tryd.ntmps50
  go_wp2_with fail
  go_loop [3] (fun i => ∃ k : Nat, k ≤ s.size ∧ i = .int .i64 k ∧ Hid (∀ j (hj : j < k) (hk : j < s.size), bareC s[j] = true)) (fun i => s.size - (intOf i).toNat)
  case atStart => exact ⟨0, Nat.zero_le _, rfl, Lib.hid (fun j hj => by omega)⟩
  case round =>
    obtain ⟨k, hk, rfl, hall⟩ := hrel
    by_cases hlt : k < s.size
    · have HP := Lib.hid (plain_any (s[k].toNat : Int))
      cases c1 : plainB (s[k].toNat : Int) with
      | false =>
        have HF : Hid (bareR s.data.toList = false) := Lib.hid (by
          unfold bareR; rw [Bool.and_eq_false_iff]; right; rw [List.all_eq_false]
          exact ⟨s[k], by have e : s[k] = s.data.toList[k]'(by rw [hsl]; exact hlt) := rfl
                          rw [e]; exact List.getElem_mem _, by unfold bareC; rw [c1]; simp⟩)
        rw [c1] at HP
        clear c1
        go_wp2_with fail
        refine (HP.out _).mono ?_
        rintro e w' ⟨rfl, rfl⟩
        go_wp2_with fail
        go_ret
        exact ⟨ret_bool HF.out.symm, rfl⟩
      | true =>
        rw [c1] at HP
        by_cases c2 : s[k].toNat = 32
        · have HF : Hid (bareR s.data.toList = false) := Lib.hid (by
            unfold bareR; rw [Bool.and_eq_false_iff]; right; rw [List.all_eq_false]
            exact ⟨s[k], by have e : s[k] = s.data.toList[k]'(by rw [hsl]; exact hlt) := rfl
                            rw [e]; exact List.getElem_mem _, by rw [bareC_space c2]; simp⟩)
          have d1 : ((s[k].toNat : Int) == 32) = true := by simp; omega
          clear c1 c2
          go_wp2_with fail
          refine (HP.out _).mono ?_
          rintro e w' ⟨rfl, rfl⟩
          go_wp2_with fail
          go_ret
          exact ⟨ret_bool HF.out.symm, rfl⟩
        · have d1 : ((s[k].toNat : Int) == 32) = false := by simp; omega
          have HA : Hid (∀ j (hj : j < k + 1) (hk : j < s.size), bareC s[j] = true) := Lib.hid (fun j hj hk' => by
            by_cases e : j = k
            · subst e; unfold bareC; rw [c1, d1]; rfl
            · exact hall.out j (by omega) hk')
          clear c1 c2
          go_wp2_with fail
          refine (HP.out _).mono ?_
          rintro e w' ⟨rfl, rfl⟩
          go_wp2_with fail
          go_round
          case rel => exact ⟨k + 1, by omega, by go_num, HA⟩
          case measure => simp [intOf]; omega
    · obtain rfl : k = s.size := by omega
      have HA : Hid (s.data.toList.all bareC = true) := Lib.hid (by
        rw [List.all_eq_true]; intro x hx
        obtain ⟨j, hj, rfl⟩ := List.mem_iff_getElem.1 hx
        rw [hsl] at hj
        exact hall.out j hj hj)
      by_cases h0 : 0 < s.size
      · have HF : Hid (bareR s.data.toList = true) := Lib.hid (by
          unfold bareR; rw [HA.out]
          have := isEmpty_false s h0
          rw [Lib.toList_data] at this
          rw [this]; rfl)
        clear hall
        go_wp2_with fail
        go_ret
        exact ⟨ret_bool (HF.out.trans (by simp <;> omega)).symm, rfl⟩
      · have HF : Hid (bareR s.data.toList = false) := Lib.hid (by rw [size_zero s h0]; rfl)
        clear hall
        go_wp2_with fail
        go_ret
        exact ⟨ret_bool (HF.out.trans (by simp <;> omega)).symm, rfl⟩
end Go.Proofs.YtnmkcohfhomenaaDoor
