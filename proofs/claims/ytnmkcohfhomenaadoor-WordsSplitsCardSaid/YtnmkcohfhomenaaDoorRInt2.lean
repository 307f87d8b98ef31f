/- The reference's Int: the walk. -/
import Derived.Test.YtnmkcohfhomenaaDoorRInt
namespace Go.Proofs.YtnmkcohfhomenaaDoor
open Go.RowKit

set_option maxHeartbeats 1000000 in
set_option maxRecDepth 100000 in
theorem intR_any (s : ByteArray) (low high : Int) (w : World) (hs : s.size ≤ 281474976710656) :
    Calls Tryd.prog 14 #[.string s, .int .i64 low, .int .i64 high] w fun e w' => e = .returned (intV s.data.toList low high) ∧ w = w' := by
  have HR := Lib.hid (decR_any s w hs)
  cases hd : decR s.data.toList with
  | false =>
    have HF := Lib.hid (intV_form (low := low) (high := high) hd)
    rw [hd] at HR
    clear hd
    go_enter Tryd.func14, Tryd.ntmps14
    go_wp2_with fail
    refine HR.out.mono ?_
    rintro e w' ⟨rfl, rfl⟩
    go_wp2
    go_ret2
    exact ⟨congrArg Ending.returned HF.out.symm, rfl⟩
  | true =>
    have h0 : 0 < s.size := by
      obtain ⟨c, r, hl, _⟩ := decR_forms hd
      have := size_len s; rw [hl] at this; simp at this; omega
    have hhd := head_at s h0
    have HB := Lib.hid (fun h => intV_big (low := low) (high := high) hd h)
    have HBY := Lib.hid (fun k hk => decR_byte hd k hk)
    have HHD := Lib.hid hd
    rw [hd] at HR
    obtain ⟨m, hm⟩ : ∃ m : Bool, m = ((s[0].toNat : Int) == 45) := ⟨_, rfl⟩
    have HM := Lib.hid hm
    clear hd
    go_enter Tryd.func14, Tryd.ntmps14
    go_wp2_with fail
    refine HR.out.mono ?_
    rintro e w' ⟨rfl, rfl⟩
    go_wp2
    rw [← hm]
    clear hm
    go_loop [9, 10] (fun n i => ∃ (k a : Nat), k ≤ s.size ∧ i = .int .i64 k ∧ n = .int .i64 (-(a : Int)) ∧ a ≤ 9223372036854775808 ∧ Hid (pv 0 (s.data.toList.take k) = a)) (fun _ i => s.size - (intOf i).toNat)
    case atStart => exact ⟨0, 0, Nat.zero_le _, rfl, rfl, by omega, Lib.hid rfl⟩
    case round =>
      obtain ⟨k, a, hk, rfl, rfl, ha, hp⟩ := hrel
      by_cases hlt : k < s.size
      · by_cases h45 : s[k].toNat = 45
        · have e0 : ((s[k].toNat : Int) == 45) = true := by simp; omega
          have hp' : Hid (pv 0 (s.data.toList.take (k + 1)) = a) := Lib.hid (by rw [pv_succ s k hlt, if_pos (show s[k] = 45 from u8_eq (n := 45) h45 (by omega))]; exact hp.out)
          clear h45
          go_wp2
          go_round
          case rel => exact ⟨k + 1, a, by omega, by go_num, rfl, ha, hp'⟩
          case measure => simp [intOf]; omega
        · have e0 : ((s[k].toNat : Int) == 45) = false := by simp; omega
          have hdg : 48 ≤ s[k].toNat ∧ s[k].toNat ≤ 57 := by
            rcases HBY.out k hlt with h | h
            · exact absurd h h45
            · exact h
          have hps : Hid (pv 0 (s.data.toList.take (k + 1)) = a * 10 + (s[k].toNat - 48)) := Lib.hid (by rw [pv_succ s k hlt, if_neg (fun h => h45 (by rw [h]; rfl)), hp.out])
          obtain ⟨c, hc⟩ : ∃ c, s[k].toNat = c := ⟨_, rfl⟩
          rw [hc] at hps hdg e0
          obtain ⟨d, rfl⟩ : ∃ d, c = d + 48 := ⟨c - 48, by omega⟩
          have hd9 : d ≤ 9 := by omega
          rw [Nat.add_sub_cancel] at hps
          have w1 : IntKind.u8.wrap (((d + 48 : Nat) : Int) - 48) = d := by rw [IntWalk.u8_in _ (by omega)]; omega
          have w2 : IntKind.i64.wrap (d : Int) = d := IntWalk.i64_in _ (by omega)
          clear h45
          have hq' : (-9223372036854775808 + (d : Int)).tdiv 10 = -((9223372036854775808 - (d : Int)) / 10) := by
            have := Int.tdiv_eq_ediv_of_nonneg (a := 9223372036854775808 - (d : Int)) (b := 10) (by omega)
            rw [← this, ← Int.neg_tdiv]; congr 1; omega
          by_cases hov : 9223372036854775808 < a * 10 + d
          · have hl : -(a : Int) < (-9223372036854775808 + (d : Int)).tdiv 10 := by rw [hq']; omega
            have HF := Lib.hid (HB.out (Nat.lt_of_lt_of_le (by rw [hps.out]; exact hov) (pv_take_le _ (k + 1))))
            clear hq'
            go_wp2
            go_ret2
            exact ⟨congrArg Ending.returned HF.out.symm, rfl⟩
          · have hl : ¬ -(a : Int) < (-9223372036854775808 + (d : Int)).tdiv 10 := by rw [hq']; omega
            have u1 : wrap64 (10 * -(a : Int)) = 10 * -(a : Int) := by rw [IntWalk.wrap64_in _ (by omega)]
            have u2 : wrap64 (10 * -(a : Int) - d) = 10 * -(a : Int) - d := by rw [IntWalk.wrap64_in _ (by omega)]
            clear hq'
            go_wp2
            go_round
            case rel => exact ⟨k + 1, a * 10 + d, by omega, by go_num, congrArg (Value.int .i64) (by omega), by omega, hps⟩
            case measure => simp [intOf]; omega
      · have hek : k = s.size := by omega
        subst hek
        have hpa : pv 0 s.data.toList = a := by have := hp.out; rw [take_all s _ (Nat.le_refl _)] at this; exact this
        cases hmm : m with
        | true =>
          have hm' : s.data.toList.headD 0 = 45 := by
            rw [hhd]; have := HM.out; rw [hmm] at this
            exact u8_eq (n := 45) (by have h2 := this.symm; simp at h2; omega) (by omega)
          have hI := intV_minus (low := low) (high := high) HHD.out hm' (by rw [hpa]; exact ha)
          rw [hpa] at hI
          by_cases hr : -(a : Int) < low ∨ high < -(a : Int)
          · rw [if_pos hr] at hI
            have HF := Lib.hid hI
            clear hI
            rcases hr with hr | hr
            · go_wp2
              go_ret2
              exact ⟨congrArg Ending.returned HF.out.symm, rfl⟩
            · by_cases hr2 : -(a : Int) < low
              · go_wp2
                go_ret2
                exact ⟨congrArg Ending.returned HF.out.symm, rfl⟩
              · go_wp2
                go_ret2
                exact ⟨congrArg Ending.returned HF.out.symm, rfl⟩
          · rw [if_neg hr] at hI
            have HF := Lib.hid hI
            have r1 : ¬ -(a : Int) < low := by omega
            have r2 : ¬ high < -(a : Int) := by omega
            clear hI hr
            go_wp2
            go_ret2
            exact ⟨congrArg Ending.returned HF.out.symm, rfl⟩
        | false =>
          have hm' : ¬ s.data.toList.headD 0 = 45 := by
            rw [hhd]; have := HM.out; rw [hmm] at this
            intro h; rw [h] at this; revert this; decide
          by_cases h63 : a = 9223372036854775808
          · have HF := Lib.hid (intV_63 (low := low) (high := high) HHD.out hm' (by rw [hpa]; exact h63))
            subst h63
            go_wp2
            go_ret2
            exact ⟨congrArg Ending.returned HF.out.symm, rfl⟩
          · have hI := intV_plus (low := low) (high := high) HHD.out hm' (by rw [hpa]; omega)
            rw [hpa] at hI
            have b1 : (-(a : Int) == -9223372036854775808) = false := by rw [beq_eq_false_iff_ne]; omega
            have u3 : wrap64 (a : Int) = a := IntWalk.wrap64_in _ (by omega)
            by_cases hr : (a : Int) < low ∨ high < (a : Int)
            · rw [if_pos hr] at hI
              have HF := Lib.hid hI
              clear hI
              rcases hr with hr | hr
              · go_wp2
                go_ret2
                exact ⟨congrArg Ending.returned HF.out.symm, rfl⟩
              · by_cases hr2 : (a : Int) < low
                · go_wp2
                  go_ret2
                  exact ⟨congrArg Ending.returned HF.out.symm, rfl⟩
                · go_wp2
                  go_ret2
                  exact ⟨congrArg Ending.returned HF.out.symm, rfl⟩
            · rw [if_neg hr] at hI
              have HF := Lib.hid hI
              have r1 : ¬ (a : Int) < low := by omega
              have r2 : ¬ high < (a : Int) := by omega
              clear hI hr
              go_wp2
              go_ret2
              exact ⟨congrArg Ending.returned HF.out.symm, rfl⟩
end Go.Proofs.YtnmkcohfhomenaaDoor
