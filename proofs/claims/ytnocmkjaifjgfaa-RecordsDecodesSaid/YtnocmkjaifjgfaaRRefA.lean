/- The reference's width, form, low, groups. -/
import Derived.Test.YtnocmkjaifjgfaaRApp
namespace Go.Proofs.Ytnocmkjaifjgfaa.R
open Go.RowKit
attribute [local go_sem ↓] appB_eq

theorem eqN {a b : Nat} (h : a = b) : ((a : Int) == (b : Int)) = true := by simp [h]
theorem neN {a b : Nat} (h : ¬ a = b) : ((a : Int) == (b : Int)) = false := by simp; omega
theorem eqN' {a b : Nat} (h : a = b) : ((a : Int) != (b : Int)) = false := by simp [h]
theorem neN' {a b : Nat} (h : ¬ a = b) : ((a : Int) != (b : Int)) = true := by simp; omega
set_option maxHeartbeats 1000000 in
theorem width_any (c : Nat) (w : World) : Calls Try.prog 26 #[.int .u8 c] w fun e w' => e = .returned (.int .i64 (widV c : Nat)) ∧ w = w' := by
  have HW := Lib.hid (show widV c = if c = 98 then 1 else if c = 119 then 2 else if c = 100 then 4 else if c = 113 then 8 else 0 from rfl)
  by_cases h1 : c = 98
  · subst h1
    go_enter Try.func26, Try.ntmps26
    go_wp2
    go_ret
    exact ⟨rfl, rfl⟩
  by_cases h2 : c = 119
  · subst h2
    go_enter Try.func26, Try.ntmps26
    go_wp2
    go_ret
    exact ⟨rfl, rfl⟩
  by_cases h3 : c = 100
  · subst h3
    go_enter Try.func26, Try.ntmps26
    go_wp2
    go_ret
    exact ⟨rfl, rfl⟩
  by_cases h4 : c = 113
  · subst h4
    go_enter Try.func26, Try.ntmps26
    go_wp2
    go_ret
    exact ⟨rfl, rfl⟩
  have hz : Hid (widV c = 0) := Lib.hid (by rw [HW.out, if_neg h1, if_neg h2, if_neg h3, if_neg h4])
  have e1 : ((c : Int) == 98) = false := neN h1
  have e2 : ((c : Int) == 119) = false := neN h2
  have e3 : ((c : Int) == 100) = false := neN h3
  have e4 : ((c : Int) == 113) = false := neN h4
  clear h1 h2 h3 h4
  go_enter Try.func26, Try.ntmps26
  go_wp2
  go_ret
  exact ⟨by rw [hz.out]; rfl, rfl⟩

theorem kindB_of {c : Nat} (h : 0 < widV c) : kindB c = true := by
  unfold kindB
  rcases wid_cases c with h' | ⟨rfl, _⟩ | ⟨rfl, _⟩ | ⟨rfl, _⟩ | ⟨rfl, _⟩
  · omega
  all_goals decide
theorem kindB_no {c : Nat} (h0 : widV c = 0) (h1 : ¬ c = 118) (h2 : ¬ c = 115) (h3 : ¬ c = 108) : kindB c = false := by
  unfold kindB
  refine decide_eq_false ?_
  rintro (rfl | rfl | rfl | rfl | rfl | rfl | rfl)
  · exact absurd h0 (by decide)
  · exact absurd h0 (by decide)
  · exact absurd h0 (by decide)
  · exact absurd h0 (by decide)
  · exact h1 rfl
  · exact h2 rfl
  · exact h3 rfl

set_option maxHeartbeats 2000000 in
theorem form_any (s : ByteArray) (w : World) (hs : s.size ≤ maxLen) : Calls Try.prog 21 #[.string s] w fun e w' => e = .returned (.int .i64 (formE s.data.toList : Nat)) ∧ w = w' := by
  have HS := Lib.hid (size_data s)
  unfold maxLen at hs
  by_cases h64 : 64 < s.size
  · have hE : Hid (formE s.data.toList = 3) := Lib.hid (by unfold formE; rw [HS.out, if_pos h64])
    go_enter Try.func21, Try.ntmps21
    go_wp2
    go_ret
    exact ⟨by rw [hE.out]; rfl, rfl⟩
  · have d64 : decide ((64 : Int) < s.size) = false := decide_eq_false (by omega)
    have hs64 : s.size ≤ 64 := by omega
    clear h64
    go_enter Try.func21, Try.ntmps21
    go_wp2_with fail
    go_loop [3] (fun i => ∃ (k : Nat), k ≤ s.size ∧ i = .int .i64 k ∧ Hid (∀ j (hj : j < s.data.toList.length), j < k → kindB s.data.toList[j].toNat = true)) (fun i => s.size - (intOf i).toNat)
    case atStart => exact ⟨0, by omega, rfl, Lib.hid (fun j _ h => by omega)⟩
    case round =>
      obtain ⟨k, hk, rfl, hAll⟩ := hrel
      by_cases hlt : k < s.size
      · have hlt' : k < s.data.toList.length := by rw [HS.out]; exact hlt
        have hck : s.data.toList[k] = s[k] := by rw [Array.getElem_toList]; rfl
        have HWI := Lib.hid (width_any s[k].toNat w)
        have HNX : Hid (kindB s[k].toNat = true → ∀ j (hj : j < s.data.toList.length), j < k + 1 → kindB s.data.toList[j].toNat = true) := Lib.hid (fun hkb j hj hjk => by
          by_cases e : j = k
          · subst e; rw [hck]; exact hkb
          · exact hAll.out j hj (by omega))
        have HNO : Hid (kindB s[k].toNat = false → formE s.data.toList = 2) := Lib.hid (fun hkb => by unfold formE; rw [HS.out, if_neg (by omega), all_false hlt' (by rw [hck]; exact hkb)]; rfl)
        have HWE := Lib.hid (fun h : 0 < widV s[k].toNat => kindB_of h)
        by_cases hw0 : widV s[k].toNat = 0
        · rw [hw0] at HWI
          by_cases h1 : s[k].toNat = 118
          · have e1 : (((s[k].toNat : Nat) : Int) != 118) = false := eqN' h1
            have hkb := HNX.out (by rw [h1]; decide)
            have HK := Lib.hid hkb
            clear hkb hck HWE hw0 h1
            go_wp2_with fail
            refine HWI.out.mono ?_
            rintro e w2 ⟨rfl, rfl⟩
            go_wp2_with fail
            go_round
            case rel => exact ⟨k + 1, by omega, by go_num, HK⟩
            case measure => simp [intOf]; omega
          have e1 : (((s[k].toNat : Nat) : Int) != 118) = true := neN' h1
          by_cases h2 : s[k].toNat = 115
          · have e2 : (((s[k].toNat : Nat) : Int) != 115) = false := eqN' h2
            have hkb := HNX.out (by rw [h2]; decide)
            have HK := Lib.hid hkb
            clear hkb hck HWE hw0 h1 h2
            go_wp2_with fail
            refine HWI.out.mono ?_
            rintro e w2 ⟨rfl, rfl⟩
            go_wp2_with fail
            go_round
            case rel => exact ⟨k + 1, by omega, by go_num, HK⟩
            case measure => simp [intOf]; omega
          have e2 : (((s[k].toNat : Nat) : Int) != 115) = true := neN' h2
          by_cases h3 : s[k].toNat = 108
          · have e3 : (((s[k].toNat : Nat) : Int) != 108) = false := eqN' h3
            have hkb := HNX.out (by rw [h3]; decide)
            have HK := Lib.hid hkb
            clear hkb hck HWE hw0 h1 h2 h3
            go_wp2_with fail
            refine HWI.out.mono ?_
            rintro e w2 ⟨rfl, rfl⟩
            go_wp2_with fail
            go_round
            case rel => exact ⟨k + 1, by omega, by go_num, HK⟩
            case measure => simp [intOf]; omega
          have e3 : (((s[k].toNat : Nat) : Int) != 108) = true := neN' h3
          have hE := Lib.hid (HNO.out (kindB_no hw0 h1 h2 h3))
          clear hck HWE h1 h2 h3
          go_wp2_with fail
          refine HWI.out.mono ?_
          rintro e w2 ⟨rfl, rfl⟩
          go_wp2_with fail
          go_ret
          exact ⟨by rw [hE.out]; rfl, rfl⟩
        · have e0 : (((widV s[k].toNat : Nat) : Int) == 0) = false := by simp; omega
          have hkb := HNX.out (HWE.out (by omega))
          have HK := Lib.hid hkb
          clear hkb hck HWE
          go_wp2_with fail
          refine HWI.out.mono ?_
          rintro e w2 ⟨rfl, rfl⟩
          go_wp2_with fail
          go_round
          case rel => exact ⟨k + 1, by omega, by go_num, HK⟩
          case measure => simp [intOf]; omega
      · obtain rfl : k = s.size := by omega
        have hE : Hid (formE s.data.toList = 0) := Lib.hid (by unfold formE; rw [HS.out, if_neg (by omega), if_pos (all_true (fun j hj => hAll.out j hj (by rw [HS.out] at hj; exact hj)))])
        go_wp2_with fail
        go_ret
        exact ⟨by rw [hE.out]; rfl, rfl⟩
end Go.Proofs.Ytnocmkjaifjgfaa.R
