/- The reference's number, grouped. -/
import Derived.Test.YtnocmkjaifjgfaaRRefA
import Derived.Test.YtnocmkjaifjgfaaRDecA
namespace Go.Proofs.Ytnocmkjaifjgfaa.R
open Go.RowKit

theorem numL_drop {l : List UInt8} {k : Nat} (h : k < l.length) : numL (l.drop k) = l[k].toNat + 256 * numL (l.drop (k + 1)) := by
  rw [List.drop_eq_getElem_cons h]; rfl

set_option maxHeartbeats 2000000 in
theorem refNumber_any (v : Value) (l : List UInt8) (w : World) (hv : BytesAt w v l) (hl : l.length ≤ 8) :
    Calls Try.prog 29 #[v] w fun e w' => e = .returned (.int .u64 (numL l : Nat)) ∧ w = w' := by
  obtain ⟨s, d, rfl⟩ := hv.shape
  have HV := Lib.hid hv
  clear hv
  go_enter Try.func29, Try.ntmps29
  go_wp2_with fail
  go_loop [3, 4] (fun n i => ∃ k : Nat, k ≤ l.length ∧ i = .int .i64 ((k : Int) - 1) ∧ n = .int .u64 (numL (l.drop k) : Nat)) (fun _ i => (intOf i + 1).toNat)
  case atStart => exact ⟨l.length, by omega, rfl, by rw [List.drop_of_length_le (Nat.le_refl _)]; rfl⟩
  case round =>
    obtain ⟨k, hk, rfl, rfl⟩ := hrel
    cases k with
    | zero =>
      rw [show ((0 : Nat) : Int) - 1 = -1 from rfl]
      go_wp2_with fail
      go_ret
      exact ⟨rfl, rfl⟩
    | succ j =>
      rw [show ((j + 1 : Nat) : Int) - 1 = (j : Int) from by omega]
      rcases HV.out with ⟨a, c, hva, hl0⟩ | ⟨g, i, c, hva, hg, hcs⟩
      · rw [hl0] at hk; simp at hk
      · obtain ⟨rfl, rfl⟩ : s = some ⟨g, i, none⟩ ∧ d = c := by cases hva; exact ⟨rfl, rfl⟩
        have hjl : j < l.length := by omega
        have hcl := hcs j hjl
        have hby := byte_lt l j hjl
        have HS := Lib.hid (numL_drop hjl)
        have hnl := numL_lt (l.drop (j + 1))
        have hdl : (l.drop (j + 1)).length = l.length - (j + 1) := List.length_drop
        rw [hdl] at hnl
        have hp : 256 ^ (l.length - (j + 1)) ≤ 256 ^ 7 := Nat.pow_le_pow_right (by omega) (by omega)
        generalize l[j].toNat = z at *
        generalize numL (l.drop (j + 1)) = n at *
        clear hva hcs hdl
        have hn7 : n < 72057594037927936 := by omega
        clear hnl hp
        have hw1 : IntKind.u64.wrap (256 * (n : Int)) = 256 * n := by rw [IntKind.wrap_u64]; omega
        have hw2 : IntKind.u64.wrap (256 * (n : Int) + z) = 256 * n + z := by rw [IntKind.wrap_u64]; omega
        have hw3 : IntKind.u64.wrap (z : Int) = z := by rw [IntKind.wrap_u64]; omega
        go_wp2_with fail
        go_round
        case rel => exact ⟨j, by omega, by go_num, by rw [HS.out]; congr 1; omega⟩
        case measure => simp [intOf]

theorem grp_end {k a : Nat} {l : List UInt8} (hk : k = 10) : grpK (10 - k) k a (l.drop k) = (0, 0, 6) := by subst hk; rfl
set_option maxHeartbeats 4000000 in
set_option maxRecDepth 100000 in
theorem refGrouped_any (v : Value) (l : List UInt8) (w : World) (hv : BytesAt w v l) (hl : l.length ≤ maxLen) :
    Calls Try.prog 30 #[v] w fun e w' => e = .returned (.tuple #[.int .u64 (grpD l).1, .int .i64 (grpD l).2.1, .int .i64 (grpD l).2.2]) ∧ w = w' := by
  obtain ⟨s, d, rfl⟩ := hv.shape
  have HV := Lib.hid hv
  unfold maxLen at hl
  clear hv
  go_enter Try.func30, Try.ntmps30
  go_wp2_with fail
  go_loop [5, 6, 7] (fun n i _ => ∃ (k a : Nat), k ≤ 10 ∧ k ≤ l.length ∧ i = .int .i64 k ∧ n = .int .u64 a ∧ Hid (k < 10 → a < 128 ^ k) ∧ Hid (grpD l = grpK (10 - k) k a (l.drop k))) (fun _ i _ => 10 - (intOf i).toNat)
  case atStart => exact ⟨0, 0, by omega, by omega, rfl, rfl, Lib.hid (fun _ => by simp), Lib.hid rfl⟩
  case round =>
    obtain ⟨k, a, hk, hkl, rfl, rfl, hma, hE⟩ := hrel
    by_cases hlt : k < 10
    case neg =>
      have HG := Lib.hid (show grpD l = (0, 0, 6) by rw [hE.out]; exact grp_end (by omega))
      obtain rfl : k = 10 := by omega
      go_wp2_with fail
      go_ret3
      exact ⟨by rw [HG.out]; rfl, rfl⟩
    have ha := hma.out hlt
    clear hma
    by_cases hlen : k = l.length
    · have HG := Lib.hid (show grpD l = (0, 0, 10) by rw [hE.out]; exact grpK_nil (by omega) (List.drop_of_length_le (by omega)))
      have d1 : ((k : Int) == l.length) = true := by simp; omega
      clear hlen hE ha
      go_wp2_with fail
      go_ret3
      exact ⟨by rw [HG.out]; rfl, rfl⟩
    have hkl2 : k < l.length := by omega
    have d1 : ((k : Int) == l.length) = false := by simp; omega
    rcases HV.out with ⟨a', c', hva, hl0⟩ | ⟨g, i, c', hva, hg, hcs⟩
    · rw [hl0] at hkl2; simp at hkl2
    obtain ⟨rfl, rfl⟩ : s = some ⟨g, i, none⟩ ∧ d = c' := by cases hva; exact ⟨rfl, rfl⟩
    have hcl := hcs k hkl2
    have hby := byte_lt l k hkl2
    have HS := Lib.hid (grpK_step (k := 9 - k) (a := a) (by omega) hkl2)
    clear hva hcs hlen
    generalize l[k].toNat = c at *
    obtain ⟨z, hz⟩ : ∃ z, z = c % 128 := ⟨_, rfl⟩
    have hcz : (c : Int) % 128 = (z : Int) := by omega
    have hz128 : z < 128 := by omega
    have hzw : IntKind.u64.wrap (z : Int) = z := by rw [IntKind.wrap_u64]; omega
    by_cases h9 : k = 9 ∧ 1 < z
    · obtain ⟨rfl, hz1⟩ := h9
      have HG := Lib.hid (show grpD l = (0, 0, 6) by
        rw [hE.out, HS.out]
        by_cases h128 : 128 ≤ c
        · rw [if_pos h128]; rfl
        · rw [if_neg h128, if_pos (.inr ⟨rfl, by omega⟩)])
      have d2 : decide ((1 : Int) < z) = true := decide_eq_true (by omega)
      clear hE HS ha hz
      go_wp2_with fail
      go_ret3
      exact ⟨by rw [HG.out]; rfl, rfl⟩
    have hsum : a + z * 128 ^ k < 18446744073709551616 ∧ (k < 9 → a + z * 128 ^ k < 128 ^ (k + 1)) := by
      by_cases e : k = 9
      · subst e
        have h1 : z * 128 ^ 9 ≤ 1 * 128 ^ 9 := Nat.mul_le_mul_right _ (by omega)
        exact ⟨by omega, fun h => by omega⟩
      · have h1 : z * 128 ^ k ≤ 127 * 128 ^ k := Nat.mul_le_mul_right _ (by omega)
        have h2 : 128 ^ (k + 1) ≤ 128 ^ 9 := Nat.pow_le_pow_right (by omega) (by omega)
        rw [Nat.pow_succ] at h2 ⊢
        exact ⟨by omega, fun _ => by omega⟩
    obtain ⟨hs1, hs2⟩ := hsum
    obtain ⟨p, hp⟩ : ∃ p, p = z * 128 ^ k := ⟨_, rfl⟩
    have hshl : IntKind.u64.wrap ((z : Int) * 2 ^ (7 * k)) = p := by
      rw [show (z : Int) * 2 ^ (7 * k) = ((z * 128 ^ k : Nat) : Int) from by rw [← pow7]; push_cast; rfl, ← hp, IntKind.wrap_u64]; omega
    rw [← hp] at hs1 hs2
    have hadd : IntKind.u64.wrap ((a : Int) + p) = a + p := by rw [IntKind.wrap_u64]; omega
    have HS2 := Lib.hid hs2
    have dk9 : (((k : Int) == 9) = true ∧ decide ((1 : Int) < z) = false) ∨ ((k : Int) == 9) = false := by
      by_cases e : k = 9
      · exact .inl ⟨by simp [e], decide_eq_false (by omega)⟩
      · exact .inr (by simp; omega)
    by_cases h128 : 128 ≤ c
    · have HS3 := Lib.hid (show grpD l = grpK (10 - (k + 1)) (k + 1) (a + p) (l.drop (k + 1)) by rw [hE.out, HS.out, if_pos h128, hp, hz])
      have d3 : decide ((c : Int) < 128) = false := decide_eq_false (by omega)
      clear hE HS ha hz hp h9 hs2
      rcases dk9 with ⟨d2, d4⟩ | d2
      all_goals
        go_wp2_with fail
        go_round
        case rel => exact ⟨k + 1, a + p, by omega, by omega, by go_num, by go_num, Lib.hid (fun h => HS2.out (by omega)), HS3⟩
        case measure => simp [intOf]; omega
    · have d3 : decide ((c : Int) < 128) = true := decide_eq_true (by omega)
      by_cases hbad : 0 < k ∧ z = 0
      · have HG := Lib.hid (show grpD l = (0, 0, 6) by rw [hE.out, HS.out, if_neg h128, if_pos (.inl ⟨hbad.1, by omega⟩)])
        obtain ⟨hk0, rfl⟩ := hbad
        have d5 : decide (0 < k) = true := decide_eq_true (by omega)
        clear hE HS ha hz hp h9 hs2
        rcases dk9 with ⟨d2, d4⟩ | d2
        all_goals
          go_wp2_with fail
          go_ret3
          exact ⟨by rw [HG.out]; rfl, rfl⟩
      · have HG := Lib.hid (show grpD l = (a + p, k + 1, 0) by
          rw [hE.out, HS.out, if_neg h128, if_neg (by omega), hp, show z = c from by omega])
        have db : (decide (0 < k) = true ∧ ((z : Int) == 0) = false) ∨ decide (0 < k) = false := by
          by_cases e : 0 < k
          · exact .inl ⟨decide_eq_true (by omega), by simp; omega⟩
          · exact .inr (decide_eq_false (by omega))
        clear hE HS ha hz hp h9 hs2 hbad
        rcases dk9 with ⟨d2, d4⟩ | d2
        all_goals
          rcases db with ⟨d5, d6⟩ | d5
          all_goals
            go_wp2_with fail
            all_goals first
              | exact absurd ‹((z : Int) == 0) = true› (by rw [d6]; decide)
              | exact absurd ‹0 < k› (of_decide_eq_false d5)
              | (go_ret3; exact ⟨by rw [HG.out]; rfl, rfl⟩)
end Go.Proofs.Ytnocmkjaifjgfaa.R
