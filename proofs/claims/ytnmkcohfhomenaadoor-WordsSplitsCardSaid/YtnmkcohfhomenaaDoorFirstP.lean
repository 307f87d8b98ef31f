/- firstB reads just the written form of a byte: what it finds is written there, and what is written there it finds. -/
import Derived.Test.YtnmkcohfhomenaaDoorFirstB
namespace Go.Proofs.YtnmkcohfhomenaaDoor
open Go.RowKit

theorem hex_back : ∀ n : Fin 256, hexD (hexC (n.val / 16)).toNat < 16 ∧ hexD (hexC (n.val % 16)).toNat < 16 ∧ hexB (hexC (n.val / 16)) (hexC (n.val % 16)) = UInt8.ofNat n.val := by decide +kernel

theorem firstB_enc (c : UInt8) (r : List UInt8) : firstB (encB c ++ r) = (c, (encB c).length) := by
  have hc := c.toNat_lt
  have hback := hex_back ⟨c.toNat, hc⟩
  have e0 : UInt8.ofNat c.toNat = c := by apply UInt8.toNat.inj; rw [UInt8.toNat_ofNat', Nat.mod_eq_of_lt hc]
  simp only at hback
  rw [e0] at hback
  by_cases hp : plainB c.toNat = true
  · have : encB c = [c] := by unfold encB; rw [if_pos hp]
    rw [this]; show firstB (c :: r) = _
    unfold firstB; simp [hp]
  · by_cases h34 : c.toNat = 34
    · have : encB c = [92, 34] := by unfold encB; rw [if_neg hp, if_pos h34]
      rw [this, show c = 34 from UInt8.toNat.inj h34]; rfl
    · by_cases h92 : c.toNat = 92
      · have : encB c = [92, 92] := by unfold encB; rw [if_neg hp, if_neg h34, if_pos h92]
        rw [this, show c = 92 from UInt8.toNat.inj h92]; rfl
      · by_cases h10 : c.toNat = 10
        · have : encB c = [92, 110] := by unfold encB; rw [if_neg hp, if_neg h34, if_neg h92, if_pos h10]
          rw [this, show c = 10 from UInt8.toNat.inj h10]; rfl
        · by_cases h13 : c.toNat = 13
          · have : encB c = [92, 114] := by unfold encB; rw [if_neg hp, if_neg h34, if_neg h92, if_neg h10, if_pos h13]
            rw [this, show c = 13 from UInt8.toNat.inj h13]; rfl
          · by_cases h9 : c.toNat = 9
            · have : encB c = [92, 116] := by unfold encB; rw [if_neg hp, if_neg h34, if_neg h92, if_neg h10, if_neg h13, if_pos h9]
              rw [this, show c = 9 from UInt8.toNat.inj h9]; rfl
            · have he : encB c = [92, 120, hexC (c.toNat / 16), hexC (c.toNat % 16)] := by unfold encB; rw [if_neg hp, if_neg h34, if_neg h92, if_neg h10, if_neg h13, if_neg h9]
              have e1 : firstB (92 :: 120 :: hexC (c.toNat / 16) :: hexC (c.toNat % 16) :: r) = if hexD (hexC (c.toNat / 16)).toNat < 16 ∧ hexD (hexC (c.toNat % 16)).toNat < 16 then (if encB (hexB (hexC (c.toNat / 16)) (hexC (c.toNat % 16))) = [92, 120, hexC (c.toNat / 16), hexC (c.toNat % 16)] then (hexB (hexC (c.toNat / 16)) (hexC (c.toNat % 16)), 4) else (0, 0)) else (0, 0) := rfl
              rw [he]
              show firstB (92 :: 120 :: hexC (c.toNat / 16) :: hexC (c.toNat % 16) :: r) = _
              rw [e1, if_pos ⟨hback.1, hback.2.1⟩, hback.2.2, if_pos he]; rfl

theorem firstB_some (m : List UInt8) (hn : (firstB m).2 ≠ 0) : ∃ r, m = encB (firstB m).1 ++ r ∧ (firstB m).2 = (encB (firstB m).1).length := by
  cases m with
  | nil => exact absurd rfl hn
  | cons a r =>
    by_cases hp : plainB a.toNat = true
    · have h1 : firstB (a :: r) = (a, 1) := by unfold firstB; simp [hp]
      have h2 : encB a = [a] := by unfold encB; rw [if_pos hp]
      rw [h1, h2]; exact ⟨r, rfl, rfl⟩
    · by_cases h92 : a.toNat = 92
      · have ha : a = 92 := UInt8.toNat.inj h92
        subst ha
        cases r with
        | nil => exact absurd rfl hn
        | cons b r2 =>
          by_cases b34 : b.toNat = 34
          · have : b = 34 := UInt8.toNat.inj b34
            subst this; exact ⟨r2, rfl, rfl⟩
          · by_cases b92 : b.toNat = 92
            · have : b = 92 := UInt8.toNat.inj b92
              subst this; exact ⟨r2, rfl, rfl⟩
            · by_cases b110 : b.toNat = 110
              · have : b = 110 := UInt8.toNat.inj b110
                subst this; exact ⟨r2, rfl, rfl⟩
              · by_cases b114 : b.toNat = 114
                · have : b = 114 := UInt8.toNat.inj b114
                  subst this; exact ⟨r2, rfl, rfl⟩
                · by_cases b116 : b.toNat = 116
                  · have : b = 116 := UInt8.toNat.inj b116
                    subst this; exact ⟨r2, rfl, rfl⟩
                  · by_cases b120 : b.toNat = 120
                    · have : b = 120 := UInt8.toNat.inj b120
                      subst this
                      match r2, hn with
                      | [], hn => exact absurd rfl hn
                      | [x], hn => exact absurd rfl hn
                      | x :: y :: r3, hn =>
                        have e1 : firstB (92 :: 120 :: x :: y :: r3) = if hexD x.toNat < 16 ∧ hexD y.toNat < 16 then (if encB (hexB x y) = [92, 120, x, y] then (hexB x y, 4) else (0, 0)) else (0, 0) := rfl
                        rw [e1] at hn ⊢
                        by_cases g1 : hexD x.toNat < 16 ∧ hexD y.toNat < 16
                        · rw [if_pos g1] at hn ⊢
                          by_cases g2 : encB (hexB x y) = [92, 120, x, y]
                          · rw [if_pos g2] at hn ⊢
                            simp only [g2]
                            exact ⟨r3, rfl, rfl⟩
                          · rw [if_neg g2] at hn; exact absurd rfl hn
                        · rw [if_neg g1] at hn; exact absurd rfl hn
                    · have : (firstB (92 :: b :: r2)).2 = 0 := by
                        unfold firstB; simp [p92, b34, b92, b110, b114, b116, b120]
                      exact absurd this hn
      · have : (firstB (a :: r)).2 = 0 := by
          unfold firstB; simp [hp, h92]
        exact absurd this hn
end Go.Proofs.YtnmkcohfhomenaaDoor
