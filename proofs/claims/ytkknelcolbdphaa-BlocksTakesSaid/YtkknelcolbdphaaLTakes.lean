/- The law BlocksTakes. -/
import Derived.Test.YtkknelcolbdphaaLAllocs
import Derived.Test.YtkknelcolbdphaaRTurn
namespace Go.Proofs.Ytkknelcolbdphaa
open Go.RowKit
set_option maxRecDepth 100000
attribute [local go_sem ↓] appL_eq

set_option maxHeartbeats 8000000 in
theorem takes_any (w : World) (l : Lay) (v vl : Value) (U : List Bool) (L : List Int) (hv : BoolsAt w v U) (hU0 : U.length ≤ maxLen) (hl : IntsAt w vl L) (hL0 : L.length ≤ maxLen) :
    Calls Try.prog 5 #[.agg (stA l v), vl] w fun e w' => e = .returned (.bool true) ∧ Below w.heap.size w w' := by
  obtain ⟨s, c, rfl⟩ := hv.val
  obtain ⟨sl, cl, rfl⟩ := hl.val
  have HAW := Lib.hid awake_any
  obtain ⟨w0, hw0, hr0, hb0⟩ := box_st l (.slice s U.length c) w
  have HB0 := Lib.hid hb0
  have HR0 := Lib.hid hr0
  have HF := Lib.hid (far_any l U s c w0)
  have HV0 := Lib.hid (hv.below hb0 (Nat.le_refl _))
  have HL0 := Lib.hid (hl.below hb0 (Nat.le_refl _))
  obtain ⟨x0, x1, x2, x3⟩ := hr0.four'
  clear hr0 hb0 hv hl
  unfold stA at HF ⊢
  by_cases hfar : 300 < U.length
  · have hdf : decide (300 < U.length) = true := by simpa using hfar
    rw [hdf] at HF
    go_enter Try.func5, Try.ntmps5
    go_wp2_with (rw [hw0])
    refine HF.out.mono ?_
    rintro e w1 ⟨rfl, hb1⟩
    have HBZ := Lib.hid (HB0.out.trans (hb1.mono HB0.out.size))
    clear hb1 x0 x1 x2 x3
    go_wp2_with fail
    refine (HAW.out _).mono ?_
    rintro e w9 ⟨rfl, hb9⟩
    have HB9 := Lib.hid (HBZ.out.trans (hb9.mono HBZ.out.size))
    clear hb9
    go_wp2_with fail
    go_ret
    exact ⟨rfl, HB9.out⟩

  · have hdf : decide (300 < U.length) = false := by simpa using hfar
    rw [hdf] at HF
    have hU : U.length ≤ 1000 := by omega
    by_cases hll : 300 < L.length
    · have hd1 : decide ((300 : Int) < (L.length : Int)) = true := decide_eq_true (by omega)
      have hd2 : decide (300 < L.length) = true := decide_eq_true hll
      go_enter Try.func5, Try.ntmps5
      go_wp2_with (rw [hw0])
      refine HF.out.mono ?_
      rintro e w1 ⟨rfl, hb1⟩
      have HBZ := Lib.hid (HB0.out.trans (hb1.mono HB0.out.size))
      clear hb1 x0 x1 x2 x3
      go_wp2_with fail
      refine (HAW.out _).mono ?_
      rintro e w9 ⟨rfl, hb9⟩
      have HB9 := Lib.hid (HBZ.out.trans (hb9.mono HBZ.out.size))
      clear hb9
      go_wp2_with fail
      go_ret
      exact ⟨rfl, HB9.out⟩

    · have hd1 : decide ((300 : Int) < (L.length : Int)) = false := decide_eq_false (by omega)
      have hd2 : decide (300 < L.length) = false := decide_eq_false hll
      have hLl : L.length ≤ 100000 := by omega
      go_enter Try.func5, Try.ntmps5
      go_wp2_with (rw [hw0])
      refine HF.out.mono ?_
      rintro e w1 ⟨rfl, hb1⟩
      have HR1 := Lib.hid (HR0.out.below hb1 HR0.out.lt)
      obtain ⟨g, c', w2, hr, ho, hb2⟩ := clone_run (HV0.out.below hb1 (Nat.le_refl _)) hU
      have HBw2 := Lib.hid (hb1.trans (hb2.mono hb1.size))
      have HOW := Lib.hid ho.at_
      have x3a := fun o => (HR1.out.alloc o).four'.2.2.2
      clear hb1 hb2 ho x0 x1 x2 x3
      have y3 := HR1.out.four'.2.2.2
      obtain ⟨x0, x1, x2, x3⟩ := (HR0.out.below HBw2.out HR0.out.lt).four'
      have HCA := Lib.hid (take_any (l := l) (HV0.out.below HBw2.out (Nat.le_refl _)) (HL0.out.below HBw2.out (Nat.le_refl _)) hU hLl)
      unfold stA at HCA
      go_wp2_with fail
      refine HCA.out.mono ?_
      rintro e yA ⟨vA, rfl, hoA, hbA⟩
      have hvA : BoolsAt yA vA (putU l U L true 9) := hoA.at_
      obtain ⟨sA, cA, rfl⟩ := hvA.val
      obtain ⟨wA, hwwA, hrA, hbbA, hbnA⟩ := box_one (stA l (.slice sA (putU l U L true 9).length cA)) 33 w2.heap.size w2 yA hbA (Nat.le_refl _)
      have HRA := Lib.hid hrA
      have HBwA := Lib.hid (HBw2.out.trans (hbbA.mono HBw2.out.size))
      have HVA := Lib.hid (hvA.below hbnA (Nat.le_refl _))
      have HOW := Lib.hid (HOW.out.below hbbA (Nat.le_refl _))
      have hwwA' := hwwA
      clear x0 x1 x2 x3 hbA hrA hbbA hbnA hoA hvA hwwA
      have hwwA := hwwA'
      clear hwwA'
      unfold stA at hwwA ⊢
      have hwwA := hwwA
      clear hwwA
      obtain ⟨x0, x1, x2, x3⟩ := (HR0.out.below HBwA.out HR0.out.lt).four'
      have HCB := Lib.hid (refTake_any (l := l) (HV0.out.below HBwA.out (Nat.le_refl _)) (HL0.out.below HBwA.out (Nat.le_refl _)) hU hLl)
      unfold stA at HCB
      go_wp2_with (rw [hwwA])
      refine HCB.out.mono ?_
      rintro e yB ⟨vB, rfl, hoB, hbB⟩
      have hvB : BoolsAt yB vB (putU l U L true 9) := hoB
      obtain ⟨sB, cB, rfl⟩ := hvB.val
      obtain ⟨wB, hwwB, hrB, hbbB, hbnB⟩ := box_one (stA l (.slice sB (putU l U L true 9).length cB)) 33 wA.heap.size wA yB hbB (Nat.le_refl _)
      have HRB := Lib.hid hrB
      have HBwB := Lib.hid (HBwA.out.trans (hbbB.mono HBwA.out.size))
      have HVB := Lib.hid (hvB.below hbnB (Nat.le_refl _))
      have HRA := Lib.hid (HRA.out.below hbbB HRA.out.lt)
      have HVA := Lib.hid (HVA.out.below hbbB (Nat.le_refl _))
      have HOW := Lib.hid (HOW.out.below hbbB (Nat.le_refl _))
      have hwwB' := hwwB
      clear x0 x1 x2 x3 hbB hrB hbbB hbnB hoB hvB hwwB
      have hwwB := hwwB'
      clear hwwB'
      unfold stA at hwwB ⊢
      have hwwB := hwwB
      clear hwwB
      obtain ⟨x0, x1, x2, x3⟩ := (HR0.out.below HBwB.out HR0.out.lt).four'
      have HCC := Lib.hid (free_any (l := l) (HV0.out.below HBwB.out (Nat.le_refl _)) (HL0.out.below HBwB.out (Nat.le_refl _)) hU hLl)
      unfold stA at HCC
      go_wp2_with (rw [hwwB])
      refine HCC.out.mono ?_
      rintro e yC ⟨vC, rfl, hoC, hbC⟩
      have hvC : BoolsAt yC vC (putU l U L false 4) := hoC.at_
      obtain ⟨sC, cC, rfl⟩ := hvC.val
      obtain ⟨wC, hwwC, hrC, hbbC, hbnC⟩ := box_one (stA l (.slice sC (putU l U L false 4).length cC)) 33 wB.heap.size wB yC hbC (Nat.le_refl _)
      have HRC := Lib.hid hrC
      have HBwC := Lib.hid (HBwB.out.trans (hbbC.mono HBwB.out.size))
      have HVC := Lib.hid (hvC.below hbnC (Nat.le_refl _))
      have HRA := Lib.hid (HRA.out.below hbbC HRA.out.lt)
      have HVA := Lib.hid (HVA.out.below hbbC (Nat.le_refl _))
      have HRB := Lib.hid (HRB.out.below hbbC HRB.out.lt)
      have HVB := Lib.hid (HVB.out.below hbbC (Nat.le_refl _))
      have HOW := Lib.hid (HOW.out.below hbbC (Nat.le_refl _))
      have hwwC' := hwwC
      clear x0 x1 x2 x3 hbC hrC hbbC hbnC hoC hvC hwwC
      have hwwC := hwwC'
      clear hwwC'
      unfold stA at hwwC ⊢
      have hwwC := hwwC
      clear hwwC
      obtain ⟨x0, x1, x2, x3⟩ := (HR0.out.below HBwC.out HR0.out.lt).four'
      have HCD := Lib.hid (refFree2_any (l := l) (HV0.out.below HBwC.out (Nat.le_refl _)) (HL0.out.below HBwC.out (Nat.le_refl _)) hU hLl)
      unfold stA at HCD
      go_wp2_with (rw [hwwC])
      refine HCD.out.mono ?_
      rintro e yD ⟨vD, rfl, hoD, hbD⟩
      have hvD : BoolsAt yD vD (putU l U L false 4) := hoD
      obtain ⟨sD, cD, rfl⟩ := hvD.val
      obtain ⟨wD, hwwD, hrD, hbbD, hbnD⟩ := box_one (stA l (.slice sD (putU l U L false 4).length cD)) 33 wC.heap.size wC yD hbD (Nat.le_refl _)
      have HRD := Lib.hid hrD
      have HBwD := Lib.hid (HBwC.out.trans (hbbD.mono HBwC.out.size))
      have HVD := Lib.hid (hvD.below hbnD (Nat.le_refl _))
      have HRA := Lib.hid (HRA.out.below hbbD HRA.out.lt)
      have HVA := Lib.hid (HVA.out.below hbbD (Nat.le_refl _))
      have HRB := Lib.hid (HRB.out.below hbbD HRB.out.lt)
      have HVB := Lib.hid (HVB.out.below hbbD (Nat.le_refl _))
      have HRC := Lib.hid (HRC.out.below hbbD HRC.out.lt)
      have HVC := Lib.hid (HVC.out.below hbbD (Nat.le_refl _))
      have HOW := Lib.hid (HOW.out.below hbbD (Nat.le_refl _))
      have hwwD' := hwwD
      clear x0 x1 x2 x3 hbD hrD hbbD hbnD hoD hvD hwwD
      have hwwD := hwwD'
      clear hwwD'
      unfold stA at hwwD ⊢
      have hwwD := hwwD
      clear hwwD
      obtain ⟨x0, x1, x2, x3⟩ := (HR0.out.below HBwD.out HR0.out.lt).four'
      have HSAB := Lib.hid (same_any (l := l) HVA.out HVB.out (by rw [putU_len]; exact hU))
      have HSCD := Lib.hid (fun X (h : Below wD.heap.size wD X) => same_any (w := X) (l := l) (HVC.out.below h (Nat.le_refl _)) (HVD.out.below h (Nat.le_refl _)) (by rw [putU_len]; exact hU))
      have HSO := Lib.hid (fun X (h : Below wD.heap.size wD X) => same_any (w := X) (l := l) ((HV0.out.below HBwD.out (Nat.le_refl _)).below h (Nat.le_refl _)) (HOW.out.below h (Nat.le_refl _)) hU)
      have HBZ0 := Lib.hid (HB0.out.trans (HBwD.out.mono HB0.out.size))
      unfold stA at HSAB HSCD HSO
      clear x0 x1 x2 x3 x3a hr y3
      obtain ⟨a0, a1, a2, a3⟩ := HRA.out.four'
      obtain ⟨b0, b1, b2, b3⟩ := HRB.out.four'
      go_wp2_with (rw [hwwD])
      refine HSAB.out.mono ?_
      rintro e z1 ⟨rfl, hz1⟩
      have HZ1 := Lib.hid hz1
      clear hz1 a0 a1 a2 a3 b0 b1 b2 b3
      obtain ⟨a0, a1, a2, a3⟩ := (HRC.out.below HZ1.out HRC.out.lt).four'
      obtain ⟨b0, b1, b2, b3⟩ := (HRD.out.below HZ1.out HRD.out.lt).four'
      go_wp2_with fail
      refine (HSCD.out _ HZ1.out).mono ?_
      rintro e z2 ⟨rfl, hz2⟩
      have HZ2 := Lib.hid (HZ1.out.trans (hz2.mono HZ1.out.size))
      clear hz2 a0 a1 a2 a3 b0 b1 b2 b3
      obtain ⟨a0, a1, a2, a3⟩ := ((HR0.out.below HBwD.out HR0.out.lt).below HZ2.out (HR0.out.below HBwD.out HR0.out.lt).lt).four'
      go_wp2_with fail
      refine (HSO.out _ HZ2.out).mono ?_
      rintro e z3 ⟨rfl, hz3⟩
      have HBZ := Lib.hid (HBZ0.out.trans ((HZ2.out.trans (hz3.mono HZ2.out.size)).mono HBZ0.out.size))
      clear hz3 a0 a1 a2 a3
      go_wp2_with fail
      refine (HAW.out _).mono ?_
      rintro e w9 ⟨rfl, hb9⟩
      have HB9 := Lib.hid (HBZ.out.trans (hb9.mono HBZ.out.size))
      clear hb9
      go_wp2_with fail
      go_ret
      exact ⟨rfl, HB9.out⟩
end Go.Proofs.Ytkknelcolbdphaa
