/- The law BlocksLayouts. -/
import Derived.Test.YtkknelcolbdphaaAwake
namespace Go.Proofs.Ytkknelcolbdphaa
open Go.RowKit
set_option maxRecDepth 100000

theorem regA_five (l : Lay) : ∃ a b c d e : Int, regA l = #[.int .i64 a, .int .i64 b, .int .i64 c, .int .i64 d, .int .i64 e] := by
  unfold regA
  split
  · exact ⟨_, _, _, _, _, rfl⟩
  · exact ⟨_, _, _, _, _, rfl⟩
theorem newU_len (l : Lay) : (newU l).length ≤ 1000 := by
  unfold newU
  split
  · rename_i h
    have := dataN_ok h
    rw [List.length_replicate]; omega
  · exact Nat.zero_le _
/-- A new box behind a call. -/
theorem box_one (cs : Array Value) (T : Nat) (n : Nat) (A W : World) (hb : Below n A W) (hn : n ≤ A.heap.size) : ∃ X, W.alloc (.cells cs T (0, 0)) = X ∧ Row X W.heap.size cs T ∧ Below n A X ∧ Below W.heap.size W X :=
  ⟨_, rfl, Row.new _ _ _, hb.alloc (Nat.le_trans hn hb.size) _, (Below.refl _ _).alloc (Nat.le_refl _) _⟩
set_option maxHeartbeats 4000000 in
theorem layouts_any (l : Lay) (b : Int) (w : World) : Calls Try.prog 3 #[.agg (layA l), .int .i64 b] w fun e w' => e = .returned (.bool true) ∧ Below w.heap.size w w' := by
  have C1 := Lib.hid (regions_any l)
  have C2 := Lib.hid (refRegions_any l)
  have C3 := Lib.hid (sector_any l b)
  have C4 := Lib.hid (refSector_any l b)
  have C5 := Lib.hid (new_any l)
  have C6 := Lib.hid (refNew_any l)
  obtain ⟨r0, r1, r2, r3, r4, hreg⟩ := regA_five l
  have HREG := Lib.hid hreg
  clear hreg
  obtain ⟨w0, hw0, hr0, hb0, -⟩ := box_one (layA l) 23 w.heap.size w w (Below.refl _ _) (Nat.le_refl _)
  have HB0 := Lib.hid hb0
  have HR0 := Lib.hid hr0
  unfold layA at *
  obtain ⟨x0, x1, x2⟩ := hr0.three
  clear hr0 hb0
  go_enter Try.func3, Try.ntmps3
  go_wp2_with (rw [hw0])
  refine (C1.out _).mono ?_
  rintro e w1 ⟨rfl, hb1⟩
  rw [HREG.out]
  obtain ⟨wA, hwA, hrA, hbA, -⟩ := box_one #[.int .i64 r0, .int .i64 r1, .int .i64 r2, .int .i64 r3, .int .i64 r4] 25 w0.heap.size w0 w1 hb1 (Nat.le_refl _)
  have HA := Lib.hid hrA
  have HBA := Lib.hid hbA
  clear x0 x1 x2 hb1 hrA hbA hw0
  obtain ⟨x0, x1, x2⟩ := (HR0.out.below HBA.out HR0.out.lt).three
  go_wp2_with (rw [hwA])
  refine (C2.out _).mono ?_
  rintro e w2 ⟨rfl, hb2⟩
  rw [HREG.out]
  obtain ⟨wB, hwB, hrB, hbB, -⟩ := box_one #[.int .i64 r0, .int .i64 r1, .int .i64 r2, .int .i64 r3, .int .i64 r4] 25 wA.heap.size wA w2 hb2 (Nat.le_refl _)
  have HBm := Lib.hid hrB
  have HBB := Lib.hid (HBA.out.trans (hbB.mono HBA.out.size))
  have HA2 := Lib.hid (HA.out.below hbB HA.out.lt)
  clear x0 x1 x2 hb2 hrB hbB hwA
  obtain ⟨x0, x1, x2⟩ := (HR0.out.below HBB.out HR0.out.lt).three
  go_wp2_with (rw [hwB])
  refine (C3.out _).mono ?_
  rintro e w3 ⟨rfl, hb3⟩
  have HB3 := Lib.hid (HBB.out.trans (hb3.mono HBB.out.size))
  have HA3 := Lib.hid (HA2.out.below hb3 HA2.out.lt)
  have HM3 := Lib.hid (HBm.out.below hb3 HBm.out.lt)
  clear x0 x1 x2 hb3 hwB
  obtain ⟨x0, x1, x2⟩ := (HR0.out.below HB3.out HR0.out.lt).three
  go_wp2_with fail
  refine (C4.out _).mono ?_
  rintro e w4 ⟨rfl, hb4⟩
  have HB4 := Lib.hid (HB3.out.trans (hb4.mono HB3.out.size))
  have HA4 := Lib.hid (HA3.out.below hb4 HA3.out.lt)
  have HM4 := Lib.hid (HM3.out.below hb4 HM3.out.lt)
  clear x0 x1 x2 hb4
  obtain ⟨x0, x1, x2⟩ := (HR0.out.below HB4.out HR0.out.lt).three
  go_wp2_with fail
  refine (C5.out _).mono ?_
  rintro e w5 ⟨v5, rfl, ho5, hb5⟩
  obtain ⟨s5, c5, rfl⟩ := ho5.at_.val
  obtain ⟨wC, hwC, hrC, hbC, hbC'⟩ := box_one (stA (newL l) (.slice s5 (newU l).length c5)) 33 w4.heap.size w4 w5 hb5 (Nat.le_refl _)
  have HC := Lib.hid hrC
  have HBC := Lib.hid (HB4.out.trans (hbC.mono HB4.out.size))
  have HA5 := Lib.hid (HA4.out.below hbC HA4.out.lt)
  have HM5 := Lib.hid (HM4.out.below hbC HM4.out.lt)
  have HV5 := Lib.hid (ho5.at_.below hbC' (Nat.le_refl _))
  clear x0 x1 x2 hb5 hrC hbC hbC' ho5
  obtain ⟨x0, x1, x2⟩ := (HR0.out.below HBC.out HR0.out.lt).three
  unfold stA at hwC ⊢
  go_wp2_with (rw [hwC])
  refine (C6.out _).mono ?_
  rintro e w6 ⟨v6, rfl, ho6, hb6⟩
  obtain ⟨s6, c6, rfl⟩ := ho6.at_.val
  obtain ⟨wD, hwD, hrD, hbD, hbD'⟩ := box_one (stA (newL l) (.slice s6 (newU l).length c6)) 33 wC.heap.size wC w6 hb6 (Nat.le_refl _)
  have HD := Lib.hid hrD
  have HBD := Lib.hid (HB0.out.trans ((HBC.out.trans (hbD.mono HBC.out.size)).mono HB0.out.size))
  have hA6 := HA5.out.below hbD HA5.out.lt
  have hM6 := HM5.out.below hbD HM5.out.lt
  have hC6 := HC.out.below hbD HC.out.lt
  have HSM := Lib.hid (same_any (l := newL l) (HV5.out.below hbD (Nat.le_refl _)) (ho6.at_.below hbD' (Nat.le_refl _)) (newU_len l))
  have HAW := Lib.hid awake_any
  clear x0 x1 x2 hb6 hrD hbD hbD' ho6 hwC
  obtain ⟨x0, x1, x2, x3, x4⟩ := hA6.five
  obtain ⟨y0, y1, y2, y3, y4⟩ := hM6.five
  obtain ⟨z0, z1, z2, z3⟩ := hC6.four'
  obtain ⟨u0, u1, u2, u3⟩ := HD.out.four'
  clear hA6 hM6 hC6
  unfold stA at hwD HSM ⊢
  generalize newE l = E2 at *
  go_wp2_with (rw [hwD])
  refine HSM.out.mono ?_
  rintro e w8 ⟨rfl, hb8⟩
  have HB8 := Lib.hid (HBD.out.trans (hb8.mono HBD.out.size))
  clear hb8 x0 x1 x2 x3 x4 y0 y1 y2 y3 y4 z0 z1 z2 z3 u0 u1 u2 u3
  go_wp2_with fail
  refine (HAW.out _).mono ?_
  rintro e w9 ⟨rfl, hb9⟩
  have HB9 := Lib.hid (HB8.out.trans (hb9.mono HB8.out.size))
  clear hb9
  go_wp2_with fail
  go_ret
  exact ⟨rfl, HB9.out⟩
end Go.Proofs.Ytkknelcolbdphaa
