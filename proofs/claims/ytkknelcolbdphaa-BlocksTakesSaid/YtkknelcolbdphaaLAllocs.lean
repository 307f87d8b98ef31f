/- The law BlocksAllocs. -/
import Derived.Test.YtkknelcolbdphaaLFirst
import Derived.Test.YtkknelcolbdphaaRAlloc
namespace Go.Proofs.Ytkknelcolbdphaa
open Go.RowKit
set_option maxRecDepth 100000
attribute [local go_sem ↓] appL_eq Go.wp_at_zero Go.wp_at_succ

/-- Three boxes of states, as a region loads them. -/
def Three (b0 b1 b2 : Nat) (l : Lay) (v0 v1 v2 : Value) (W0 : World) (W : World) : Prop :=
  (W.cell? ⟨b0, 0, none⟩ = some (.int .i64 l.s) ∧ W.cell? ⟨b0, 1, none⟩ = some (.int .i64 l.j) ∧ W.cell? ⟨b0, 2, none⟩ = some (.int .i64 l.n) ∧ W.cell? ⟨b0, 3, none⟩ = some v0) ∧
  (W.cell? ⟨b1, 0, none⟩ = some (.int .i64 l.s) ∧ W.cell? ⟨b1, 1, none⟩ = some (.int .i64 l.j) ∧ W.cell? ⟨b1, 2, none⟩ = some (.int .i64 l.n) ∧ W.cell? ⟨b1, 3, none⟩ = some v1) ∧
  (W.cell? ⟨b2, 0, none⟩ = some (.int .i64 l.s) ∧ W.cell? ⟨b2, 1, none⟩ = some (.int .i64 l.j) ∧ W.cell? ⟨b2, 2, none⟩ = some (.int .i64 l.n) ∧ W.cell? ⟨b2, 3, none⟩ = some v2) ∧
  Below W0.heap.size W0 W
theorem three_of {b0 b1 b2 : Nat} {l : Lay} {v0 v1 v2 : Value} {W0 : World} (h0 : Row W0 b0 (stA l v0) 33) (h1 : Row W0 b1 (stA l v1) 33) (h2 : Row W0 b2 (stA l v2) 33) (W : World) (h : Below W0.heap.size W0 W) : Three b0 b1 b2 l v0 v1 v2 W0 W :=
  ⟨(h0.below h h0.lt).four', (h1.below h h1.lt).four', (h2.below h h2.lt).four', h⟩
theorem allocU_len (l : Lay) (U : List Bool) (near many : Int) : (allocU l U near many).length = U.length := by
  unfold allocU
  split
  · exact withL_len _ _ _
  · rfl
theorem allocL_len (l : Lay) (U : List Bool) (near many : Int) (hU : U.length ≤ 1000) : (allocL l U near many).length ≤ 1000 := by
  unfold allocL
  split
  · rw [List.length_take]
    have := freeP_len U near.toNat U.length
    unfold freeL
    omega
  · exact Nat.zero_le _
theorem drew_below {n : Nat} {A W : World} (h : Below n A W) : Below n A W.drew := h.drew
set_option maxHeartbeats 8000000 in
theorem allocs_any (w : World) (l : Lay) (v : Value) (U : List Bool) (near many : Int) (hv : BoolsAt w v U) (hU0 : U.length ≤ maxLen) :
    Calls Try.prog 4 #[.agg (stA l v), .int .i64 near, .int .i64 many] w fun e w' => e = .returned (.bool true) ∧ Below w.heap.size w w' := by
  obtain ⟨s, c, rfl⟩ := hv.val
  have HAW := Lib.hid awake_any
  obtain ⟨w0, hw0, hr0, hb0⟩ := box_st l (.slice s U.length c) w
  have HB0 := Lib.hid hb0
  have HR0 := Lib.hid hr0
  have HF := Lib.hid (far_any l U s c w0)
  have HV0 := Lib.hid (hv.below hb0 (Nat.le_refl _))
  obtain ⟨x0, x1, x2, x3⟩ := hr0.four'
  clear hr0 hb0 hv
  unfold stA at HF ⊢
  by_cases hfar : 300 < U.length
  · have hdf : decide (300 < U.length) = true := by simpa using hfar
    rw [hdf] at HF
    go_enter Try.func4, Try.ntmps4
    go_wp2_with (rw [hw0])
    refine HF.out.mono ?_
    rintro e w1 ⟨rfl, hb1⟩
    have HBZ := Lib.hid (HB0.out.trans (hb1.mono HB0.out.size))
    clear hb1 x0 x1 x2 x3
    go_wp2_with fail
    refine (HAW.out _).mono ?_
    rintro e w9 ⟨rfl, hb9⟩
    have HB9 := Lib.hid (HBZ.out.trans (hb9.mono HBZ.out.size))
    clear hb9
    go_wp2_with fail
    go_ret
    exact ⟨rfl, HB9.out⟩

  · have hdf : decide (300 < U.length) = false := by simpa using hfar
    rw [hdf] at HF
    have hU : U.length ≤ 1000 := by omega
    go_enter Try.func4, Try.ntmps4
    go_wp2_with (rw [hw0])
    refine HF.out.mono ?_
    rintro e w1 ⟨rfl, hb1⟩
    have HR1 := Lib.hid (HR0.out.below hb1 HR0.out.lt)
    obtain ⟨g, c', w2, hr, ho, hb2⟩ := clone_run (HV0.out.below hb1 (Nat.le_refl _)) hU
    have HB2 := Lib.hid (hb1.trans (hb2.mono hb1.size))
    have HOW := Lib.hid ho
    have x3a := fun o => (HR1.out.alloc o).four'.2.2.2
    have HR2 := Lib.hid (HR0.out.below HB2.out HR0.out.lt)
    clear hb1 hb2 ho x0 x1 x2 x3
    obtain ⟨x0, x1, x2, x3⟩ := HR2.out.four'
    have HA := Lib.hid (alloc_any (l := l) near many (HV0.out.below HB2.out (Nat.le_refl _)) hU)
    unfold stA at HA
    go_wp2_with fail
    refine HA.out.mono ?_
    rintro e w3 ⟨v3, l3, rfl, ho3, hl3, hb3⟩
    obtain ⟨s3, c3, rfl⟩ := ho3.at_.val
    obtain ⟨sl3, cl3, rfl⟩ := hl3.at_.val
    obtain ⟨wA, hwA, hrA, hbA, hbA'⟩ := box_one (stA l (.slice s3 (allocU l U near many).length c3)) 33 w2.heap.size w2 w3 hb3 (Nat.le_refl _)
    have HAA := Lib.hid hrA
    have HBA := Lib.hid (HB2.out.trans (hbA.mono HB2.out.size))
    have HV3 := Lib.hid (ho3.at_.below hbA' (Nat.le_refl _))
    have HL3 := Lib.hid (hl3.at_.below hbA' (Nat.le_refl _))
    have HOA := Lib.hid (HOW.out.at_.below hbA (Nat.le_refl _))
    clear x0 x1 x2 x3 hb3 hrA hbA hbA' ho3 hl3
    have HRA := Lib.hid (HR0.out.below HBA.out HR0.out.lt)
    obtain ⟨x0, x1, x2, x3⟩ := HRA.out.four'
    have HRF := Lib.hid (refAlloc_any (l := l) near many (HV0.out.below HBA.out (Nat.le_refl _)) hU)
    unfold stA at HRF hwA ⊢
    go_wp2_with (rw [hwA])
    refine HRF.out.mono ?_
    rintro e w4 ⟨v4, l4, rfl, hv4, hl4, hb4⟩
    obtain ⟨s4, c4, rfl⟩ := hv4.val
    obtain ⟨sl4, cl4, rfl⟩ := hl4.val
    obtain ⟨wB, hwB, hrB, hbB, hbB'⟩ := box_one (stA l (.slice s4 (allocU l U near many).length c4)) 33 wA.heap.size wA w4 hb4 (Nat.le_refl _)
    have HBB := Lib.hid (HB0.out.trans ((HBA.out.trans (hbB.mono HBA.out.size)).mono HB0.out.size))
    have HT := Lib.hid (three_of (HRA.out.below hbB HRA.out.lt) (HAA.out.below hbB HAA.out.lt) hrB)
    have HV0B := HV0.out.below (HBA.out.trans (hbB.mono HBA.out.size)) (Nat.le_refl _)
    have HV3B := HV3.out.below hbB (Nat.le_refl _)
    have HV4B := hv4.below hbB' (Nat.le_refl _)
    have HL3B := HL3.out.below hbB (Nat.le_refl _)
    have HL4B := hl4.below hbB' (Nat.le_refl _)
    have HOB := HOA.out.below hbB (Nat.le_refl _)
    have hul := allocU_len l U near many
    have hll := allocL_len l U near many hU
    have HCK := Lib.hid (fun W (h : Three w.heap.size w3.heap.size w4.heap.size l (.slice s U.length c) (.slice s3 (allocU l U near many).length c3) (.slice s4 (allocU l U near many).length c4) wB W) => check_any l U s c W)
    have HRC := Lib.hid (fun W (h : Three w.heap.size w3.heap.size w4.heap.size l (.slice s U.length c) (.slice s3 (allocU l U near many).length c3) (.slice s4 (allocU l U near many).length c4) wB W) => refCheck_any l U s c W)
    have HSM := Lib.hid (fun W (h : Three w.heap.size w3.heap.size w4.heap.size l (.slice s U.length c) (.slice s3 (allocU l U near many).length c3) (.slice s4 (allocU l U near many).length c4) wB W) => same_any (w := W) (l := l) (HV3B.below h.2.2.2 (Nat.le_refl _)) (HV4B.below h.2.2.2 (Nat.le_refl _)) (by omega))
    have HSO := Lib.hid (fun W (h : Three w.heap.size w3.heap.size w4.heap.size l (.slice s U.length c) (.slice s3 (allocU l U near many).length c3) (.slice s4 (allocU l U near many).length c4) wB W) => same_any (w := W) (l := l) (HV0B.below h.2.2.2 (Nat.le_refl _)) (HOB.below h.2.2.2 (Nat.le_refl _)) hU)
    have HIN := Lib.hid (fun W (h : Three w.heap.size w3.heap.size w4.heap.size l (.slice s U.length c) (.slice s3 (allocU l U near many).length c3) (.slice s4 (allocU l U near many).length c4) wB W) => ints_same (w := W) (HL3B.below h.2.2.2 (Nat.le_refl _)) (HL4B.below h.2.2.2 (Nat.le_refl _)) hll)
    have HAK := Lib.hid (fun W (h : Three w.heap.size w3.heap.size w4.heap.size l (.slice s U.length c) (.slice s3 (allocU l U near many).length c3) (.slice s4 (allocU l U near many).length c4) wB W) => awake_any W)
    have HS0 := Lib.hid (HT.out wB (Below.refl _ _))
    have HSD := Lib.hid (fun W (h : Three w.heap.size w3.heap.size w4.heap.size l (.slice s U.length c) (.slice s3 (allocU l U near many).length c3) (.slice s4 (allocU l U near many).length c4) wB W) => HT.out W.drew h.2.2.2.drew)
    have HNX := Lib.hid (fun W W' (h : Three w.heap.size w3.heap.size w4.heap.size l (.slice s U.length c) (.slice s3 (allocU l U near many).length c3) (.slice s4 (allocU l U near many).length c4) wB W) (hb : Below W.heap.size W W') => HT.out W' (h.2.2.2.trans (hb.mono h.2.2.2.size)))
    clear x0 x1 x2 x3 x3a hr hb4 hrB hbB hbB' hv4 hl4 HV0B HV3B HV4B HL3B HL4B HOB hwA hll hul
    generalize hE : chkE l U = E at *
    generalize allocE l U near many = E2 at *
    generalize (allocU l U near many).length = n3 at *
    generalize (allocL l U near many).length = n4 at *
    have e1 : (E == E) = true := beq_self_eq_true _
    have e2 : (E2 == E2) = true := beq_self_eq_true _
    unfold stA at HCK HRC HSM HSO hwB ⊢
    go_wp2_with (rw [hwB])
    go_region_held3 (fun W' => (W'.cell? ⟨w.heap.size, 0, none⟩ = some (.int .i64 l.s) ∧ W'.cell? ⟨w.heap.size, 1, none⟩ = some (.int .i64 l.j) ∧ W'.cell? ⟨w.heap.size, 2, none⟩ = some (.int .i64 l.n) ∧ W'.cell? ⟨w.heap.size, 3, none⟩ = some (.slice s U.length c)) ∧ (W'.cell? ⟨w3.heap.size, 0, none⟩ = some (.int .i64 l.s) ∧ W'.cell? ⟨w3.heap.size, 1, none⟩ = some (.int .i64 l.j) ∧ W'.cell? ⟨w3.heap.size, 2, none⟩ = some (.int .i64 l.n) ∧ W'.cell? ⟨w3.heap.size, 3, none⟩ = some (.slice s3 n3 c3)) ∧ (W'.cell? ⟨w4.heap.size, 0, none⟩ = some (.int .i64 l.s) ∧ W'.cell? ⟨w4.heap.size, 1, none⟩ = some (.int .i64 l.j) ∧ W'.cell? ⟨w4.heap.size, 2, none⟩ = some (.int .i64 l.n) ∧ W'.cell? ⟨w4.heap.size, 3, none⟩ = some (.slice s4 n3 c4)) ∧ Below wB.heap.size wB W') (first | assumption | exact HS0.out | exact HSD.out _ (by assumption))
      ((first
        | (go_at_call 22; (with_reducible refine (HCK.out _ ?hs).mono ?_); (case hs => assumption); rintro e wz ⟨rfl, hbz⟩; have hPz := HNX.out _ _ (by assumption) hbz)
        | (go_at_call 23; (with_reducible refine (HRC.out _ ?hs).mono ?_); (case hs => assumption); rintro e wz ⟨rfl, hbz⟩; have hPz := HNX.out _ _ (by assumption) hbz)
        | (go_at_call 17; (with_reducible refine (HSM.out _ ?hs).mono ?_); (case hs => assumption); rintro e wz ⟨rfl, hbz⟩; have hPz := HNX.out _ _ (by assumption) hbz)
        | (go_at_call 17; (with_reducible refine (HSO.out _ ?hs).mono ?_); (case hs => assumption); rintro e wz ⟨rfl, hbz⟩; have hPz := HNX.out _ _ (by assumption) hbz)
        | (go_at_call 24; (with_reducible refine (HIN.out _ ?hs).mono ?_); (case hs => assumption); rintro e wz ⟨rfl, hbz⟩; have hPz := HNX.out _ _ (by assumption) hbz)
        | (go_at_call 18; (with_reducible refine (HAK.out _ ?hs).mono ?_); (case hs => assumption); rintro e wz ⟨rfl, hbz⟩; have hPz := HNX.out _ _ (by assumption) hbz)))
    all_goals
      have hfin := HBB.out.trans (hPz.2.2.2.mono HBB.out.size)
      clear hPz
      go_wp2_with fail
      go_ret
      exact ⟨rfl, hfin⟩
end Go.Proofs.Ytkknelcolbdphaa
