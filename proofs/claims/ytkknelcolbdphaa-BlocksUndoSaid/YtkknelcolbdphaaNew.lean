/- New. -/
import Derived.Test.YtkknelcolbdphaaSec
namespace Go.Proofs.Ytkknelcolbdphaa
open Go.RowKit
set_option maxRecDepth 100000
set_option maxHeartbeats 1000000 in
theorem new_any (l : Lay) (w : World) : Calls Try.prog 15 #[.agg (layA l)] w (StPost (newL l) (newU l) (newE l) w) := by
  have HC := Lib.hid (regions_any l)
  obtain ⟨w2, hw2, hr1, hr2, hb2⟩ := box_new l w
  have HB2 := Lib.hid hb2
  have HR1 := Lib.hid hr1
  have HR2 := Lib.hid hr2
  have hc1 := hr1.three
  clear hb2 hr1 hr2
  by_cases h0 : regE l = 0
  · have HR := Lib.hid (reg_zero h0)
    have HZ := Lib.hid h0
    obtain ⟨k0, k1, k2, k3, k4⟩ := dataN_ok h0
    have HL : Hid (newL l = l) := Lib.hid (if_pos h0)
    have HU : Hid (newU l = List.replicate (blkN l).toNat false) := Lib.hid (if_pos h0)
    have HE : Hid (newE l = 0) := Lib.hid h0
    obtain ⟨N, hN⟩ : ∃ N : Nat, blkN l = N := ⟨(blkN l).toNat, by omega⟩
    rw [hN] at HU k2 k3 k4 HR
    rw [Int.toNat_natCast] at HU
    generalize dataN l = D at *
    clear k4 h0 hN
    unfold layA at *
    obtain ⟨hx0, hx1, hx2⟩ := hc1
    go_enter Try.func15, Try.ntmps15
    go_wp2_with (rw [hw2])
    refine (HC.out _).mono ?_
    rintro e w' ⟨rfl, hb⟩
    rw [HR.out, HZ.out]
    obtain ⟨w3, hw3⟩ : ∃ w3, w'.alloc (.cells #[.int .i64 1, .int .i64 (1 + l.j), .int .i64 (2 + l.j), .int .i64 D, .int .i64 (N : Int)] 25 (0, 0)) = w3 := ⟨_, rfl⟩
    have hRL := HR1.out.below hb (HR1.out.lt)
    have hRS := HR2.out.below hb (HR2.out.lt)
    have hRG : Row w3 w'.heap.size #[.int .i64 1, .int .i64 (1 + l.j), .int .i64 (2 + l.j), .int .i64 D, .int .i64 (N : Int)] 25 := by rw [← hw3]; exact Row.new _ _ _
    have HRL : Hid (Row w3 w.heap.size (layA l) 23) := Lib.hid (by rw [← hw3]; exact hRL.alloc _)
    have HRS : Hid (Row w3 (w.heap.size + 1) zeroSt 33) := Lib.hid (by rw [← hw3]; exact hRS.alloc _)
    have HB3 : Hid (Below w.heap.size w w3) := Lib.hid (by rw [← hw3]; exact (HB2.out.trans (hb.mono HB2.out.size)).alloc (HB2.out.trans (hb.mono HB2.out.size)).size _)
    have hmk := run_make_bools N (by omega)
    have hg4 : w3.cell? ⟨w'.heap.size, 4, none⟩ = some (.int .i64 (N : Int)) := hRG.cell 4 _ rfl
    have hg4' : ∀ o, (w3.alloc o).cell? ⟨w'.heap.size, 4, none⟩ = some (.int .i64 (N : Int)) := fun o => (hRG.alloc o).cell 4 _ rfl
    clear hx0 hx1 hx2 hb hRL hRS hRG
    obtain ⟨hl0, hl1, hl2⟩ := HRL.out.three
    have hm0 := fun o => (HRL.out.alloc o).three.1
    have hm1 := fun o => (HRL.out.alloc o).three.2.1
    have hm2 := fun o => (HRL.out.alloc o).three.2.2
    have hs0 := fun o => (HRS.out.alloc o).four.1
    have hs1 := fun o => (HRS.out.alloc o).four.2.1
    have hs2 := fun o => (HRS.out.alloc o).four.2.2.1
    have hs3 := fun o => (HRS.out.alloc o).four.2.2.2
    have hsf := fun o => (HRS.out.alloc o).froz
    have HW3 := Lib.hid hw3
    clear hw3 hw2
    go_wp2_with (rw [HW3.out])
    go_region
    have HO := Lib.hid (own_false w3 N (by omega))
    have hsz := Nat.lt_of_lt_of_le HRS.out.lt (Nat.le_refl _)
    go_wp2
    exact bodyPost_ret (bodyRet_st rfl rfl rfl ((HRS.out.alloc _).sets4 _ _ _ _).drew rfl) rfl ⟨_, by exact ret_st HL.out.symm HE.out.symm, by rw [HU.out]; exact ((HO.out.sets4 (b := w.heap.size + 1) (by simp; omega) (fun g o n c e => by cases e; omega) _ _ _ _).drew).sub HB3.out.size, (below_sets4 (HB3.out.alloc HB3.out.size _) _ (by omega) _ _ _ _).drew⟩
  · have HR := Lib.hid (regA_no h0)
    have HL : Hid (newL l = ⟨0, 0, 0⟩) := Lib.hid (if_neg h0)
    have HU : Hid (newU l = []) := Lib.hid (if_neg h0)
    have HE : Hid (newE l = regE l) := Lib.hid rfl
    obtain ⟨E, hE⟩ : ∃ E, regE l = E := ⟨_, rfl⟩
    rw [hE] at h0 HE
    have HZ := Lib.hid hE
    have hd := decB h0
    clear hE h0
    unfold layA at *
    obtain ⟨hx0, hx1, hx2⟩ := hc1
    go_enter Try.func15, Try.ntmps15
    go_wp2_with (rw [hw2])
    refine (HC.out _).mono ?_
    rintro e w' ⟨rfl, hb⟩
    rw [HR.out, HZ.out]
    have HRW := Lib.hid (fun o => (HR2.out.below hb HR2.out.lt).alloc o)
    have hs0 := fun o => (HRW.out o).four.1
    have hs1 := fun o => (HRW.out o).four.2.1
    have hs2 := fun o => (HRW.out o).four.2.2.1
    have hs3 := fun o => (HRW.out o).four.2.2.2
    have hsf := fun o => (HRW.out o).froz
    have HBW := Lib.hid (HB2.out.trans (hb.mono HB2.out.size))
    clear hb hx0 hx1 hx2 hw2
    go_wp2_with fail
    exact bodyPost_ret (bodyRet_st rfl rfl rfl ((HRW.out _).sets4 _ _ _ _) rfl) rfl ⟨_, by exact ret_st (l := ⟨0, 0, 0⟩) HL.out.symm HE.out.symm, by rw [HU.out]; exact ownB_nil _ _, below_sets4 (HBW.out.alloc HBW.out.size _) _ (by omega) _ _ _ _⟩
set_option maxHeartbeats 1000000 in
theorem refNew_any (l : Lay) (w : World) : Calls Try.prog 16 #[.agg (layA l)] w (StPost (newL l) (newU l) (newE l) w) := by
  have HC := Lib.hid (refRegions_any l)
  obtain ⟨w2, hw2, hr1, hr2, hb2⟩ := box_new l w
  have HB2 := Lib.hid hb2
  have HR1 := Lib.hid hr1
  have HR2 := Lib.hid hr2
  have hc1 := hr1.three
  clear hb2 hr1 hr2
  by_cases h0 : regE l = 0
  · have HR := Lib.hid (reg_zero h0)
    have HZ := Lib.hid h0
    obtain ⟨k0, k1, k2, k3, k4⟩ := dataN_ok h0
    have HL : Hid (newL l = l) := Lib.hid (if_pos h0)
    have HU : Hid (newU l = List.replicate (blkN l).toNat false) := Lib.hid (if_pos h0)
    have HE : Hid (newE l = 0) := Lib.hid h0
    obtain ⟨N, hN⟩ : ∃ N : Nat, blkN l = N := ⟨(blkN l).toNat, by omega⟩
    rw [hN] at HU k2 k3 k4 HR
    rw [Int.toNat_natCast] at HU
    generalize dataN l = D at *
    clear k4 h0 hN
    unfold layA at *
    obtain ⟨hx0, hx1, hx2⟩ := hc1
    go_enter Try.func16, Try.ntmps16
    go_wp2_with (rw [hw2])
    refine (HC.out _).mono ?_
    rintro e w' ⟨rfl, hb⟩
    rw [HR.out, HZ.out]
    obtain ⟨w3, hw3⟩ : ∃ w3, w'.alloc (.cells #[.int .i64 1, .int .i64 (1 + l.j), .int .i64 (2 + l.j), .int .i64 D, .int .i64 (N : Int)] 25 (0, 0)) = w3 := ⟨_, rfl⟩
    have hRL := HR1.out.below hb (HR1.out.lt)
    have hRS := HR2.out.below hb (HR2.out.lt)
    have hRG : Row w3 w'.heap.size #[.int .i64 1, .int .i64 (1 + l.j), .int .i64 (2 + l.j), .int .i64 D, .int .i64 (N : Int)] 25 := by rw [← hw3]; exact Row.new _ _ _
    have HRL : Hid (Row w3 w.heap.size (layA l) 23) := Lib.hid (by rw [← hw3]; exact hRL.alloc _)
    have HRS : Hid (Row w3 (w.heap.size + 1) zeroSt 33) := Lib.hid (by rw [← hw3]; exact hRS.alloc _)
    have HB3 : Hid (Below w.heap.size w w3) := Lib.hid (by rw [← hw3]; exact (HB2.out.trans (hb.mono HB2.out.size)).alloc (HB2.out.trans (hb.mono HB2.out.size)).size _)
    have hmk := run_make_bools N (by omega)
    have hg4 : w3.cell? ⟨w'.heap.size, 4, none⟩ = some (.int .i64 (N : Int)) := hRG.cell 4 _ rfl
    have hg4' : ∀ o, (w3.alloc o).cell? ⟨w'.heap.size, 4, none⟩ = some (.int .i64 (N : Int)) := fun o => (hRG.alloc o).cell 4 _ rfl
    clear hx0 hx1 hx2 hb hRL hRS hRG
    obtain ⟨hl0, hl1, hl2⟩ := HRL.out.three
    have hm0 := fun o => (HRL.out.alloc o).three.1
    have hm1 := fun o => (HRL.out.alloc o).three.2.1
    have hm2 := fun o => (HRL.out.alloc o).three.2.2
    have hs0 := fun o => (HRS.out.alloc o).four.1
    have hs1 := fun o => (HRS.out.alloc o).four.2.1
    have hs2 := fun o => (HRS.out.alloc o).four.2.2.1
    have hs3 := fun o => (HRS.out.alloc o).four.2.2.2
    have hsf := fun o => (HRS.out.alloc o).froz
    have HW3 := Lib.hid hw3
    clear hw3 hw2
    go_wp2_with (rw [HW3.out])
    go_region
    have HO := Lib.hid (own_false w3 N (by omega))
    have hsz := Nat.lt_of_lt_of_le HRS.out.lt (Nat.le_refl _)
    go_wp2
    exact bodyPost_ret (bodyRet_st rfl rfl rfl ((HRS.out.alloc _).sets4 _ _ _ _).drew rfl) rfl ⟨_, by exact ret_st HL.out.symm HE.out.symm, by rw [HU.out]; exact ((HO.out.sets4 (b := w.heap.size + 1) (by simp; omega) (fun g o n c e => by cases e; omega) _ _ _ _).drew).sub HB3.out.size, (below_sets4 (HB3.out.alloc HB3.out.size _) _ (by omega) _ _ _ _).drew⟩
  · have HR := Lib.hid (regA_no h0)
    have HL : Hid (newL l = ⟨0, 0, 0⟩) := Lib.hid (if_neg h0)
    have HU : Hid (newU l = []) := Lib.hid (if_neg h0)
    have HE : Hid (newE l = regE l) := Lib.hid rfl
    obtain ⟨E, hE⟩ : ∃ E, regE l = E := ⟨_, rfl⟩
    rw [hE] at h0 HE
    have HZ := Lib.hid hE
    have hd := decB h0
    clear hE h0
    unfold layA at *
    obtain ⟨hx0, hx1, hx2⟩ := hc1
    go_enter Try.func16, Try.ntmps16
    go_wp2_with (rw [hw2])
    refine (HC.out _).mono ?_
    rintro e w' ⟨rfl, hb⟩
    rw [HR.out, HZ.out]
    have HRW := Lib.hid (fun o => (HR2.out.below hb HR2.out.lt).alloc o)
    have hs0 := fun o => (HRW.out o).four.1
    have hs1 := fun o => (HRW.out o).four.2.1
    have hs2 := fun o => (HRW.out o).four.2.2.1
    have hs3 := fun o => (HRW.out o).four.2.2.2
    have hsf := fun o => (HRW.out o).froz
    have HBW := Lib.hid (HB2.out.trans (hb.mono HB2.out.size))
    clear hb hx0 hx1 hx2 hw2
    go_wp2_with fail
    exact bodyPost_ret (bodyRet_st rfl rfl rfl ((HRW.out _).sets4 _ _ _ _) rfl) rfl ⟨_, by exact ret_st (l := ⟨0, 0, 0⟩) HL.out.symm HE.out.symm, by rw [HU.out]; exact ownB_nil _ _, below_sets4 (HBW.out.alloc HBW.out.size _) _ (by omega) _ _ _ _⟩
end Go.Proofs.Ytkknelcolbdphaa
