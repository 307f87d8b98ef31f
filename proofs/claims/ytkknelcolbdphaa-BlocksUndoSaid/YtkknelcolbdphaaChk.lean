/- Check, on both sides. -/
import Derived.Test.YtkknelcolbdphaaNew
namespace Go.Proofs.Ytkknelcolbdphaa
open Go.RowKit
set_option maxRecDepth 100000
set_option maxHeartbeats 1000000 in
theorem check_any (l : Lay) (U : List Bool) (s : Option Addr) (c : Nat) (w : World) : Calls Try.prog 22 #[.agg (stA l (.slice s U.length c))] w fun e w' => e = .returned (.int .i64 (chkE l U)) ∧ Below w.heap.size w w' := by
  have HC := Lib.hid (regions_any l)
  obtain ⟨w0, hw0⟩ : ∃ w0, w.alloc (.cells (stA l (.slice s U.length c)) 33 (0, 0)) = w0 := ⟨_, rfl⟩
  have HB : Hid (Below w.heap.size w w0) := Lib.hid (by rw [← hw0]; exact (Below.refl _ _).alloc (Nat.le_refl _) _)
  have HR0 : Hid (Row w0 w.heap.size (stA l (.slice s U.length c)) 33) := Lib.hid (by rw [← hw0]; exact Row.new _ _ _)
  by_cases h0 : regE l = 0
  · have HZ := Lib.hid h0
    by_cases hn : (U.length : Int) = blkN l
    · have HE : Hid (chkE l U = 0) := Lib.hid (by unfold chkE; rw [if_pos h0, if_pos hn])
      have hd : ((U.length : Int) == blkN l) = true := by simpa using hn
      have hd2 : decide ((U.length : Int) = blkN l) = true := by simpa using hn
      have HRR := Lib.hid (reg_zero h0)
      rw [← hn] at HRR
      clear hd hd2
      have HR := Lib.hid (HRR.out)
      clear h0
      unfold layA at *
      unfold stA at *
      obtain ⟨hx0, hx1, hx2, hx3⟩ := HR0.out.four
      go_enter Try.func22, Try.ntmps22
      go_wp2_with (rw [hw0])
      refine (HC.out _).mono ?_
      rintro e w' ⟨rfl, hb'⟩
      rw [HR.out, HZ.out]
      have HB' := Lib.hid (HB.out.trans (hb'.mono HB.out.size))
      have hy3 := fun o => ((HR0.out.below hb' HR0.out.lt).alloc o).four.2.2.2
      clear hb' hx0 hx1 hx2 hx3
      go_wp2_with fail
      go_ret
      exact ⟨ret_int HE.out.symm, HB'.out.alloc HB'.out.size _⟩
    · have HE : Hid (chkE l U = 6) := Lib.hid (by unfold chkE; rw [if_pos h0, if_neg hn])
      have hd : ((U.length : Int) == blkN l) = false := by simpa using hn
      have HRR := Lib.hid (reg_zero h0)
      generalize blkN l = N at *
      have HR := Lib.hid (HRR.out)
      clear h0
      unfold layA at *
      unfold stA at *
      obtain ⟨hx0, hx1, hx2, hx3⟩ := HR0.out.four
      go_enter Try.func22, Try.ntmps22
      go_wp2_with (rw [hw0])
      refine (HC.out _).mono ?_
      rintro e w' ⟨rfl, hb'⟩
      rw [HR.out, HZ.out]
      have HB' := Lib.hid (HB.out.trans (hb'.mono HB.out.size))
      have hy3 := fun o => ((HR0.out.below hb' HR0.out.lt).alloc o).four.2.2.2
      clear hb' hx0 hx1 hx2 hx3
      go_wp2_with fail
      go_ret
      exact ⟨ret_int HE.out.symm, HB'.out.alloc HB'.out.size _⟩
  · have HE : Hid (chkE l U = regE l) := Lib.hid (by unfold chkE; rw [if_neg h0])
    have HRR := Lib.hid (regA_no h0)
    obtain ⟨E, hE⟩ : ∃ E, regE l = E := ⟨_, rfl⟩
    rw [hE] at h0 HE
    have HZ := Lib.hid hE
    have hd := decB h0
    clear hE
    have HR := Lib.hid (HRR.out)
    clear h0
    unfold layA at *
    unfold stA at *
    obtain ⟨hx0, hx1, hx2, hx3⟩ := HR0.out.four
    go_enter Try.func22, Try.ntmps22
    go_wp2_with (rw [hw0])
    refine (HC.out _).mono ?_
    rintro e w' ⟨rfl, hb'⟩
    rw [HR.out, HZ.out]
    have HB' := Lib.hid (HB.out.trans (hb'.mono HB.out.size))
    have hy3 := fun o => ((HR0.out.below hb' HR0.out.lt).alloc o).four.2.2.2
    clear hb' hx0 hx1 hx2 hx3
    go_wp2_with fail
    go_ret
    exact ⟨ret_int HE.out.symm, HB'.out.alloc HB'.out.size _⟩
set_option maxHeartbeats 1000000 in
theorem refCheck_any (l : Lay) (U : List Bool) (s : Option Addr) (c : Nat) (w : World) : Calls Try.prog 23 #[.agg (stA l (.slice s U.length c))] w fun e w' => e = .returned (.int .i64 (chkE l U)) ∧ Below w.heap.size w w' := by
  have HC := Lib.hid (refRegions_any l)
  obtain ⟨w0, hw0⟩ : ∃ w0, w.alloc (.cells (stA l (.slice s U.length c)) 33 (0, 0)) = w0 := ⟨_, rfl⟩
  have HB : Hid (Below w.heap.size w w0) := Lib.hid (by rw [← hw0]; exact (Below.refl _ _).alloc (Nat.le_refl _) _)
  have HR0 : Hid (Row w0 w.heap.size (stA l (.slice s U.length c)) 33) := Lib.hid (by rw [← hw0]; exact Row.new _ _ _)
  by_cases h0 : regE l = 0
  · have HZ := Lib.hid h0
    by_cases hn : (U.length : Int) = blkN l
    · have HE : Hid (chkE l U = 0) := Lib.hid (by unfold chkE; rw [if_pos h0, if_pos hn])
      have hd : ((U.length : Int) == blkN l) = true := by simpa using hn
      have hd2 : decide ((U.length : Int) = blkN l) = true := by simpa using hn
      have HRR := Lib.hid (reg_zero h0)
      rw [← hn] at HRR
      clear hd hd2
      have HR := Lib.hid (HRR.out)
      clear h0
      unfold layA at *
      unfold stA at *
      obtain ⟨hx0, hx1, hx2, hx3⟩ := HR0.out.four
      go_enter Try.func23, Try.ntmps23
      go_wp2_with (rw [hw0])
      refine (HC.out _).mono ?_
      rintro e w' ⟨rfl, hb'⟩
      rw [HR.out, HZ.out]
      have HB' := Lib.hid (HB.out.trans (hb'.mono HB.out.size))
      have hy3 := fun o => ((HR0.out.below hb' HR0.out.lt).alloc o).four.2.2.2
      clear hb' hx0 hx1 hx2 hx3
      go_wp2_with fail
      go_ret
      exact ⟨ret_int HE.out.symm, HB'.out.alloc HB'.out.size _⟩
    · have HE : Hid (chkE l U = 6) := Lib.hid (by unfold chkE; rw [if_pos h0, if_neg hn])
      have hd : ((U.length : Int) == blkN l) = false := by simpa using hn
      have HRR := Lib.hid (reg_zero h0)
      generalize blkN l = N at *
      have HR := Lib.hid (HRR.out)
      clear h0
      unfold layA at *
      unfold stA at *
      obtain ⟨hx0, hx1, hx2, hx3⟩ := HR0.out.four
      go_enter Try.func23, Try.ntmps23
      go_wp2_with (rw [hw0])
      refine (HC.out _).mono ?_
      rintro e w' ⟨rfl, hb'⟩
      rw [HR.out, HZ.out]
      have HB' := Lib.hid (HB.out.trans (hb'.mono HB.out.size))
      have hy3 := fun o => ((HR0.out.below hb' HR0.out.lt).alloc o).four.2.2.2
      clear hb' hx0 hx1 hx2 hx3
      go_wp2_with fail
      go_ret
      exact ⟨ret_int HE.out.symm, HB'.out.alloc HB'.out.size _⟩
  · have HE : Hid (chkE l U = regE l) := Lib.hid (by unfold chkE; rw [if_neg h0])
    have HRR := Lib.hid (regA_no h0)
    obtain ⟨E, hE⟩ : ∃ E, regE l = E := ⟨_, rfl⟩
    rw [hE] at h0 HE
    have HZ := Lib.hid hE
    have hd := decB h0
    clear hE
    have HR := Lib.hid (HRR.out)
    clear h0
    unfold layA at *
    unfold stA at *
    obtain ⟨hx0, hx1, hx2, hx3⟩ := HR0.out.four
    go_enter Try.func23, Try.ntmps23
    go_wp2_with (rw [hw0])
    refine (HC.out _).mono ?_
    rintro e w' ⟨rfl, hb'⟩
    rw [HR.out, HZ.out]
    have HB' := Lib.hid (HB.out.trans (hb'.mono HB.out.size))
    have hy3 := fun o => ((HR0.out.below hb' HR0.out.lt).alloc o).four.2.2.2
    clear hb' hx0 hx1 hx2 hx3
    go_wp2_with fail
    go_ret
    exact ⟨ret_int HE.out.symm, HB'.out.alloc HB'.out.size _⟩
end Go.Proofs.Ytkknelcolbdphaa
