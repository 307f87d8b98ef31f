/- The law BlocksRegions. -/
import Derived.Test.YtkknelcolbdphaaLLay
namespace Go.Proofs.Ytkknelcolbdphaa
open Go.RowKit
set_option maxRecDepth 100000

theorem sec_in {l : Lay} (h : regE l = 0) (k : Nat) (hk : (k : Int) < blkN l) : secE l k = 0 ∧ secV l k = 1 + l.j + 1 + l.n + (k : Int) := by
  have h1 : inB (k : Int) 0 (blkN l - 1) = true := by
    unfold inB; rw [Bool.and_eq_true, decide_eq_true_eq, decide_eq_true_eq]; omega
  have h2 : secE l k = 0 := by unfold secE; rw [if_pos h, if_pos h1]
  refine ⟨h2, ?_⟩
  unfold secV dataN
  rw [if_pos h2]; omega
theorem sec_out {l : Lay} (h : regE l = 0) : secE l (blkN l) = 7 ∧ secV l (blkN l) = 0 := by
  have h1 : inB (blkN l) 0 (blkN l - 1) = false := by
    unfold inB; rw [Bool.and_eq_false_iff, decide_eq_false_iff_not, decide_eq_false_iff_not]; omega
  have h2 : secE l (blkN l) = 7 := by unfold secE; rw [if_pos h, h1]; rfl
  exact ⟨h2, by unfold secV; rw [h2]; rfl⟩
set_option maxHeartbeats 4000000 in
theorem lregions_any (l : Lay) (w : World) : Calls Try.prog 7 #[.agg (layA l)] w fun e w' => e = .returned (.bool true) ∧ Below w.heap.size w w' := by
  have C1 := Lib.hid (regions_any l)
  have C3 := Lib.hid (fun b => sector_any l b)
  have HAW := Lib.hid awake_any
  obtain ⟨w0, hw0, hr0, hb0, -⟩ := box_one (layA l) 23 w.heap.size w w (Below.refl _ _) (Nat.le_refl _)
  have HB0 := Lib.hid hb0
  have HR0 := Lib.hid hr0
  unfold layA at *
  obtain ⟨x0, x1, x2⟩ := hr0.three
  clear hr0 hb0
  by_cases h0 : regE l = 0
  · have HREG := Lib.hid (regA_ok h0)
    have HZ := Lib.hid h0
    have HSI := Lib.hid (fun k hk => sec_in h0 k hk)
    have HSO := Lib.hid (sec_out h0)
    obtain ⟨ok, h8⟩ := regE_zero h0
    obtain ⟨N, hN⟩ : ∃ N : Nat, l.s - (1 + l.j + 1 + l.n) = N := ⟨(l.s - (1 + l.j + 1 + l.n)).toNat, by unfold blkN at h8; omega⟩
    have hNb : blkN l = N := by unfold blkN; omega
    rw [hNb] at HSO h8
    have HSI : Hid (∀ k : Nat, k < N → secE l k = 0 ∧ secV l k = 1 + l.j + 1 + l.n + (k : Int)) := Lib.hid (fun k hk => HSI.out k (by rw [hNb]; omega))
    rw [hN] at HREG
    have k0 := ok.s0
    have k1 := ok.s1
    have k2 := ok.j0
    have k3 := ok.j1
    have k4 := ok.n0
    have k5 := ok.n1
    have d1 : decide ((N : Int) < 8) = false := decide_eq_false (by omega)
    have d2 : decide ((256 : Int) < N) = false := decide_eq_false (by omega)
    have d3 : ((1 + l.j + 1 + l.n + (N : Int)) == l.s) = true := by simp; omega
    have d4 : decide (1 + l.j + 1 + l.n + (N : Int) = l.s) = true := decide_eq_true (by omega)
    have d5 : decide ((256 : Int) < l.s) = false := decide_eq_false (by omega)
    have d6 : decide (N < 8) = false := decide_eq_false (by omega)
    have hNN : N ≤ 256 := by omega
    clear h0 ok hNb
    go_enter Try.func7, Try.ntmps7
    go_wp2_with (rw [hw0])
    refine (C1.out _).mono ?_
    rintro e w1 ⟨rfl, hb1⟩
    rw [HREG.out, HZ.out]
    obtain ⟨wA, hwA, hrA, hbA, -⟩ := box_one #[.int .i64 1, .int .i64 (1 + l.j), .int .i64 (1 + l.j + 1), .int .i64 (1 + l.j + 1 + l.n), .int .i64 (N : Int)] 25 w0.heap.size w0 w1 hb1 (Nat.le_refl _)
    have HA := Lib.hid hrA
    have HBA := Lib.hid hbA
    clear x0 x1 x2 hb1 hrA hbA hw0
    have hL := HR0.out.below HBA.out HR0.out.lt
    have HL := Lib.hid hL
    obtain ⟨x0, x1, x2⟩ := hL.three
    obtain ⟨y0, y1, y2, y3, y4⟩ := HA.out.five
    clear hL
    go_wp2_with (rw [hwA])
    clear x0 x1 x2 y0 y1 y2 y3 y4 hwA d1 d2 d3 d4 d5 d6
    go_loopw [5] (fun i wr => ∃ k : Nat, k ≤ N ∧ i = .int .i64 k ∧ Hid (Below wA.heap.size wA wr)) (fun i _ => N - (intOf i).toNat)
    case atStart => exact ⟨0, Nat.zero_le _, rfl, Lib.hid (Below.refl _ _)⟩
    case round =>
      obtain ⟨k, hk, rfl, hB⟩ := hrel
      obtain ⟨x0, x1, x2⟩ := (HL.out.below hB.out HL.out.lt).three
      obtain ⟨y0, y1, y2, y3, y4⟩ := (HA.out.below hB.out HA.out.lt).five
      by_cases hlt : k < N
      · have hd : decide ((k : Int) < N) = true := by simpa using hlt
        have hd2 : decide (k < N) = true := by simpa using hlt
        go_wp2_with fail
        refine (C3.out _ _).mono ?_
        rintro e w3 ⟨rfl, hb3⟩
        rw [(HSI.out k hlt).1, (HSI.out k hlt).2]
        have HB3 := Lib.hid (hB.out.trans (hb3.mono hB.out.size))
        clear x0 x1 x2 y0 y1 y2 y3 y4 hb3
        obtain ⟨y0, y1, y2, y3, y4⟩ := (HA.out.below HB3.out HA.out.lt).five
        go_wp2_with fail
        go_roundw
        case rel => exact ⟨k + 1, by omega, by go_num, HB3⟩
        case measure => simp [intOf]; omega
      · obtain rfl : k = N := by omega
        have hd : decide ((k : Int) < k) = false := by simp
        go_wp2_with fail
        refine (C3.out _ _).mono ?_
        rintro e w3 ⟨rfl, hb3⟩
        rw [HSO.out.1, HSO.out.2]
        have HB3 := Lib.hid (HB0.out.trans ((HBA.out.trans ((hB.out.trans (hb3.mono hB.out.size)).mono HBA.out.size)).mono HB0.out.size))
        clear x0 x1 x2 y0 y1 y2 y3 y4 hb3
        go_wp2_with fail
        refine (HAW.out _).mono ?_
        rintro e w9 ⟨rfl, hb9⟩
        have HB9 := Lib.hid (HB3.out.trans (hb9.mono HB3.out.size))
        clear hb9
        go_wp2_with fail
        go_ret
        exact ⟨rfl, HB9.out⟩
  · have HREG := Lib.hid (regA_no h0)
    obtain ⟨E, hE⟩ : ∃ E, regE l = E := ⟨_, rfl⟩
    rw [hE] at h0
    have HZ := Lib.hid hE
    have hd := decB h0
    clear hE
    go_enter Try.func7, Try.ntmps7
    go_wp2_with (rw [hw0])
    refine (C1.out _).mono ?_
    rintro e w1 ⟨rfl, hb1⟩
    rw [HREG.out, HZ.out]
    have HB1 := Lib.hid (HB0.out.trans ((hb1.alloc hb1.size (.cells #[.int .i64 0, .int .i64 0, .int .i64 0, .int .i64 0, .int .i64 0] 25)).mono HB0.out.size))
    clear hb1 x0 x1 x2
    go_wp2_with fail
    refine (HAW.out _).mono ?_
    rintro e w9 ⟨rfl, hb9⟩
    have HB9 := Lib.hid (HB1.out.trans (hb9.mono HB1.out.size))
    clear hb9
    go_wp2_with fail
    go_ret
    exact ⟨rfl, HB9.out⟩
end Go.Proofs.Ytkknelcolbdphaa
