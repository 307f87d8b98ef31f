/- The law DeviceWhole: the walk. -/
import Derived.Test.YtpboknepfjeljaaWholeW
namespace Go.Proofs.Ytpboknepfjeljaa
open Go.RowKit Go.MapKept
noncomputable def appP (ty : TypeId) (xs : Array Value) : Sem Value := Builtin.append_ #[47, 47] ty xs
theorem appP_eq (ty : TypeId) (xs : Array Value) : Builtin.append_ #[47, 47] ty xs = appP ty xs := rfl
attribute [local go_sem ↓] appP_eq
set_option maxRecDepth 100000

set_option maxHeartbeats 1000000 in
theorem whole_any (w : World) (v u : Value) (L M : List Pu) (hv : PutsAt w v L) (hL : L.length ≤ maxLen) (hu : PutsAt w u M) (hM : M.length ≤ maxLen) :
    Calls Try.prog 7 #[v, u] w fun e w' => e = .returned (.bool true) ∧ Below w.heap.size w w' := by
  obtain ⟨a, c, rfl⟩ := puts_val hv
  obtain ⟨ua, uc, rfl⟩ := puts_val hu
  unfold maxLen at hL hM
  by_cases h60 : 60 < L.length
  · have hI : (60 : Int) < (L.length : Int) := by omega
    clear hv hu
    go_enter Try.func7, Try.ntmps7
    go_wp2_with fail
    refine (awake_any w).mono ?_
    rintro e w1 ⟨rfl, hb⟩
    go_wp2_with fail
    go_ret
    exact ⟨rfl, hb⟩
  by_cases m60 : 60 < M.length
  · have hI : ¬ (60 : Int) < (L.length : Int) := by omega
    have hJ : (60 : Int) < (M.length : Int) := by omega
    clear hv hu
    go_enter Try.func7, Try.ntmps7
    go_wp2_with fail
    refine (awake_any w).mono ?_
    rintro e w1 ⟨rfl, hb⟩
    go_wp2_with fail
    go_ret
    exact ⟨rfl, hb⟩
  have hI : ¬ (60 : Int) < (L.length : Int) := by omega
  have hJ : ¬ (60 : Int) < (M.length : Int) := by omega
  have HWS : Hid (WS L M) := Lib.hid ⟨by omega, by omega⟩
  obtain ⟨i0, hi, hz0, hz1, hz2⟩ := info_parts Try.infoPut
  obtain ⟨g, c', w1, hr, ho, hb⟩ := clone_run (t := 47) (ty := 47) Try.underlying47 hi hz0 hz1 hz2 rfl (by decide) hu (puts_len M) (puts_one M) (by rw [List.length_map]; omega) (by decide)
  rw [List.length_map] at hr ho
  have hr2 : (appP 47 #[.slice (some ⟨w.heap.size, 0, none⟩) 0 0, .slice ua M.length uc]).run Try.prog (w.alloc (.cells #[] 54 (0, 0))) = .ok (.slice (some ⟨g, 0, none⟩) M.length c') w1 := hr
  have HO := Lib.hid ho
  have HB := Lib.hid hb
  have HV := Lib.hid (hv.below hb (Nat.le_refl _))
  have HSV := Lib.hid (fun F => safe_arg hv F)
  clear hr ho hb hu hv hi hz0 hz1 hz2
  go_enter Try.func7, Try.ntmps7
  go_wp2
  have HN0 := Lib.hid (Many.none w)
  generalize hN : w.heap.size = N at *
  clear hr2
  have hgN : N ≤ g := (HO.out.lt g rfl).1
  have hg1 : g < w1.heap.size := (HO.out.lt g rfl).2
  have HO0 : Hid (w1.ownsRow N 54 3 (.slice (some ⟨g, 0, none⟩) M.length c') M.length (puC (mixL M 0))) := Lib.hid (by rw [mixL_zero]; exact HO.out)
  clear HO
  go_loopw [5] (fun i wr => ∃ k : Nat, k ≤ M.length ∧ i = .int .i64 k ∧ Hid (wr.ownsRow N 54 3 (.slice (some ⟨g, 0, none⟩) M.length c') M.length (puC (mixL M k))) ∧ Hid (Kept (fun b => b = g) w1 wr)) (fun i _ => M.length - (intOf i).toNat)
  case atStart => exact ⟨0, Nat.zero_le _, rfl, HO0, Lib.hid (Kept.refl _ _)⟩
  case round =>
    obtain ⟨k, hk, rfl, HOk, HKk⟩ := hrel
    by_cases hlt : k < M.length
    · have hplen : (puC (mixL M k)).length = M.length * 3 := by rw [puC_len, mixL_len M k hk]
      have hc := HOk.out.cellAt (k * 3 + 2) (by omega)
      rw [List.getElem?_eq_getElem (by omega)] at hc
      have hf := HOk.out.frozenAt (k * 3 + 2)
      have hS := HOk.out.stored (k * 3 + 2) (.bool false)
      rw [puC_mix M k hlt] at hS
      have HS := Lib.hid hS.1
      generalize (puC (mixL M k))[k * 3 + 2]'(by omega) = x at *
      clear hplen hS
      go_wp2
      go_roundw
      case rel => exact ⟨k + 1, by omega, by go_num, HS, Lib.hid (HKk.out.setCell _ rfl _)⟩
      case measure => simp [intOf]; omega
    · obtain rfl : k = M.length := by omega
      have HMU : Hid (PutsAt wr (.slice (some ⟨g, 0, none⟩) M.length c') (M.map noF)) := Lib.hid (by
        have h := HOk.out
        rw [mixL_all] at h
        refine elems_of_row (base := N) (e := 54) (puts_len _) ?_
        rw [List.length_map, List.length_map]; exact h)
      have hbb : Below N w wr := HB.out.trans (HKk.out.toBelow (Nat.le_trans hgN (Nat.le_of_lt hg1)) (fun k e => by omega))
      have hNw : N ≤ wr.heap.size := Nat.le_trans (Nat.le_trans hgN (Nat.le_of_lt hg1)) HKk.out.size
      have hgw : g < wr.heap.size := Nat.lt_of_lt_of_le hg1 HKk.out.size
      obtain ⟨F1, hF1⟩ : ∃ F : Nat → Prop, (fun k => k = g) = F := ⟨_, rfl⟩
      have hm1 : Many N F1 wr [] := by rw [← hF1]; exact fun k e => by cases e; exact hgw
      have hv1 : PutsAt wr (.slice a L.length c) L := HV.out.kept HKk.out (fun g' o m c e hm (hx : g' = g) => (HSV.out (fun _ => False) g' o m c e hm).elim (fun h => by omega) id)
      have hs1 : Safe N F1 (.slice (some ⟨g, 0, none⟩) M.length c') := fun g' o' m' c'' e _ => by cases e; exact .inr (by rw [← hF1])
      have HW1 : Hid (WW N F1 w (.slice a L.length c) L (.slice (some ⟨g, 0, none⟩) M.length c') (M.map noF) wr []) := Lib.hid ⟨hm1, hbb, hNw, hv1, HMU.out, HSV.out _, hs1⟩
      have hTn : Takes (newD 64) L.length := takes_new _ (by omega)
      have HTn := Lib.hid hTn
      clear hTn
      have HPo : Hid ((putsD (newD 64) L).off = false) := Lib.hid (Takes.puts (D := newD 64) L 0 (newD 64) (by simpa using HTn.out)).off
      have HTA : Hid (Takes (wA L) (M.map noF).length) := Lib.hid (wA_takes HWS.out)
      have HBo : Hid ((wB L M).off = false) := Lib.hid (wB_takes HWS.out).off
      have HN := Lib.hid hN
      clear HMU hbb hNw hgw hF1 hm1 hv1 hs1 HOk HKk HO0 HSV HN0 HB HV hN hgN hg1 hk hlt
      go_wp2_with fail
      refine HW1.out.new64.mono ?_
      rintro e w2 ⟨d1, rfl, h⟩
      have HW2 := Lib.hid h
      clear h HW1
      go_wp2_with fail
      refine HW2.out.new64.mono ?_
      rintro e w3 ⟨d2, rfl, h⟩
      have HW3 := Lib.hid h
      clear h HW2
      go_wp2_with fail
      refine HW3.out.new64.mono ?_
      rintro e w4 ⟨d3, rfl, h⟩
      have HW4 : Hid (WW N F1 w (.slice a L.length c) L (.slice (some ⟨g, 0, none⟩) M.length c') (M.map noF) w4 [(d1, newD 64), (d2, newD 64), (d3, newD 64)]) := Lib.hid h
      clear h HW3
      go_wp2_with fail
      refine (WW.putL (l1 := []) HW4.out HTn.out).mono ?_
      rintro e w5 ⟨rfl, h⟩
      have HW5 := Lib.hid h
      clear h HW4
      go_wp2_with fail
      refine (WW.putL (l1 := [_]) HW5.out HTn.out).mono ?_
      rintro e w6 ⟨rfl, h⟩
      have HW6 := Lib.hid h
      clear h HW5
      go_wp2_with fail
      refine (WW.putL (l1 := [_, _]) HW6.out HTn.out).mono ?_
      rintro e w7 ⟨rfl, h⟩
      have HW7 := Lib.hid h
      clear h HW6
      go_wp2_with fail
      refine (WW.flush (l1 := []) HW7.out HPo.out).mono ?_
      rintro e w8 ⟨rfl, h⟩
      have HW8 := Lib.hid h
      clear h HW7
      go_wp2_with fail
      refine (WW.flush (l1 := [_]) HW8.out HPo.out).mono ?_
      rintro e w9 ⟨rfl, h⟩
      have HW9 := Lib.hid h
      clear h HW8
      go_wp2_with fail
      refine (WW.flush (l1 := [_, _]) HW9.out HPo.out).mono ?_
      rintro e w10 ⟨rfl, h⟩
      have HW10 : Hid (WW N F1 w (.slice a L.length c) L (.slice (some ⟨g, 0, none⟩) M.length c') (M.map noF) w10 [(d1, wA L), (d2, wA L), (d3, wA L)]) := Lib.hid h
      clear h HW9
      go_wp2_with fail
      refine (WW.putM (l1 := []) HW10.out HTA.out).mono ?_
      rintro e w11 ⟨rfl, h⟩
      have HW11 := Lib.hid h
      clear h HW10
      go_wp2_with fail
      refine (WW.putM (l1 := [_]) HW11.out HTA.out).mono ?_
      rintro e w12 ⟨rfl, h⟩
      have HW12 : Hid (WW N F1 w (.slice a L.length c) L (.slice (some ⟨g, 0, none⟩) M.length c') (M.map noF) w12 [(d1, wB L M), (d2, wB L M), (d3, wA L)]) := Lib.hid h
      clear h HW11
      have hmk := run_make_ints M.length (by omega) w12
      go_wp2_with fail
      have HI0 := Lib.hid (own_ints M.length (by omega) w12)
      have HBI := Lib.hid (Below.one w12 (.cells (mixI M.length 0).toArray 3))
      clear hmk
      obtain ⟨q, hq⟩ : ∃ q, w12.heap.size = q := ⟨_, rfl⟩
      obtain ⟨w13, hw13⟩ : ∃ W, w12.alloc (.cells (mixI M.length 0).toArray 3) = W := ⟨_, rfl⟩
      have hq1 : q < w13.heap.size := by rw [← hw13, World.size_alloc, hq]; omega
      rw [hw13] at HI0 HBI ⊢
      rw [hq] at HI0 ⊢
      clear hw13
      go_loopw [13] (fun i wr => ∃ k : Nat, k ≤ M.length ∧ i = .int .i64 k ∧ Hid (wr.ownsRow q 3 1 (.slice (some ⟨q, 0, none⟩) M.length M.length) M.length (mixI M.length k)) ∧ Hid (Kept (fun b => b = q) w13 wr)) (fun i _ => M.length - (intOf i).toNat)
      case atStart => exact ⟨0, Nat.zero_le _, rfl, HI0, Lib.hid (Kept.refl _ _)⟩
      case round =>
        obtain ⟨k, hk, rfl, HOk, HKk⟩ := hrel
        by_cases hlt : k < M.length
        · have hplen : (mixI M.length k).length = M.length := mixI_len _ _
          have hc := HOk.out.cellAt k (by omega)
          rw [List.getElem?_eq_getElem (by omega)] at hc
          have hf := HOk.out.frozenAt k
          have hS := HOk.out.stored k (.int .i64 (k : Int))
          rw [mixI_succ] at hS
          have HS := Lib.hid hS.1
          generalize (mixI M.length k)[k]'(by omega) = x at *
          clear hplen hS
          go_wp2
          go_roundw
          case rel => exact ⟨k + 1, by omega, by go_num, HS, Lib.hid (HKk.out.setCell _ rfl _)⟩
          case measure => simp [intOf]; omega
        · obtain rfl : k = M.length := by omega
          have HBw : Hid (Below w12.heap.size w12 wr) := Lib.hid (HBI.out.trans (HKk.out.toBelow (by omega) (fun k e => by omega)))
          have hqr : q < wr.heap.size := Nat.lt_of_lt_of_le hq1 HKk.out.size
          obtain ⟨F2, hF2⟩ : ∃ F : Nat → Prop, (fun k => F1 k ∨ k = q) = F := ⟨_, rfl⟩
          have HW13 : Hid (WW N F2 w (.slice a L.length c) L (.slice (some ⟨g, 0, none⟩) M.length c') (M.map noF) wr [(d1, wB L M), (d2, wB L M), (d3, wA L)]) := Lib.hid (by rw [← hF2]; exact HW12.out.block HBw.out q (by omega) hqr)
          have HIA : Hid (IntsAt wr (.slice (some ⟨q, 0, none⟩) M.length M.length) (allI M.length)) := Lib.hid (ints_of_row (base := q) (by rw [allI_len, ← mixI_all]; exact HOk.out))
          have HSF : Hid (∀ g o m c, Value.slice (some ⟨q, 0, none⟩) M.length M.length = .slice (some ⟨g, o, none⟩) m c → m ≠ 0 → g < N ∨ F2 g) := Lib.hid (fun g' o' m' c'' e _ => by cases e; exact .inr (by rw [← hF2]; exact .inr rfl))
          have hal : (allI M.length).length ≤ maxLen := by rw [allI_len]; unfold maxLen; omega
          have HAL := Lib.hid hal
          have HTC : Hid (Takes (wC L M) (M.map noF).length) := Lib.hid (wC_takes HWS.out)
          clear HBw hqr hF2 hal HOk HKk HI0 HBI HW12 hq hq1 hk hlt HPo
          go_wp2_with fail
          refine (diff0_many HW13.out.many (List.mem_cons_self ..) (List.mem_cons_of_mem _ (List.mem_cons_self ..)) rfl (fun _ _ => rfl)).mono ?_
          rintro e w14 ⟨a1, c1, rfl, hb⟩
          have HW14 := Lib.hid (HW13.out.low hb)
          have HIA2 := Lib.hid (HIA.out.below hb (Nat.le_refl _))
          clear hb HW13 HIA
          go_wp2_with fail
          refine (WW.crash (l1 := []) HW14.out _ _ HIA2.out HAL.out HSF.out (wC_keep L M)).mono ?_
          rintro e w15 ⟨rfl, h⟩
          have HW15 : Hid (WW N F2 w (.slice a L.length c) L (.slice (some ⟨g, 0, none⟩) M.length c') (M.map noF) w15 [(d1, wC L M), (d2, wB L M), (d3, wA L)]) := Lib.hid h
          clear h HW14 HIA2 HAL HSF
          go_wp2_with fail
          refine (WW.flush (l1 := [_]) HW15.out HBo.out).mono ?_
          rintro e w16 ⟨rfl, h⟩
          have HW16 : Hid (WW N F2 w (.slice a L.length c) L (.slice (some ⟨g, 0, none⟩) M.length c') (M.map noF) w16 [(d1, wC L M), (d2, wD L M), (d3, wA L)]) := Lib.hid h
          clear h HW15
          go_wp2_with fail
          refine (WW.diff HW16.out (List.mem_cons_self ..) (List.mem_cons_of_mem _ (List.mem_cons_self ..)) ((wC_len HWS.out).trans (wD_len HWS.out).symm) (reads1 L M)).mono ?_
          rintro e w17 ⟨a2, c2, rfl, h⟩
          have HW17 := Lib.hid h
          clear h HW16
          go_wp2_with fail
          refine (WW.putM (l1 := []) HW17.out HTC.out).mono ?_
          rintro e w18 ⟨rfl, h⟩
          have HW18 := Lib.hid h
          clear h HW17
          go_wp2_with fail
          refine (WW.crash (l1 := []) HW18.out _ [] (ints_none _) (Nat.zero_le _) none_safe (wE_keep _)).mono ?_
          rintro e w19 ⟨rfl, h⟩
          have HW19 : Hid (WW N F2 w (.slice a L.length c) L (.slice (some ⟨g, 0, none⟩) M.length c') (M.map noF) w19 [(d1, wE L M), (d2, wD L M), (d3, wA L)]) := Lib.hid h
          clear h HW18
          go_wp2_with fail
          refine (WW.putM (l1 := [_, _]) HW19.out HTA.out).mono ?_
          rintro e w20 ⟨rfl, h⟩
          have HW20 := Lib.hid h
          clear h HW19
          go_wp2_with fail
          refine (WW.crash (l1 := [_, _]) HW20.out _ [] (ints_none _) (Nat.zero_le _) none_safe (wE_keep _)).mono ?_
          rintro e w21 ⟨rfl, h⟩
          have HW21 : Hid (WW N F2 w (.slice a L.length c) L (.slice (some ⟨g, 0, none⟩) M.length c') (M.map noF) w21 [(d1, wE L M), (d2, wD L M), (d3, wG L M)]) := Lib.hid h
          clear h HW20
          go_wp2_with fail
          refine (WW.diff HW21.out (List.mem_cons_self ..) (List.mem_cons_of_mem _ (List.mem_cons_self ..)) ((wE_len HWS.out).trans (wD_len HWS.out).symm) (reads2 L M)).mono ?_
          rintro e w22 ⟨a3, c3, rfl, h⟩
          have HW22 := Lib.hid h
          clear h HW21
          go_wp2_with fail
          refine HW22.out.new64.mono ?_
          rintro e w23 ⟨d4, rfl, h⟩
          have HW23 : Hid (WW N F2 w (.slice a L.length c) L (.slice (some ⟨g, 0, none⟩) M.length c') (M.map noF) w23 [(d1, wE L M), (d2, wD L M), (d3, wG L M), (d4, newD 64)]) := Lib.hid h
          clear h HW22
          go_wp2_with fail
          refine (WW.putL (l1 := [_, _, _]) HW23.out HTn.out).mono ?_
          rintro e w24 ⟨rfl, h⟩
          have HW24 := Lib.hid h
          clear h HW23
          go_wp2_with fail
          refine (WW.diff (D := wG L M) (E := putsD (newD 64) L) HW24.out (by simp) (by simp) ((wG_len HWS.out).trans (wL_len HWS.out).symm) (reads3 L M)).mono ?_
          rintro e w25 ⟨a4, c4, rfl, h⟩
          have HW25 := Lib.hid h
          clear h HW24
          go_wp2_with fail
          refine (awake_any w25).mono ?_
          rintro e w26 ⟨rfl, hb⟩
          have HB26 := Lib.hid (HW25.out.below.trans (hb.mono HW25.out.size))
          clear hb HW25
          go_wp2_with fail
          go_ret
          exact ⟨rfl, by rw [HN.out]; exact HB26.out⟩
end Go.Proofs.Ytpboknepfjeljaa
