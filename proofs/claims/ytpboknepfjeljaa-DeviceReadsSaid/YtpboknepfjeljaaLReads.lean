/- The law DeviceReads: the walk. -/
import Derived.Test.YtpboknepfjeljaaReadsV
namespace Go.Proofs.Ytpboknepfjeljaa
open Go.RowKit Go.MapKept
attribute [local go_sem ↓] loadS_eq storeS_eq loadW_eq storeW_eq allocS_eq neqS_eq eqlS_eq alloc64_eq
attribute [local go_sem ↓] Go.wp_at_zero Go.wp_at_succ
set_option maxRecDepth 100000
attribute [local irreducible] World.setCells

set_option maxHeartbeats 1000000 in
theorem reads_any (w : World) (v : Value) (L : List Pu) (hv : PutsAt w v L) (hL : L.length ≤ maxLen) :
    Calls Try.prog 5 #[v] w fun e w' => e = .returned (.bool true) ∧ Below w.heap.size w w' := by
  obtain ⟨a, c, rfl⟩ := puts_val hv
  unfold maxLen at hL
  by_cases h100 : 100 < L.length
  · have hI : (100 : Int) < (L.length : Int) := by omega
    clear hv
    go_enter Try.func5, Try.ntmps5
    go_wp2_with fail
    refine (awake_any w).mono ?_
    rintro e w1 ⟨rfl, hb⟩
    go_wp2_with fail
    go_ret
    exact ⟨rfl, hb⟩
  · have hI : ¬ (100 : Int) < (L.length : Int) := by omega
    obtain ⟨N, hN⟩ : ∃ N, w.heap.size = N := ⟨_, rfl⟩
    obtain ⟨F0, hF0⟩ : ∃ F : Nat → Prop, (fun _ => False) = F := ⟨_, rfl⟩
    have HM0 : Hid (Many N F0 w []) := Lib.hid (by rw [← hF0, ← hN]; exact Many.none w)
    have HS0 : Hid (N ≤ w.heap.size) := Lib.hid (Nat.le_of_eq hN.symm)
    have HV := Lib.hid hv
    have HSF := Lib.hid (fun F => safe_arg hv F)
    rw [hN] at HSF
    have HN := Lib.hid hN
    rw [hN]
    clear hN hF0 hv
    go_enter Try.func5, Try.ntmps5
    go_wp2_with fail
    refine (new64_many HM0.out HS0.out).mono ?_
    rintro e w1 ⟨b, rfl, hm, hb⟩
    have HM1 : Hid (Many N F0 w1 [(b, newD 64)]) := Lib.hid hm
    have HB1 : Hid (Below N w w1) := Lib.hid (hb.mono HS0.out)
    have HS1 : Hid (N ≤ w1.heap.size) := Lib.hid (Nat.le_trans HS0.out hb.size)
    have HV1 := Lib.hid (HV.out.below hb (Nat.le_refl _))
    clear hm hb HM0
    go_wp2_with fail
    refine (put_step (l1 := []) (l2 := []) HM1.out HS1.out _ L HV1.out (HSF.out F0) (takes_new L.length (by omega))).mono ?_
    rintro e w2 ⟨rfl, hr⟩
    have HM2 : Hid (Many N F0 w2 [(b, putsD (newD 64) L)]) := Lib.hid hr.many
    have HB2 : Hid (Below N w w2) := Lib.hid (HB1.out.trans (hr.below HS1.out))
    have HS2 : Hid (N ≤ w2.heap.size) := Lib.hid hr.size
    clear hr HM1 HB1 HS1 HV1
    have ha := run_alloc64
    go_wp2_with fail
    obtain ⟨F1, hm, hl, hs⟩ := HM2.out.alloc (rowO zs)
    obtain ⟨gw, hgw⟩ : ∃ g, w2.heap.size = g := ⟨_, rfl⟩
    obtain ⟨w3, hw3⟩ : ∃ W, w2.alloc (rowO zs) = W := ⟨_, rfl⟩
    have HB3 : Hid (Below N w w3) := Lib.hid (by rw [← hw3]; exact HB2.out.alloc HS2.out _)
    have HS3 : Hid (N ≤ w3.heap.size) := Lib.hid (Nat.le_trans HS2.out (by rw [← hw3]; exact (Below.one w2 _).size))
    rw [hw3] at hm hl ⊢
    rw [hgw] at hl ⊢
    have HM3 := Lib.hid hm
    have HL3 := Lib.hid hl
    have hNg : N ≤ gw := by rw [← hgw]; exact HS2.out
    clear hm hl hs hw3 hgw HM2 HB2 HS2 ha
    go_loopw [6] (fun i wr => ∃ k : Nat, k ≤ L.length ∧ i = .int .i64 k ∧ Hid (Many N F1 wr [(b, putsD (newD 64) L)]) ∧ Hid (Blk F1 wr gw (rowO (wantL (L.take k)))) ∧ Hid (Below N w wr) ∧ N ≤ wr.heap.size) (fun i _ => L.length - (intOf i).toNat)
    case atStart => exact ⟨0, Nat.zero_le _, rfl, HM3, HL3, HB3, HS3.out⟩
    case round =>
      obtain ⟨k, hk, rfl, HMk, HLk, HBk, hSk⟩ := hrel
      clear HM3 HL3 HB3 HS3
      by_cases hlt : k < L.length
      · obtain ⟨g, o, rfl, hg, c0, c1, c2⟩ := put_cells (ElemsAt.below HV.out HBk.out (by rw [HN.out]; exact Nat.le_refl _)) k hlt
        have HG : Hid (g < gw) := Lib.hid (by
          obtain ⟨g', o', e1, e2, _⟩ := put_cells HV.out k hlt
          injection e1 with e1; injection e1 with e1; have := HN.out; omega)
        have HD := Lib.hid (wantL_take L k hlt)
        have hwl : (wantL (L.take k)).length = 64 := wantL_len _
        generalize wantL (L.take k) = E at *
        generalize L[k] = p at *
        obtain ⟨pa, pb, pf⟩ := p
        simp only at c0 c1 c2
        have hrem := u8_rem pa
        have hx1 : (0 : Int) ≤ (pa.toNat : Int) % 64 ∧ (pa.toNat : Int) % 64 < 64 := by omega
        have hx2 : ((pa.toNat : Int) % 64).toNat = pa.toNat % 64 := by omega
        have hb0 : pa.toNat % 64 < 64 := Nat.mod_lt _ (by omega)
        have hb1 : pa.toNat ≤ 255 := by have := pa.toNat_lt; omega
        have hkl : (k : Int) < (L.length : Int) := by omega
        obtain ⟨W0, hW0⟩ : ∃ W0, wr = W0 := ⟨_, rfl⟩
        rw [hW0] at HMk HLk HBk hSk c0 c1 hg ⊢
        go_wp2
        have HST := Lib.hid (fun (wz : World) (h : Below W0.heap.size W0 wz) => row_mid (HLk.out.below h (Nat.le_refl _)).at_ (pa.toNat % 64) (by omega) (Sec.fill pa pb))
        have hi1 := lenSec (Sec.fill pa pb)
        have hi2 : (Sec.fill pa pb).cs.length = 128 := Sec.cs_len _
        have hi3 := (Sec.fill pa pb).one
        have hgg : ¬ g = gw := by have := HG.out; omega
        have HK := Lib.hid (fun (W : World) (h : Kept (fun b => b = gw) W0 W) => (show W.cell? ⟨g, o + k * 3, none⟩ = some (.int .u8 (pa.toNat : Int)) ∧ W.cell? ⟨g, o + k * 3 + 1, none⟩ = some (.int .u8 (pb.toNat : Int)) ∧ Kept (fun b => b = gw) W0 W from ⟨(h.cell hg hgg).trans c0, (h.cell hg hgg).trans c1, h⟩))
        have HSt := Lib.hid (HK.out W0 (Kept.refl _ _))
        have HSD := Lib.hid (fun (W : World) (h : W.cell? ⟨g, o + k * 3, none⟩ = some (.int .u8 (pa.toNat : Int)) ∧ W.cell? ⟨g, o + k * 3 + 1, none⟩ = some (.int .u8 (pb.toNat : Int)) ∧ Kept (fun b => b = gw) W0 W) => HK.out W.drew h.2.2.drew)
        have HF : Hid (∀ W, Calls Try.prog 22 #[.int .u8 (pa.toNat : Int), .int .u8 (pb.toNat : Int)] W fun e w' => e = .returned (.agg (Sec.fill pa pb).cs.toArray) ∧ Below W.heap.size W w') := Lib.hid (fun W => filled_any pa pb W)
        clear c0 c1 c2
        go_region_held3 (fun W => W.cell? ⟨g, o + k * 3, none⟩ = some (.int .u8 (pa.toNat : Int)) ∧ W.cell? ⟨g, o + k * 3 + 1, none⟩ = some (.int .u8 (pb.toNat : Int)) ∧ Kept (fun b => b = gw) W0 W) (first | assumption | exact hSs | exact HSt.out | exact HSD.out _ (by assumption) | exact HSD.out _ HSt.out) ((first | (go_at_call 22; (with_reducible refine (HF.out _).mono ?_); rintro e wz ⟨rfl, hbz⟩; have hB0z : Below W0.heap.size W0 wz := (show Below W0.heap.size W0 W0.drew from (Below.refl _ _).drew).trans hbz; obtain ⟨hth, hrow, hkept⟩ := HST.out wz hB0z; have hSz := HK.out wz (Below.kept hB0z _ (fun k hk _ => hk)); have hSs := HK.out _ (hSz.2.2.trans hkept); have HROW := Lib.hid hrow; clear hrow hkept hB0z hbz) | fail))
        have HSs := Lib.hid hSs.2.2
        clear hSs hSz hth
        go_wp2
        go_roundw
        case rel => exact ⟨k + 1, by omega, by go_num, Lib.hid (HMk.out.row HSs.out HLk.out.mem), Lib.hid (by rw [HD.out]; exact ⟨HROW.out, HLk.out.mem⟩), Lib.hid (HBk.out.trans (HSs.out.toBelow hSk (fun k e => by omega))), Nat.le_trans hSk HSs.out.size⟩
        case measure => simp [intOf]; omega
      · have d1 : decide (k < L.length) = false := by simp; omega
        have HT := Lib.hid (take_all L hlt)
        have HLw : Hid (Blk F1 wr gw (rowO (wantL L))) := Lib.hid (by have h := HLk.out; rwa [HT.out] at h)
        have HRA : Hid (ReadsAs (putsD (newD 64) L) (wantL L)) := Lib.hid (ReadsAs.puts L readsAs_new)
        have HTK : Hid (Takes (putsD (newD 64) L) 0) := Lib.hid (Takes.puts (D := newD 64) L 0 (newD 64) (takes_new _ (by omega)))
        have HTN : Hid ((putsD (newD 64) L).tk = L.length) := Lib.hid (by rw [putsD_tk]; simp [newD])
        have hwl : (wantL L).length = 64 := wantL_len L
        generalize putsD (newD 64) L = E at *
        generalize wantL L = Wt at *
        obtain ⟨W0, hW0⟩ : ∃ W0, wr = W0 := ⟨_, rfl⟩
        rw [hW0] at HMk HLw HBk hSk ⊢
        clear HLk HT hW0 hk hlt
        have haS := run_allocS
        have hsN := run_storeS_new
        go_wp2
        go_loopw [7] (fun i wr => ∃ j : Nat, j ≤ 64 ∧ i = .int .i64 j ∧ Hid (Below W0.heap.size W0 wr)) (fun i _ => 64 - (intOf i).toNat)
        case atStart => exact ⟨0, by omega, rfl, Lib.hid (Below.refl _ _)⟩
        case round =>
          obtain ⟨j, hj, rfl, HBj⟩ := hrel
          have HMj := Lib.hid (HMk.out.below HBj.out (Nat.le_refl _))
          have HSj : Hid (N ≤ wr.heap.size) := Lib.hid (Nat.le_trans hSk HBj.out.size)
          by_cases hlt : j < 64
          · have HRD := Lib.hid (HRA.out.read HTK.out.off j hlt)
            have hji : (0 : Int) ≤ (j : Int) ∧ (j : Int) < 64 := by omega
            go_wp2_with fail
            refine (read0_many (l1 := []) (l2 := []) HMj.out HSj.out j _ HRD.out.1 HRD.out.2).mono ?_
            rintro e w5 ⟨rfl, hb5⟩
            have HB5 := Lib.hid (HBj.out.trans (hb5.mono HBj.out.size))
            clear hb5
            go_wp2_with fail
            obtain ⟨w6, hw6⟩ : ∃ W, w5.alloc (.cells (Wt[j]'(by omega)).A 50 (0, 0)) = W := ⟨_, rfl⟩
            rw [hw6]
            have HB6 : Hid (Below W0.heap.size W0 w6) := Lib.hid (by rw [← hw6]; exact HB5.out.alloc HB5.out.size _)
            have l1 : ∀ m, (loadS (.pointer (some ⟨w5.heap.size, 0, none⟩))).run Try.prog (w6.drewN m) = .ok (.agg (Wt[j]'(by omega)).A) (w6.drewN m) := fun m => run_loadS_block (by rw [← hw6]; exact heap_alloc_new _ _)
            have l2 : ∀ m, (loadS (.pointer (some ⟨gw, j * 128, none⟩))).run Try.prog (w6.drewN m) = .ok (.agg (Wt[j]'(by omega)).A) (w6.drewN m) := fun m => row_load (w := w6.drewN m) ((HLw.out.below HB6.out (Nat.le_refl _)).at_) j (by omega)
            have hq := fun W => run_neqS W (Wt[j]'(by omega)) (Wt[j]'(by omega))
            rw [decide_eq_true rfl] at hq
            clear hw6
            generalize Wt[j]'(by omega) = x at *
            go_quiet (fail)
            go_wp2
            go_roundw
            case rel => exact ⟨j + 1, by omega, by go_num, Lib.hid (HB6.out.trans (by exact (Below.refl _ _ : Below W0.heap.size w6 w6).trans ⟨rfl, rfl, rfl, Nat.le_refl _, fun _ _ => rfl⟩))⟩
            case measure => simp [intOf]; omega
          · have HA := Lib.hid (awake_any wr)
            have HT1 := Lib.hid (taken_many (l1 := []) (l2 := []) HMj.out HSj.out)
            rw [HTN.out] at HT1
            have HBf := Lib.hid (HBk.out.trans (HBj.out.mono hSk))
            have d2 : decide (j < 64) = false := by simp; omega
            have d3 : decide ((j : Int) < 64) = false := by simp; omega
            go_wp2_with fail
            refine HT1.out.mono ?_
            rintro e w' ⟨rfl, rfl⟩
            go_wp2_with fail
            refine HA.out.mono ?_
            rintro e w7 ⟨rfl, hb7⟩
            go_wp2_with fail
            go_ret
            exact ⟨rfl, HBf.out.trans (hb7.mono HSj.out)⟩
end Go.Proofs.Ytpboknepfjeljaa
