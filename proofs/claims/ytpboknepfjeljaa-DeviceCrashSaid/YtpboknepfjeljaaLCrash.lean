/- The law DeviceCrash: the walk. -/
import Derived.Test.YtpboknepfjeljaaCrashV
import Derived.Test.YtpboknepfjeljaaArgs
namespace Go.Proofs.Ytpboknepfjeljaa
open Go.RowKit Go.MapKept
attribute [local go_sem ↓] loadS_eq storeS_eq loadW_eq storeW_eq allocS_eq neqS_eq eqlS_eq alloc64_eq
attribute [local go_sem ↓] Go.wp_at_zero Go.wp_at_succ
set_option maxRecDepth 100000
attribute [local irreducible] World.setCells

/-- What the law's second loop holds: the array, the list of what is kept. -/
structure CS (W3 : World) (gw : Nat) (R : List Sec) (K : List Int) (v : Value) (W : World) : Prop where
  row : W.heap[gw]? = some (rowO R)
  kept : Kept (fun b => b = gw) W3 W
  own : W.ownsRow W3.heap.size 3 1 v K.length (K.map (Value.int .i64))

theorem Try.infoInt : (Try.prog.info? 3).map (fun i => (i.zero, i.size, i.bytes)) = some (some (.int .i64 0), 1, 8) := by kernel_rfl
theorem int_one_new (w : World) (n : Int) : ∀ j u, [Value.int .i64 n][j]? = some u → (w.alloc (.cells #[.int .i64 n] 3 (0, 0))).cell? ((⟨w.heap.size, 0, none⟩ : Addr).add j) = some u := by
  intro j u hj
  rw [addr_add0, Nat.zero_add, cell_of_row _ _ _ _ _ (0, 0) (heap_alloc_new w _)]
  simpa using hj
set_option maxHeartbeats 2000000 in
theorem crashLaw_any (w : World) (v u : Value) (L : List Pu) (keep : List UInt8) (hv : PutsAt w v L) (hL : L.length ≤ maxLen) (hu : BytesAt w u keep) (hkl : keep.length ≤ maxLen) :
    Calls Try.prog 6 #[v, u] w fun e w' => e = .returned (.bool true) ∧ Below w.heap.size w w' := by
  obtain ⟨a, c, rfl⟩ := puts_val hv
  obtain ⟨ua, uc, rfl⟩ : ∃ a c, u = .slice a keep.length c := by
    rcases hu with ⟨a, c, rfl, rfl⟩ | ⟨g, o, c, rfl, _⟩
    · exact ⟨a, c, rfl⟩
    · exact ⟨_, c, rfl⟩
  unfold maxLen at hL hkl
  by_cases h100 : 100 < L.length
  · have hI : (100 : Int) < (L.length : Int) := by omega
    clear hv hu
    go_enter Try.func6, Try.ntmps6
    go_wp2_with fail
    refine (awake_any w).mono ?_
    rintro e w1 ⟨rfl, hb⟩
    go_wp2_with fail
    go_ret
    exact ⟨rfl, hb⟩
  · have hI : ¬ (100 : Int) < (L.length : Int) := by omega
    obtain ⟨N, hN⟩ : ∃ N, w.heap.size = N := ⟨_, rfl⟩
    obtain ⟨F0, hF0⟩ : ∃ F : Nat → Prop, (fun _ => False) = F := ⟨_, rfl⟩
    have HM0 : Hid (Many N F0 w []) := Lib.hid (by rw [← hF0, ← hN]; exact Many.none w)
    have HS0 : Hid (N ≤ w.heap.size) := Lib.hid (Nat.le_of_eq hN.symm)
    have HV := Lib.hid hv
    have HU := Lib.hid hu
    have HSF := Lib.hid (fun F => safe_arg hv F)
    rw [hN] at HSF
    have HN := Lib.hid hN
    rw [hN]
    clear hN hF0 hv hu
    go_enter Try.func6, Try.ntmps6
    go_wp2_with fail
    refine (new64_many HM0.out HS0.out).mono ?_
    rintro e w1 ⟨b, rfl, hm, hb⟩
    have HM1 : Hid (Many N F0 w1 [(b, newD 64)]) := Lib.hid hm
    have HB1 : Hid (Below N w w1) := Lib.hid (hb.mono HS0.out)
    have HS1 : Hid (N ≤ w1.heap.size) := Lib.hid (Nat.le_trans HS0.out hb.size)
    have HV1 := Lib.hid (HV.out.below hb (Nat.le_refl _))
    clear hm hb HM0
    go_wp2_with fail
    refine (put_step (l1 := []) (l2 := []) HM1.out HS1.out _ L HV1.out (HSF.out F0) (takes_new L.length (by omega))).mono ?_
    rintro e w2 ⟨rfl, hr⟩
    have HM2 : Hid (Many N F0 w2 [(b, putsD (newD 64) L)]) := Lib.hid hr.many
    have HB2 : Hid (Below N w w2) := Lib.hid (HB1.out.trans (hr.below HS1.out))
    have HS2 : Hid (N ≤ w2.heap.size) := Lib.hid hr.size
    clear hr HM1 HB1 HS1 HV1
    have ha := run_alloc64
    go_wp2_with fail
    obtain ⟨F1, hm, hl, hs⟩ := HM2.out.alloc (rowO zs)
    obtain ⟨gw, hgw⟩ : ∃ g, w2.heap.size = g := ⟨_, rfl⟩
    obtain ⟨w3, hw3⟩ : ∃ W, w2.alloc (rowO zs) = W := ⟨_, rfl⟩
    have HB3 : Hid (Below N w w3) := Lib.hid (by rw [← hw3]; exact HB2.out.alloc HS2.out _)
    have HS3 : Hid (N ≤ w3.heap.size) := Lib.hid (Nat.le_trans HS2.out (by rw [← hw3]; exact (Below.one w2 _).size))
    rw [hw3] at hm hl ⊢
    rw [hgw] at hl ⊢
    have HM3 := Lib.hid hm
    have HL3 := Lib.hid hl
    have hNg : N ≤ gw := by rw [← hgw]; exact HS2.out
    clear hm hl hs hw3 hgw HM2 HB2 HS2 ha
    go_loop [7, 9] (fun l i => ∃ k : Nat, k ≤ L.length ∧ i = .int .i64 k ∧ l = .int .i64 (lastF L k : Nat)) (fun _ i => L.length - (intOf i).toNat)
    case atStart => exact ⟨0, Nat.zero_le _, rfl, rfl⟩
    case round =>
      obtain ⟨k, hk, rfl, rfl⟩ := hrel
      have hle := lastF_le L k
      by_cases hlt : k < L.length
      · obtain ⟨g, o, rfl, hg, c0, c1, c2⟩ := put_cells (ElemsAt.below HV.out HB3.out (by rw [HN.out]; exact Nat.le_refl _)) k hlt
        have HL := Lib.hid (lastF_succ L k hlt)
        generalize L[k] = p at *
        obtain ⟨pa, pb, pf⟩ := p
        simp only at c0 c1 c2
        cases pf with
        | true =>
          go_wp2
          go_round
          case rel => exact ⟨k + 1, by omega, by go_num, by rw [HL.out]; go_num⟩
          case measure => simp [intOf]; omega
        | false =>
          go_wp2
          go_round
          case rel => exact ⟨k + 1, by omega, by go_num, by rw [HL.out]; rfl⟩
          case measure => simp [intOf]; omega
      · obtain rfl : k = L.length := by omega
        clear hk hlt
        have HCR := Lib.hid (crash_reads L keep)
        generalize lastF L L.length = last at *
        have HW0 : Hid (CS w3 gw (cw L keep last 0).1 (cw L keep last 0).2 (.slice none 0 0) w3) := Lib.hid ⟨HL3.out.at_, Kept.refl _ _, World.ownsRow_nil _ _ _ _⟩
        have HG : Hid (gw < w3.heap.size) := Lib.hid HL3.out.lt
        go_wp2
        go_loopw [10, 11, 12] (fun kv i kk wr => ∃ i' : Nat, i' ≤ L.length ∧ i = .int .i64 i' ∧ Hid (CS w3 gw (cw L keep last i').1 (cw L keep last i').2 kv wr)) (fun _ i _ _ => L.length - (intOf i).toNat)
        case atStart => exact ⟨0, Nat.zero_le _, rfl, HW0⟩
        case round =>
          obtain ⟨i, hi, rfl, HC⟩ := hrel
          by_cases hlt : i < L.length
          · obtain ⟨g, o, rfl, hg, c0, c1, c2⟩ := put_cells (ElemsAt.below HV.out (HB3.out.trans (HC.out.kept.toBelow HS3.out (fun k e => by omega))) (by rw [HN.out]; exact Nat.le_refl _)) i hlt
            have hgg : ¬ g = gw := by
              obtain ⟨g', o', e1, e2, _⟩ := put_cells HV.out i hlt
              injection e1 with e1; injection e1 with e1; have := HN.out; omega
            have HE1 := Lib.hid (fun h => cw_lt (keep := keep) (last := last) hlt h)
            have HE2 := Lib.hid (fun h hb => cw_bit (keep := keep) (last := last) hlt h hb)
            have HE3 := Lib.hid (fun h hb => cw_no (keep := keep) (last := last) hlt h hb)
            have hil : (i : Int) < (L.length : Int) := by omega
            have HEL : Hid ((cw L keep last i).1.length = 64) := Lib.hid (cw_len L keep last i).1
            have HKL0 : Hid ((cw L keep last i).2.length ≤ i) := Lib.hid (cw_len L keep last i).2
            generalize cw L keep last i = E0 at *
            obtain ⟨E, K⟩ := E0
            simp only at HC HEL HKL0
            generalize L[i] = p at *
            obtain ⟨pa, pb, pf⟩ := p
            simp only at c0 c1 c2
            have hrem := u8_rem pa
            have hx1 : (0 : Int) ≤ (pa.toNat : Int) % 64 ∧ (pa.toNat : Int) % 64 < 64 := by omega
            have hx2 : ((pa.toNat : Int) % 64).toNat = pa.toNat % 64 := by omega
            have hb0 : pa.toNat % 64 < 64 := Nat.mod_lt _ (by omega)
            have hb1 : pa.toNat ≤ 255 := by have := pa.toNat_lt; omega
            obtain ⟨W0, hW0⟩ : ∃ W0, wr = W0 := ⟨_, rfl⟩
            rw [hW0] at HC c0 c1 hg ⊢
            have hwblk : ∀ {wz : World}, Below W0.heap.size W0 wz → wz.heap[gw]? = some (rowO E) := fun h => (h.block gw (Nat.lt_of_lt_of_le HG.out HC.out.kept.size)).trans HC.out.row
            have hlen := HEL.out
            by_cases hc : i < last
            · have d0 : decide ((i : Int) - last < 0) = true := by simp; omega
              go_wp2
              have HST := Lib.hid (fun (wz : World) (h : Below W0.heap.size W0 wz) => row_mid ((hwblk h : wz.heap[gw]? = some (rowO E))) (pa.toNat % 64) (by omega) (Sec.fill pa pb))
              have hi1 := lenSec (Sec.fill pa pb)
              have hi2 : (Sec.fill pa pb).cs.length = 128 := Sec.cs_len _
              have hi3 := (Sec.fill pa pb).one
              have HK := Lib.hid (fun (W : World) (h : Kept (fun b => b = gw) W0 W) => (show W.cell? ⟨g, o + i * 3, none⟩ = some (.int .u8 (pa.toNat : Int)) ∧ W.cell? ⟨g, o + i * 3 + 1, none⟩ = some (.int .u8 (pb.toNat : Int)) ∧ Kept (fun b => b = gw) W0 W from ⟨(h.cell hg hgg).trans c0, (h.cell hg hgg).trans c1, h⟩))
              have HSt := Lib.hid (HK.out W0 (Kept.refl _ _))
              have HSD := Lib.hid (fun (W : World) (h : W.cell? ⟨g, o + i * 3, none⟩ = some (.int .u8 (pa.toNat : Int)) ∧ W.cell? ⟨g, o + i * 3 + 1, none⟩ = some (.int .u8 (pb.toNat : Int)) ∧ Kept (fun b => b = gw) W0 W) => HK.out W.drew h.2.2.drew)
              have HF : Hid (∀ W, Calls Try.prog 22 #[.int .u8 (pa.toNat : Int), .int .u8 (pb.toNat : Int)] W fun e w' => e = .returned (.agg (Sec.fill pa pb).cs.toArray) ∧ Below W.heap.size W w') := Lib.hid (fun W => filled_any pa pb W)
              clear c0 c1 c2 hwblk
              go_region_held3 (fun W => W.cell? ⟨g, o + i * 3, none⟩ = some (.int .u8 (pa.toNat : Int)) ∧ W.cell? ⟨g, o + i * 3 + 1, none⟩ = some (.int .u8 (pb.toNat : Int)) ∧ Kept (fun b => b = gw) W0 W) (first | assumption | exact hSs | exact HSt.out | exact HSD.out _ (by assumption) | exact HSD.out _ HSt.out) ((first | (go_at_call 22; (with_reducible refine (HF.out _).mono ?_); rintro e wz ⟨rfl, hbz⟩; have hB0z : Below W0.heap.size W0 wz := (show Below W0.heap.size W0 W0.drew from (Below.refl _ _).drew).trans hbz; obtain ⟨hth, hrow, hkept⟩ := HST.out wz hB0z; have hSz := HK.out wz (Below.kept hB0z _ (fun k hk _ => hk)); have hSs := HK.out _ (hSz.2.2.trans hkept); have HROW := Lib.hid hrow; clear hrow hkept hB0z hbz) | fail))
              have HSs := Lib.hid hSs.2.2
              clear hSs hSz hth
              go_wp2
              go_roundw
              case rel => exact ⟨i + 1, by omega, by go_num, Lib.hid (by rw [HE1.out hc]; exact ⟨HROW.out, HC.out.kept.trans HSs.out, row_kept HC.out.own HSs.out (fun g' hg' e => by have := (HC.out.own.lt g' hg').1; have := HG.out; omega)⟩)⟩
              case measure => simp [intOf]; omega
            · obtain ⟨d, hdi⟩ : ∃ d, i = last + d := ⟨i - last, by omega⟩
              have hsub : ((i : Int) - (last : Int)) = (d : Int) := by omega
              have HDI := Lib.hid hdi
              clear hdi
              have hd0 : (0 : Int) ≤ (d : Int) / 8 := by omega
              have hd1 : ((d : Int) / 8).toNat = d / 8 := by omega
              by_cases hq : d / 8 < keep.length
              · have q1 : decide ((d : Int) / 8 < (keep.length : Int)) = true := by simp; omega
                have q2 : (d : Int) / 8 < (keep.length : Int) := by omega
                obtain ⟨gu, ou, rfl, hcu⟩ : ∃ g o, ua = some ⟨g, o, none⟩ ∧ W0.cell? ⟨g, o + d / 8, none⟩ = some (.int .u8 (keep[d / 8].toNat : Int)) := by
                  rcases HU.out with ⟨a', c', e1, e2⟩ | ⟨g', o', c', e1, e2, e3⟩
                  · subst e2; simp at hq
                  · cases e1
                    exact ⟨g', o', rfl, ((HB3.out.trans (HC.out.kept.toBelow HS3.out (fun k e => by omega))).cell (p := ⟨g', o' + d / 8, none⟩) (by have := HN.out; show g' < N; omega)).trans (e3 _ hq)⟩
                have hkb : keep[d / 8].toNat < 256 := keep[d / 8].toNat_lt
                have HBB : Hid (bitB keep d = decide (keep[d / 8].toNat / 2 ^ (d % 8) % 2 = 1)) := Lib.hid (by
                  unfold bitB; rw [decide_eq_true hq, List.getD_eq_getElem?_getD, List.getElem?_eq_getElem hq]; simp)
                generalize keep[d / 8].toNat = kb at *
                have hbit : (((kb : Int) / 2 ^ (d % 8)).tmod 2 == 1) = bitB keep d := by
                  rw [HBB.out]
                  have e : ((kb : Int) / 2 ^ (d % 8)) = ((kb / 2 ^ (d % 8) : Nat) : Int) := by simp
                  rw [e]
                  generalize kb / 2 ^ (d % 8) = y
                  rw [Int.tmod_eq_emod_of_nonneg (by omega), Bool.eq_iff_iff, beq_iff_eq, decide_eq_true_eq]
                  omega
                have hk0 : (0 : Int) ≤ (d : Int) := by omega
                cases hbb : bitB keep d with
                | true =>
                  rw [hbb] at hbit
                  have HBT := Lib.hid hbb
                  clear hbb
                  go_wp2
                  have HST := Lib.hid (fun (wz : World) (h : Below W0.heap.size W0 wz) => row_mid ((hwblk h : wz.heap[gw]? = some (rowO E))) (pa.toNat % 64) (by omega) (Sec.fill pa pb))
                  have hi1 := lenSec (Sec.fill pa pb)
                  have hi2 : (Sec.fill pa pb).cs.length = 128 := Sec.cs_len _
                  have hi3 := (Sec.fill pa pb).one
                  have HK := Lib.hid (fun (W : World) (h : Kept (fun b => b = gw) W0 W) => (show W.cell? ⟨g, o + i * 3, none⟩ = some (.int .u8 (pa.toNat : Int)) ∧ W.cell? ⟨g, o + i * 3 + 1, none⟩ = some (.int .u8 (pb.toNat : Int)) ∧ Kept (fun b => b = gw) W0 W from ⟨(h.cell hg hgg).trans c0, (h.cell hg hgg).trans c1, h⟩))
                  have HSt := Lib.hid (HK.out W0 (Kept.refl _ _))
                  have HSD := Lib.hid (fun (W : World) (h : W.cell? ⟨g, o + i * 3, none⟩ = some (.int .u8 (pa.toNat : Int)) ∧ W.cell? ⟨g, o + i * 3 + 1, none⟩ = some (.int .u8 (pb.toNat : Int)) ∧ Kept (fun b => b = gw) W0 W) => HK.out W.drew h.2.2.drew)
                  have HF : Hid (∀ W, Calls Try.prog 22 #[.int .u8 (pa.toNat : Int), .int .u8 (pb.toNat : Int)] W fun e w' => e = .returned (.agg (Sec.fill pa pb).cs.toArray) ∧ Below W.heap.size W w') := Lib.hid (fun W => filled_any pa pb W)
                  clear c0 c1 c2 hwblk
                  go_region_held3 (fun W => W.cell? ⟨g, o + i * 3, none⟩ = some (.int .u8 (pa.toNat : Int)) ∧ W.cell? ⟨g, o + i * 3 + 1, none⟩ = some (.int .u8 (pb.toNat : Int)) ∧ Kept (fun b => b = gw) W0 W) (first | assumption | exact hSs | exact HSt.out | exact HSD.out _ (by assumption) | exact HSD.out _ HSt.out) ((first | (go_at_call 22; (with_reducible refine (HF.out _).mono ?_); rintro e wz ⟨rfl, hbz⟩; have hB0z : Below W0.heap.size W0 wz := (show Below W0.heap.size W0 W0.drew from (Below.refl _ _).drew).trans hbz; obtain ⟨hth, hrow, hkept⟩ := HST.out wz hB0z; have hSz := HK.out wz (Below.kept hB0z _ (fun k hk _ => hk)); have hSs := HK.out _ (hSz.2.2.trans hkept); have HROW := Lib.hid hrow; clear hrow hkept hB0z hbz) | fail))
                  have HSs := Lib.hid hSs.2.2
                  clear hSs hSz hth
                  obtain ⟨W1, hW1⟩ : ∃ W, wz.setCells gw (pa.toNat % 64 * 128) (Sec.fill pa pb).cs = W := ⟨_, rfl⟩
                  rw [hW1] at HROW HSs ⊢
                  have HO := Lib.hid (row_kept HC.out.own HSs.out (fun g' hg' e => by have := (HC.out.own.lt g' hg').1; have := HG.out; omega))
                  have HK3 := Lib.hid (HC.out.kept.trans HSs.out)
                  have HD := Lib.hid (show i - last = d from by have := HDI.out; omega)
                  obtain ⟨i0, hi0, hz0, hz1, hz2⟩ := info_parts Try.infoInt
                  have HKL : Hid (K.length ≤ 100) := Lib.hid (by have := HKL0.out; omega)
                  clear hW1
                  go_wp2_with (at_builtin; refine wpList_append_own _ rfl _ _ 37 rfl w3.heap.size 3 i0 (.int .i64 0) 1 8 Try.underlying37 hi0 hz0 hz1 hz2 rfl (by decide) _ _ _ rfl (HO.out.alloc _) ⟨W1.heap.size, 0, none⟩ 1 1 [.int .i64 (d : Int)] rfl rfl (int_one_new _ _) (by simp [Value.oneCell']) (by have := HKL.out; unfold maxLen; omega) (by have := HKL.out; omega) (by have := HK3.out.size; simp; omega) ?_; intro v' w5 hown5 hgrow5 _)
                  have HCS : Hid (CS w3 gw (wantP E ⟨pa, pb, pf⟩) (K ++ [(d : Int)]) v' w5) := Lib.hid (by
                    have hkg : Kept (fun k => u10.ownBlock = some k) W1 w5 := (Kept.refl _ W1).alloc _ |>.trans (Kept.grown hgrow5)
                    refine ⟨(hkg.block gw (Nat.lt_of_lt_of_le HG.out HK3.out.size) (fun e => by have := (HC.out.own.lt gw e).1; have := HG.out; omega)).trans HROW.out, HK3.out.trans' hkg (fun k e => .inr (HC.out.own.lt k e).1), ?_⟩
                    rw [List.length_append, List.map_append]
                    exact hown5)
                  clear hown5 hgrow5
                  go_wp2
                  go_roundw
                  case rel => exact ⟨i + 1, by omega, by go_num, Lib.hid (by rw [HE2.out hc (by rw [HD.out]; exact HBT.out), HD.out]; exact HCS.out)⟩
                  case measure => simp [intOf]; omega
                | false =>
                  rw [hbb] at hbit
                  have HN3 := Lib.hid (HE3.out hc (by rw [show i - last = d from by have := HDI.out; omega]; exact hbb))
                  clear hbb hwblk
                  go_wp2
                  go_roundw
                  case rel => exact ⟨i + 1, by omega, by go_num, Lib.hid (by rw [HN3.out]; exact HC.out)⟩
                  case measure => simp [intOf]; omega
              · have q1 : decide ((d : Int) / 8 < (keep.length : Int)) = false := by simp; omega
                have hk0 : (0 : Int) ≤ (d : Int) := by omega
                have HN3 := Lib.hid (HE3.out hc (by rw [show i - last = d from by have := HDI.out; omega]; unfold bitB; rw [decide_eq_false hq]; rfl))
                clear hwblk
                go_wp2
                go_roundw
                case rel => exact ⟨i + 1, by omega, by go_num, Lib.hid (by rw [HN3.out]; exact HC.out)⟩
                case measure => simp [intOf]; omega
          · obtain rfl : i = L.length := by omega
            clear hlt hi
            have hKb := (cw_len L keep last L.length).2
            obtain ⟨R, K, hRK⟩ : ∃ R K, cw L keep last L.length = (R, K) := ⟨_, _, rfl⟩
            rw [hRK] at HC HCR hKb
            clear hRK
            simp only at HC HCR hKb
            have HNE := Lib.hid (Takes.puts (D := newD 64) L 0 (newD 64) (takes_new _ (by omega)))
            generalize putsD (newD 64) L = E at *
            have hown := HC.out.own
            have hKl : K.length ≤ maxLen := by unfold maxLen; omega
            obtain ⟨G, hG⟩ : ∃ G : Nat → Prop, (fun k => F1 k ∨ u10.ownBlock = some k) = G := ⟨_, rfl⟩
            have HMr : Hid (Many N G wr [(b, E)]) := Lib.hid (by
              rw [← hG]
              exact HM3.out.change HC.out.kept (fun k e => .inl (e ▸ HL3.out.mem)) (fun k e => e.imp id (fun e => (hown.lt k e).1)) (fun k e => e.elim (fun e => Nat.lt_of_lt_of_le (HM3.out.lt k e) HC.out.kept.size) (fun e => (hown.lt k e).2)))
            have HLr : Hid (Blk G wr gw (rowO R)) := Lib.hid ⟨HC.out.row, by rw [← hG]; exact .inl HL3.out.mem⟩
            have HSr : Hid (N ≤ wr.heap.size) := Lib.hid (Nat.le_trans HS3.out HC.out.kept.size)
            have HBr : Hid (Below N w wr) := Lib.hid (HB3.out.trans (HC.out.kept.toBelow HS3.out (fun k e => by omega)))
            have HIA := Lib.hid (ints_of_row hown)
            have HXX : Hid (∀ g o m c, u10 = .slice (some ⟨g, o, none⟩) m c → m ≠ 0 → g < N ∨ G g) := Lib.hid (fun g o m c e _ => .inr (by rw [← hG]; exact .inr (slice_own e)))
            have HP1 : Hid (Calls Try.prog 25 #[.pointer (some ⟨b, 0, none⟩)] wr fun e w' => e = .returned (.int .i64 ((L.length : Int) - (last : Int))) ∧ wr = w') := Lib.hid (by
              have h := pending_many (l1 := []) (l2 := []) HMr.out HSr.out
              rw [HCR.out.2.2] at h
              rwa [show ((L.length - last : Nat) : Int) = (L.length : Int) - (last : Int) from by omega] at h)
            have HCC := Lib.hid (crash0_many (l1 := []) (l2 := []) HMr.out HSr.out u10 K HIA.out hKl HXX.out HCR.out.1)
            have HRA : Hid (ReadsAs (crashedD E K) R) := Lib.hid HCR.out.2.1
            clear hown hG HC hKl HCR hKb
            go_wp2_with fail
            refine HP1.out.mono ?_
            rintro e w' ⟨rfl, rfl⟩
            go_wp2_with fail
            refine HCC.out.mono ?_
            rintro e w5 ⟨rfl, hr⟩
            have HM5 : Hid (Many N G w5 [(b, crashedD E K)]) := Lib.hid hr.many
            have HB5 := Lib.hid (HBr.out.trans (hr.below HSr.out))
            have HS5 := Lib.hid hr.size
            have HLw := Lib.hid (HLr.out.ran hr)
            have HP2 := Lib.hid (pending_many (l1 := []) (l2 := []) HM5.out HS5.out)
            rw [show (((crashedD E K).ca.length : Nat) : Int) = 0 from rfl] at HP2
            clear hr
            go_wp2_with fail
            refine HP2.out.mono ?_
            rintro e w' ⟨rfl, rfl⟩
            have haS := run_allocS
            have hsN := run_storeS_new
            have hRl := HRA.out.len
            have hof : (crashedD E K).off = false := rfl
            have HOF := Lib.hid hof
            clear hof
            generalize crashedD E K = D at *
            obtain ⟨W0, hW0⟩ : ∃ W0, w5 = W0 := ⟨_, rfl⟩
            rw [hW0] at HM5 HB5 HS5 HLw ⊢
            clear hW0
            go_wp2
            go_loopw [13] (fun i wr => ∃ j : Nat, j ≤ 64 ∧ i = .int .i64 j ∧ Hid (Below W0.heap.size W0 wr)) (fun i _ => 64 - (intOf i).toNat)
            case atStart => exact ⟨0, by omega, rfl, Lib.hid (Below.refl _ _)⟩
            case round =>
              obtain ⟨j, hj, rfl, HBj⟩ := hrel
              have HMj := Lib.hid (HM5.out.below HBj.out (Nat.le_refl _))
              have HSj : Hid (N ≤ wr.heap.size) := Lib.hid (Nat.le_trans HS5.out HBj.out.size)
              by_cases hlt : j < 64
              · have HRD := Lib.hid (HRA.out.read HOF.out j hlt)
                have hji : (0 : Int) ≤ (j : Int) ∧ (j : Int) < 64 := by omega
                go_wp2_with fail
                refine (read0_many (l1 := []) (l2 := []) HMj.out HSj.out j _ HRD.out.1 HRD.out.2).mono ?_
                rintro e w6 ⟨rfl, hb6⟩
                have HB6 := Lib.hid (HBj.out.trans (hb6.mono HBj.out.size))
                clear hb6
                go_wp2_with fail
                obtain ⟨w7, hw7⟩ : ∃ W, w6.alloc (.cells (R[j]'(by omega)).A 50 (0, 0)) = W := ⟨_, rfl⟩
                rw [hw7]
                have HB7 : Hid (Below W0.heap.size W0 w7) := Lib.hid (by rw [← hw7]; exact HB6.out.alloc HB6.out.size _)
                have l1 : ∀ m, (loadS (.pointer (some ⟨w6.heap.size, 0, none⟩))).run Try.prog (w7.drewN m) = .ok (.agg (R[j]'(by omega)).A) (w7.drewN m) := fun m => run_loadS_block (by rw [← hw7]; exact heap_alloc_new _ _)
                have l2 : ∀ m, (loadS (.pointer (some ⟨gw, j * 128, none⟩))).run Try.prog (w7.drewN m) = .ok (.agg (R[j]'(by omega)).A) (w7.drewN m) := fun m => row_load (w := w7.drewN m) ((HLw.out.below HB7.out (Nat.le_refl _)).at_) j (by omega)
                have hq := fun W => run_neqS W (R[j]'(by omega)) (R[j]'(by omega))
                rw [decide_eq_true rfl] at hq
                clear hw7
                generalize R[j]'(by omega) = x at *
                go_quiet (fail)
                go_wp2
                go_roundw
                case rel => exact ⟨j + 1, by omega, by go_num, Lib.hid (HB7.out.trans ⟨rfl, rfl, rfl, Nat.le_refl _, fun _ _ => rfl⟩)⟩
                case measure => simp [intOf]; omega
              · have HA := Lib.hid (awake_any wr)
                have HBf := Lib.hid (HB5.out.trans (HBj.out.mono HS5.out))
                have d2 : decide (j < 64) = false := by simp; omega
                have d3 : decide ((j : Int) < 64) = false := by simp; omega
                go_wp2_with fail
                refine HA.out.mono ?_
                rintro e w9 ⟨rfl, hb9⟩
                go_wp2_with fail
                go_ret
                exact ⟨rfl, HBf.out.trans (hb9.mono HSj.out)⟩
end Go.Proofs.Ytpboknepfjeljaa
