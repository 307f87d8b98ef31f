/- The law BlocksFirst. -/
import Derived.Test.YtkknelcolbdphaaLReg
import Derived.Test.YtkknelcolbdphaaFirV
namespace Go.Proofs.Ytkknelcolbdphaa
open Go.RowKit
set_option maxRecDepth 100000

theorem far_any (l : Lay) (U : List Bool) (s : Option Addr) (c : Nat) (w : World) :
    Calls Try.prog 19 #[.agg (stA l (.slice s U.length c))] w fun e w' => e = .returned (.bool (decide (300 < U.length))) ∧ Below w.heap.size w w' := by
  have HB := Lib.hid ((Below.refl w.heap.size w).alloc (Nat.le_refl _) (.cells (stA l (.slice s U.length c)) 33))
  unfold stA at *
  by_cases h : 300 < U.length
  · have hd : decide (300 < U.length) = true := by simpa using h
    have hd2 : decide ((300 : Int) < U.length) = true := decide_eq_true (by omega)
    go_enter Try.func19, Try.ntmps19
    go_wp2
    go_ret
    exact ⟨ret_bool hd.symm, HB.out⟩
  · have hd : decide (300 < U.length) = false := by simpa using h
    have hd2 : decide ((300 : Int) < U.length) = false := decide_eq_false (by omega)
    go_enter Try.func19, Try.ntmps19
    go_wp2
    go_ret
    exact ⟨ret_bool hd.symm, HB.out⟩
/-- The box of a state. -/
theorem box_st (l : Lay) (v : Value) (w : World) : ∃ w0, w.alloc (.cells #[.int .i64 l.s, .int .i64 l.j, .int .i64 l.n, v] 33 (0, 0)) = w0 ∧ Row w0 w.heap.size (stA l v) 33 ∧ Below w.heap.size w w0 :=
  ⟨_, rfl, Row.new _ _ _, (Below.refl _ _).alloc (Nat.le_refl _) _⟩
theorem withL_take {U : List Bool} {a q : Nat} : (withL U ((freeL U a).take q) true).length = U.length := withL_len _ _ _
set_option maxHeartbeats 4000000 in
theorem first_any (w : World) (l : Lay) (v : Value) (U : List Bool) (near q : Nat) (hv : BoolsAt w v U) (hU0 : U.length ≤ maxLen) (hnear : near < 65536) (hq : q < 256) :
    Calls Try.prog 8 #[.agg (stA l v), .int .u16 (near : Int), .int .u8 (q : Int)] w fun e w' => e = .returned (.bool true) ∧ Below w.heap.size w w' := by
  obtain ⟨s, c, rfl⟩ := hv.val
  have HAW := Lib.hid awake_any
  obtain ⟨w0, hw0, hr0, hb0⟩ := box_st l (.slice s U.length c) w
  have HB0 := Lib.hid hb0
  have HR0 := Lib.hid hr0
  have HF := Lib.hid (far_any l U s c w0)
  have HV0 := Lib.hid (hv.below hb0 (Nat.le_refl _))
  have HCK := Lib.hid (check_any l U s c)
  obtain ⟨x0, x1, x2, x3⟩ := hr0.four'
  clear hr0 hb0 hv
  unfold stA at HF HCK ⊢
  by_cases hfar : 300 < U.length
  · have hdf : decide (300 < U.length) = true := by simpa using hfar
    rw [hdf] at HF
    go_enter Try.func8, Try.ntmps8
    go_wp2_with (rw [hw0])
    refine HF.out.mono ?_
    rintro e w1 ⟨rfl, hb1⟩
    have HBZ := Lib.hid (HB0.out.trans (hb1.mono HB0.out.size))
    clear hb1 x0 x1 x2 x3
    go_wp2_with fail
    refine (HAW.out _).mono ?_
    rintro e w9 ⟨rfl, hb9⟩
    have HB9 := Lib.hid (HBZ.out.trans (hb9.mono HBZ.out.size))
    clear hb9
    go_wp2_with fail
    go_ret
    exact ⟨rfl, HB9.out⟩

  · have hdf : decide (300 < U.length) = false := by simpa using hfar
    rw [hdf] at HF
    have hU : U.length ≤ 1000 := by omega
    obtain ⟨E, hEE⟩ : ∃ E, chkE l U = E := ⟨_, rfl⟩
    have HEE := Lib.hid hEE
    rw [hEE] at HCK
    go_enter Try.func8, Try.ntmps8
    go_wp2_with (rw [hw0])
    refine HF.out.mono ?_
    rintro e w1 ⟨rfl, hb1⟩
    have HB1 := Lib.hid hb1
    clear hb1 x0 x1 x2 x3
    obtain ⟨x0, x1, x2, x3⟩ := (HR0.out.below HB1.out HR0.out.lt).four'
    go_wp2_with fail
    refine (HCK.out _).mono ?_
    rintro e w2 ⟨rfl, hb2⟩
    have HB2 := Lib.hid (HB1.out.trans (hb2.mono HB1.out.size))
    clear hb2 x0 x1 x2 x3
    by_cases hE : E = 0
    · subst hE
      obtain ⟨hn8, hn245⟩ := chkE_len hEE
      have hd0 : ((U.length : Int) == 0) = false := beq_eq_false_iff_ne.2 (by omega)
      have hm1 : ((near : Int)).tmod (U.length : Int) = ((near % U.length : Nat) : Int) := by rw [Int.ofNat_tmod]
      have hm2 : ((near : Int)) % (U.length : Int) = ((near % U.length : Nat) : Int) := (Int.natCast_emod _ _).symm
      have ha : near % U.length < U.length := Nat.mod_lt _ (by omega)
      generalize near % U.length = a at *
      have HCN := Lib.hid (count_any (l := l) (HV0.out.below HB2.out (Nat.le_refl _)) hU)
      have HVC : Hid (countV l U = (freeL U 0).length) := Lib.hid (by unfold countV; rw [if_pos hEE])
      rw [HVC.out, HEE.out] at HCN
      have HAE : Hid (allocE l U a q = if (freeL U 0).length < q then 11 else 0) := Lib.hid (by
        unfold allocE
        rw [if_pos hEE, if_pos (by unfold inB; simp; omega)]
        by_cases h : (freeL U 0).length < q
        · rw [if_pos h, if_pos (by omega)]
        · rw [if_neg h, if_neg (by omega)])
      have HFL := Lib.hid (freeL_len U a (by omega))
      obtain ⟨x0, x1, x2, x3⟩ := (HR0.out.below HB2.out HR0.out.lt).four'
      unfold stA at HCN
      clear hEE
      go_wp2_with fail
      refine HCN.out.mono ?_
      rintro e w3 ⟨rfl, hb3⟩
      have HB3 := Lib.hid (HB2.out.trans (hb3.mono HB2.out.size))
      clear hb3 x0 x1 x2 x3
      have HAL := Lib.hid (alloc_any (l := l) a q (HV0.out.below HB3.out (Nat.le_refl _)) hU)
      obtain ⟨x0, x1, x2, x3⟩ := (HR0.out.below HB3.out HR0.out.lt).four'
      unfold stA at HAL
      go_wp2_with fail
      refine HAL.out.mono ?_
      rintro e w4 ⟨vt, vl, rfl, ho4, hl4, hb4⟩
      obtain ⟨st, ct, rfl⟩ := ho4.at_.val
      obtain ⟨sl, cl, rfl⟩ := hl4.at_.val
      obtain ⟨wA, hwA, hrA, hbA, hbA'⟩ := box_one (stA l (.slice st (allocU l U a q).length ct)) 33 w3.heap.size w3 w4 hb4 (Nat.le_refl _)
      have HA := Lib.hid hrA
      have HBA := Lib.hid (HB3.out.trans (hbA.mono HB3.out.size))
      have HT := Lib.hid (ho4.at_.below hbA' (Nat.le_refl _))
      have HL := Lib.hid (hl4.at_.below hbA' (Nat.le_refl _))
      clear x0 x1 x2 x3 hb4 hrA hbA hbA' ho4 hl4
      have HRS := Lib.hid (HR0.out.below HBA.out HR0.out.lt)
      have HVS := Lib.hid (HV0.out.below HBA.out (Nat.le_refl _))
      obtain ⟨x0, x1, x2, x3⟩ := HRS.out.four'
      obtain ⟨y0, y1, y2, y3⟩ := HA.out.four'
      unfold stA at hwA ⊢
      by_cases hlt : (freeL U 0).length < q
      · have hE2 : allocE l U a q = 11 := by rw [HAE.out, if_pos hlt]
        have hU2 : allocU l U a q = U := by unfold allocU; rw [hE2]; rfl
        have hL2 : allocL l U a q = [] := by unfold allocL; rw [hE2]; rfl
        have hd1 : decide (((freeL U 0).length : Int) < (q : Int)) = true := decide_eq_true (by omega)
        have hd2 : decide ((freeL U 0).length < q) = true := decide_eq_true hlt
        rw [hE2]
        rw [hU2] at hwA HT y3 ⊢
        rw [hL2, List.length_nil]
        have HSM := Lib.hid (same_any (l := l) HVS.out HT.out hU)
        unfold stA at HSM
        go_wp2_with (rw [hwA])
        refine HSM.out.mono ?_
        rintro e w8 ⟨rfl, hb8⟩
        have HBZ := Lib.hid (HB0.out.trans ((HBA.out.trans (hb8.mono HBA.out.size)).mono HB0.out.size))
        clear hb8 x0 x1 x2 x3 y0 y1 y2 y3
        go_wp2_with fail
        refine (HAW.out _).mono ?_
        rintro e w9 ⟨rfl, hb9⟩
        have HB9 := Lib.hid (HBZ.out.trans (hb9.mono HBZ.out.size))
        clear hb9
        go_wp2_with fail
        go_ret
        exact ⟨rfl, HB9.out⟩

      · have hge : q ≤ (freeL U a).length := by have := HFL.out; omega
        have hE2 : allocE l U a q = 0 := by rw [HAE.out, if_neg hlt]
        obtain ⟨L, hL⟩ : ∃ L, (freeL U a).take q = L := ⟨_, rfl⟩
        obtain ⟨T, hT⟩ : ∃ T, withL U L true = T := ⟨_, rfl⟩
        have hU2 : allocU l U a q = T := by unfold allocU; rw [if_pos hE2, Int.toNat_natCast, Int.toNat_natCast, hL, hT]
        have hL2 : allocL l U a q = L := by unfold allocL; rw [if_pos hE2, Int.toNat_natCast, Int.toNat_natCast, hL]
        have hLl : L.length = q := by rw [← hL, List.length_take]; omega
        have hTl : T.length = U.length := by rw [← hT]; exact withL_len _ _ _
        have HA1 := Lib.hid (fun k hk hu hp => @firA U a q k hk hu hp)
        have HB1 := Lib.hid (fun k hk hu hp => @firB U a q k hk hu hp)
        have HC1 := Lib.hid (fun k hk hu => @firC U a q k hk hu hge)
        rw [hL, hT] at HA1 HB1 HC1
        have HEND : Hid (min (freeP U a U.length).length q = q) := Lib.hid (by show min (freeL U a).length q = q; omega)
        have hd1 : decide (((freeL U 0).length : Int) < (q : Int)) = false := decide_eq_false (by omega)
        have hd2 : decide ((freeL U 0).length < q) = false := decide_eq_false hlt
        rw [hE2]
        rw [hU2] at hwA HT y3 ⊢
        rw [hL2] at HL ⊢
        rw [hTl] at hwA HT y3 ⊢
        rw [hLl] at HL ⊢
        have HRT : Hid (Row wA w4.heap.size (stA l (.slice st U.length ct)) 33) := Lib.hid (by have := HA.out; rw [hU2, hTl] at this; exact this)
        have HTL := Lib.hid hTl
        have HLL := Lib.hid hLl
        clear HA hE2 hL hT hU2 hL2 hTl hLl hlt hge
        go_wp2_with (rw [hwA])
        clear x0 x1 x2 x3 y0 y1 y2 y3 hd1 hd2 hwA
        have HP0 : Hid (min (freeP U a 0).length q = 0) := Lib.hid (Nat.zero_min _)
        go_loopw [14, 15] (fun nx i wr => ∃ k : Nat, k ≤ U.length ∧ i = .int .i64 k ∧ nx = .int .i64 ((min (freeP U a k).length q : Nat) : Int) ∧ Hid (Mem wA wr)) (fun _ i _ => U.length - (intOf i).toNat)
        case atStart => exact ⟨0, Nat.zero_le _, rfl, by rw [HP0.out]; rfl, Lib.hid (Mem.refl _)⟩
        case round =>
          obtain ⟨k, hk, rfl, rfl, hM⟩ := hrel
          clear HP0
          have x3 := (HRS.out.below (hM.out.below wA.heap.size) HRS.out.lt).four'.2.2.2
          have y3 := (HRT.out.below (hM.out.below wA.heap.size) HRT.out.lt).four'.2.2.2
          by_cases hkn : k < U.length
          · have hd : decide ((k : Int) < U.length) = true := by simpa using hkn
            have hz : ((U.length : Int) == 0) = false := beq_eq_false_iff_ne.2 (by omega)
            have r1 : ((a : Int) + (k : Int)).tmod (U.length : Int) = (((a + k) % U.length : Nat) : Int) := by rw [← Int.natCast_add, Int.ofNat_tmod]
            have r2 : ((a : Int) + (k : Int)) % (U.length : Int) = (((a + k) % U.length : Nat) : Int) := by rw [← Int.natCast_add]; exact (Int.natCast_emod _ _).symm
            have hbl : (a + k) % U.length < U.length := Nat.mod_lt _ (by omega)
            obtain ⟨gs, os, es, hbs⟩ := (HVS.out.heap hM.out.heap).at_ ((a + k) % U.length) hbl
            obtain ⟨gt, ot, et, hbt⟩ := ((show RowAt Value.bool wA (.slice st U.length ct) T from HT.out).heap hM.out.heap).at_ ((a + k) % U.length) (by rw [HTL.out]; exact hbl)
            subst es
            subst et
            have hsb : wr.cell? ⟨gs, os + (a + k) % U.length, none⟩ = some (.bool (U.getD ((a + k) % U.length) false)) := by rw [hbs, List.getD_eq_getElem?_getD, List.getElem?_eq_getElem hbl]; rfl
            have htb : wr.cell? ⟨gt, ot + (a + k) % U.length, none⟩ = some (.bool (T.getD ((a + k) % U.length) false)) := by rw [hbt, List.getD_eq_getElem?_getD, List.getElem?_eq_getElem (by rw [HTL.out]; exact hbl)]; rfl
            cases hu : U.getD ((a + k) % U.length) false with
            | false =>
              by_cases hp : (freeP U a k).length < q
              · obtain ⟨f1, f2, f3, f4, f5⟩ := HA1.out k hkn hu hp
                obtain ⟨gl, ol, el, hbl2⟩ := ((show RowAt natV wA (.slice sl q cl) L from HL.out).heap hM.out.heap).at_ (freeP U a k).length f2
                subst el
                have hlb : wr.cell? ⟨gl, ol + (freeP U a k).length, none⟩ = some (.int .i64 (((a + k) % U.length : Nat) : Int)) := by
                  rw [hbl2]
                  have : L[(freeP U a k).length] = (a + k) % U.length := by rw [← f1, List.getD_eq_getElem?_getD, List.getElem?_eq_getElem f2]; rfl
                  rw [this]; rfl
                rw [hu] at hsb
                rw [f3] at htb
                rw [f5]
                have HNX := Lib.hid f4
                clear f1 f2 f3 f4 f5 hbl2 hu
                generalize (freeP U a k).length = j at *
                have hjd : decide ((j : Int) < (q : Int)) = true := by simpa using hp
                have q1 := fun m => (show (wr.drewN m).cell? ⟨w.heap.size, 3, none⟩ = _ from x3)
                have q2 := fun m => (show (wr.drewN m).cell? ⟨w4.heap.size, 3, none⟩ = _ from y3)
                have q3 := fun m => (show (wr.drewN m).cell? ⟨gs, os + (a + k) % U.length, none⟩ = _ from hsb)
                have q4 := fun m => (show (wr.drewN m).cell? ⟨gt, ot + (a + k) % U.length, none⟩ = _ from htb)
                generalize (a + k) % U.length = b at *
                clear hbs hbt
                go_wp2
                go_quiet (fail)
                have HM2 : Hid (Mem wA (wr.drewN nq)) := Lib.hid (hM.out.trans ⟨rfl, rfl, rfl, rfl⟩)
                go_wp2
                go_roundw
                case rel => exact ⟨k + 1, by omega, by go_num, by rw [HNX.out]; go_num, HM2⟩
                case measure => simp [intOf]; omega

              · obtain ⟨f3, f4, f5, f6⟩ := HB1.out k hkn hu (by omega)
                rw [hu] at hsb
                rw [f3] at htb
                rw [f5]
                have HNX := Lib.hid f4
                have hjd : decide ((q : Int) < (q : Int)) = false := by simp
                clear f3 f4 f5 f6 hu
                have q1 := fun m => (show (wr.drewN m).cell? ⟨w.heap.size, 3, none⟩ = _ from x3)
                have q2 := fun m => (show (wr.drewN m).cell? ⟨w4.heap.size, 3, none⟩ = _ from y3)
                have q3 := fun m => (show (wr.drewN m).cell? ⟨gs, os + (a + k) % U.length, none⟩ = _ from hsb)
                have q4 := fun m => (show (wr.drewN m).cell? ⟨gt, ot + (a + k) % U.length, none⟩ = _ from htb)
                generalize (a + k) % U.length = b at *
                clear hbs hbt
                go_wp2
                go_quiet (fail)
                have HM2 : Hid (Mem wA (wr.drewN nq)) := Lib.hid (hM.out.trans ⟨rfl, rfl, rfl, rfl⟩)
                go_wp2
                go_roundw
                case rel => exact ⟨k + 1, by omega, by go_num, by rw [HNX.out], HM2⟩
                case measure => simp [intOf]; omega

            | true =>
              obtain ⟨f3, f4, f6, f7⟩ := HC1.out k hkn hu
              rw [hu] at hsb
              rw [f3] at htb
              have HNX := Lib.hid f4
              by_cases hp : min (freeP U a k).length q < q
              · have f8 := f7 hp
                obtain ⟨gl, ol, el, hbl2⟩ := ((show RowAt natV wA (.slice sl q cl) L from HL.out).heap hM.out.heap).at_ (min (freeP U a k).length q) (by rw [f6]; exact hp)
                subst el
                have hlb : wr.cell? ⟨gl, ol + min (freeP U a k).length q, none⟩ = some (.int .i64 ((L.getD (min (freeP U a k).length q) 0 : Nat) : Int)) := by
                  rw [hbl2, List.getD_eq_getElem?_getD, List.getElem?_eq_getElem (by rw [f6]; exact hp)]; rfl
                have hne : (((L.getD (min (freeP U a k).length q) 0 : Nat) : Int) == (((a + k) % U.length : Nat) : Int)) = false := beq_eq_false_iff_ne.2 (by omega)
                clear f3 f4 f6 f7 f8 hbl2 hu
                generalize L.getD (min (freeP U a k).length q) 0 = y at *
                generalize min (freeP U a k).length q = j at *
                have hjd : decide ((j : Int) < (q : Int)) = true := by simpa using hp
                have q1 := fun m => (show (wr.drewN m).cell? ⟨w.heap.size, 3, none⟩ = _ from x3)
                have q2 := fun m => (show (wr.drewN m).cell? ⟨w4.heap.size, 3, none⟩ = _ from y3)
                have q3 := fun m => (show (wr.drewN m).cell? ⟨gs, os + (a + k) % U.length, none⟩ = _ from hsb)
                have q4 := fun m => (show (wr.drewN m).cell? ⟨gt, ot + (a + k) % U.length, none⟩ = _ from htb)
                generalize (a + k) % U.length = b at *
                clear hbs hbt
                go_wp2
                go_quiet (fail)
                have HM2 : Hid (Mem wA (wr.drewN nq)) := Lib.hid (hM.out.trans ⟨rfl, rfl, rfl, rfl⟩)
                go_wp2
                go_roundw
                case rel => exact ⟨k + 1, by omega, by go_num, by rw [HNX.out], HM2⟩
                case measure => simp [intOf]; omega

              · have hjq : min (freeP U a k).length q = q := by omega
                rw [hjq] at HNX ⊢
                have hjd : decide ((q : Int) < (q : Int)) = false := by simp
                clear f3 f4 f6 f7 hu
                have q1 := fun m => (show (wr.drewN m).cell? ⟨w.heap.size, 3, none⟩ = _ from x3)
                have q2 := fun m => (show (wr.drewN m).cell? ⟨w4.heap.size, 3, none⟩ = _ from y3)
                have q3 := fun m => (show (wr.drewN m).cell? ⟨gs, os + (a + k) % U.length, none⟩ = _ from hsb)
                have q4 := fun m => (show (wr.drewN m).cell? ⟨gt, ot + (a + k) % U.length, none⟩ = _ from htb)
                generalize (a + k) % U.length = b at *
                clear hbs hbt
                go_wp2
                go_quiet (fail)
                have HM2 : Hid (Mem wA (wr.drewN nq)) := Lib.hid (hM.out.trans ⟨rfl, rfl, rfl, rfl⟩)
                go_wp2
                go_roundw
                case rel => exact ⟨k + 1, by omega, by go_num, by rw [HNX.out], HM2⟩
                case measure => simp [intOf]; omega

          · obtain rfl : k = U.length := by omega
            have hd : decide ((U.length : Int) < U.length) = false := by simp
            rw [HEND.out]
            have HBZ := Lib.hid (HB0.out.trans ((HBA.out.trans (hM.out.below _)).mono HB0.out.size))
            clear x3 y3
            go_wp2_with fail
            refine (HAW.out _).mono ?_
            rintro e w9 ⟨rfl, hb9⟩
            have HB9 := Lib.hid (HBZ.out.trans (hb9.mono HBZ.out.size))
            clear hb9
            go_wp2_with fail
            go_ret
            exact ⟨rfl, HB9.out⟩

    · have hd := decB hE
      have HBZ := Lib.hid (HB0.out.trans (HB2.out.mono HB0.out.size))
      clear hEE
      go_wp2_with fail
      refine (HAW.out _).mono ?_
      rintro e w9 ⟨rfl, hb9⟩
      have HB9 := Lib.hid (HBZ.out.trans (hb9.mono HBZ.out.size))
      clear hb9
      go_wp2_with fail
      go_ret
      exact ⟨rfl, HB9.out⟩
end Go.Proofs.Ytkknelcolbdphaa
