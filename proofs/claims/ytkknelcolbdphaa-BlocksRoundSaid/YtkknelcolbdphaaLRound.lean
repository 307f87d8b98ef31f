/- The law BlocksRound. -/
import Derived.Test.YtkknelcolbdphaaLFirst
import Derived.Test.YtkknelcolbdphaaDec
namespace Go.Proofs.Ytkknelcolbdphaa
open Go.RowKit
set_option maxRecDepth 100000

theorem bytes_conv {w : World} {v : Value} {l : List UInt8} (h : BytesAt w v l) : (convert 48 9 v).run Try.prog w = .ok (.string ⟨l.toArray⟩) w := by
  rcases h with ⟨a, c, rfl, rfl⟩ | ⟨b, o, c, rfl, _, hc⟩
  · cases a with
    | none => exact Lib.run_convert_nil_bytes w _ _ _ _ Try.underlying48 Try.underlying5 Try.underlying9
    | some p => exact run_convert_bytes_back w _ _ _ p c [] Try.underlying48 Try.underlying5 Try.underlying9 (fun j hj => by simp at hj)
  · refine run_convert_bytes_back w _ _ _ ⟨b, o, none⟩ c l Try.underlying48 Try.underlying5 Try.underlying9 fun j hj => ?_
    rw [addr_add0]; exact hc j hj
theorem getD_out (U : List Bool) (i : Nat) (h : U.length ≤ i) : U.getD i false = false := by
  rw [List.getD_eq_getElem?_getD, List.getElem?_eq_none h]; rfl
/-- Decode of Encode. -/
theorem dec_enc {l : Lay} {U : List Bool} (h : chkE l U = 0) : decE l (bytesN U 96) = 0 ∧ decU l (bytesN U 96) = U ∧ decL l (bytesN U 96) = l := by
  obtain ⟨hr, hn⟩ := chkE_zero h
  have hl := chkE_len h
  have hN : (blkN l).toNat = U.length := by omega
  have hb : badN (bytesN U 96) (blkN l).toNat 768 = false := by
    unfold badN
    rw [List.any_eq_false]
    intro i hi
    rw [List.mem_range] at hi
    rw [hN, bitB_bytesN U 96 i (by omega)]
    by_cases hh : U.length ≤ i
    · rw [getD_out U i hh]; simp
    · simp [hh]
  have he : decE l (bytesN U 96) = 0 := by unfold decE; rw [if_pos hr, if_pos (bytesN_len _ _), hb]; rfl
  refine ⟨he, ?_, if_pos he⟩
  unfold decU
  rw [if_pos he, hN]
  apply list_ext (bitsN_len _ _)
  intro i hi
  rw [bitsN_len] at hi
  rw [bitsN_get, decide_eq_true hi, Bool.true_and]
  exact bitB_bytesN U 96 i (by omega)
/-- Encode of Decode. -/
theorem enc_dec {l : Lay} {b : List UInt8} (h : decE l b = 0) : decL l b = l ∧ (decU l b).length = (blkN l).toNat ∧ chkE l (decU l b) = 0 ∧ bytesN (decU l b) 96 = b := by
  have h0 : regE l = 0 := by
    by_cases h0 : regE l = 0
    · exact h0
    · unfold decE at h; rw [if_neg h0] at h; exact h
  have h96 : b.length = 96 := by
    by_cases h96 : b.length = 96
    · exact h96
    · unfold decE at h; rw [if_pos h0, if_neg h96] at h; cases h
  have hbad : badN b (blkN l).toNat 768 = false := by
    cases hb : badN b (blkN l).toNat 768 with
    | false => rfl
    | true => unfold decE at h; rw [if_pos h0, if_pos h96, hb] at h; cases h
  have hk := dataN_ok h0
  have hU : decU l b = bitsN b (blkN l).toNat := if_pos h
  have hlen : (decU l b).length = (blkN l).toNat := by rw [hU, bitsN_len]
  refine ⟨if_pos h, hlen, ?_, ?_⟩
  · unfold chkE
    rw [if_pos h0, if_pos (by rw [hlen]; omega)]
  · rw [hU]
    apply List.ext_getElem
    · rw [bytesN_len, h96]
    · intro j h1 h2
      rw [bytesN_len] at h1
      have hg := bytesN_get (bitsN b (blkN l).toNat) 96 j h1
      rw [List.getElem?_eq_getElem (by rw [bytesN_len]; exact h1)] at hg
      injection hg with hg
      rw [hg]
      apply UInt8.toNat.inj
      rw [ofNat_toNat _ (byteV_lt _ _)]
      apply Nat.eq_of_testBit_eq
      intro i
      by_cases hi : i < 8
      · rw [byteV_bit _ _ _ hi, bitsN_get]
        have hbb := bitB_at b (8 * j + i) (by omega)
        have e1 : (8 * j + i) / 8 = j := by omega
        have e2 : (8 * j + i) % 8 = i := by omega
        have hbb' : bitB b (8 * j + i) = (b[j].toNat).testBit i := by
          rw [hbb]; simp only [e1, e2]
        by_cases hn : 8 * j + i < (blkN l).toNat
        · rw [decide_eq_true hn, hbb']; rfl
        · rw [decide_eq_false hn, ← hbb']
          unfold badN at hbad
          rw [List.any_eq_false] at hbad
          have := hbad (8 * j + i) (List.mem_range.2 (by omega))
          rw [decide_eq_true (show (blkN l).toNat ≤ 8 * j + i by omega), Bool.true_and] at this
          simp only [Bool.not_eq_true] at this
          rw [this]; rfl
      · rw [byteV_high _ _ _ (by omega)]
        symm
        apply Nat.testBit_lt_two_pow
        have h3 := b[j].toNat_lt
        have h4 : (2 : Nat) ^ 8 ≤ 2 ^ i := Nat.pow_le_pow_right (by omega) (by omega)
        omega
set_option maxHeartbeats 8000000 in
theorem round_any (w : World) (l : Lay) (v vb : Value) (U : List Bool) (b : List UInt8) (hv : BoolsAt w v U) (hU0 : U.length ≤ maxLen) (hb : BytesAt w vb b) (hb0 : b.length ≤ maxLen) :
    Calls Try.prog 10 #[.agg (stA l v), vb] w fun e w' => e = .returned (.bool true) ∧ Below w.heap.size w w' := by
  obtain ⟨s, c, rfl⟩ := hv.val
  obtain ⟨sb, cb, rfl⟩ := hb.val
  have HAW := Lib.hid awake_any
  obtain ⟨w0, hw0, hr0, hbw0⟩ := box_st l (.slice s U.length c) w
  have HB0 := Lib.hid hbw0
  have HR0 := Lib.hid hr0
  have HF := Lib.hid (far_any l U s c w0)
  have HV0 := Lib.hid (hv.below hbw0 (Nat.le_refl _))
  have HVB := Lib.hid (hb.below hbw0 (Nat.le_refl _))
  obtain ⟨x0, x1, x2, x3⟩ := hr0.four'
  clear hr0 hbw0 hv hb
  unfold stA at HF ⊢
  by_cases hfar : 300 < U.length
  · have hdf : decide (300 < U.length) = true := by simpa using hfar
    rw [hdf] at HF
    go_enter Try.func10, Try.ntmps10
    go_wp2_with (rw [hw0])
    refine HF.out.mono ?_
    rintro e w1 ⟨rfl, hb1⟩
    have HBZ := Lib.hid (HB0.out.trans (hb1.mono HB0.out.size))
    clear hb1 x0 x1 x2 x3
    go_wp2_with fail
    refine (HAW.out _).mono ?_
    rintro e w9 ⟨rfl, hb9⟩
    have HB9 := Lib.hid (HBZ.out.trans (hb9.mono HBZ.out.size))
    clear hb9
    go_wp2_with fail
    go_ret
    exact ⟨rfl, HB9.out⟩

  · have hdf : decide (300 < U.length) = false := by simpa using hfar
    rw [hdf] at HF
    have hU : U.length ≤ 1000 := by omega
    by_cases hll : 300 < b.length
    · have hd1 : decide ((300 : Int) < (b.length : Int)) = true := decide_eq_true (by omega)
      have hd2 : decide (300 < b.length) = true := decide_eq_true hll
      go_enter Try.func10, Try.ntmps10
      go_wp2_with (rw [hw0])
      refine HF.out.mono ?_
      rintro e w1 ⟨rfl, hb1⟩
      have HBZ := Lib.hid (HB0.out.trans (hb1.mono HB0.out.size))
      clear hb1 x0 x1 x2 x3
      go_wp2_with fail
      refine (HAW.out _).mono ?_
      rintro e w9 ⟨rfl, hb9⟩
      have HB9 := Lib.hid (HBZ.out.trans (hb9.mono HBZ.out.size))
      clear hb9
      go_wp2_with fail
      go_ret
      exact ⟨rfl, HB9.out⟩

    · have hd1 : decide ((300 : Int) < (b.length : Int)) = false := decide_eq_false (by omega)
      have hd2 : decide (300 < b.length) = false := decide_eq_false hll
      go_enter Try.func10, Try.ntmps10
      go_wp2_with (rw [hw0])
      refine HF.out.mono ?_
      rintro e w1 ⟨rfl, hb1⟩
      have HB1 := Lib.hid hb1
      clear hb1 x0 x1 x2 x3
      obtain ⟨x0, x1, x2, x3⟩ := (HR0.out.below HB1.out HR0.out.lt).four'
      have HEN := Lib.hid (encode_any (l := l) (HV0.out.below HB1.out (Nat.le_refl _)))
      unfold stA at HEN
      obtain ⟨E, hEE⟩ : ∃ E, chkE l U = E := ⟨_, rfl⟩
      go_wp2_with fail
      refine HEN.out.mono ?_
      rintro e wx ⟨vx, rfl, hyx, hbx⟩
      rw [hEE]
      have HBX := Lib.hid (HB1.out.trans (hbx.mono HB1.out.size))
      clear hbx x0 x1 x2 x3
      obtain ⟨x0, x1, x2, x3⟩ := (HR0.out.below HBX.out HR0.out.lt).four'
      by_cases hE : E = 0
      · subst hE
        obtain ⟨hde1, hde2, hde3⟩ := dec_enc hEE
        rw [encL_ok hEE] at hyx
        have HDX := Lib.hid (decode_any l hyx)
        obtain ⟨sx, cx, rfl⟩ := hyx.val
        rw [bytesN_len] at HDX hyx ⊢
        have HYX := Lib.hid hyx
        unfold layA at HDX
        clear hEE hyx
        go_wp2_with fail
        refine HDX.out.mono ?_
        rintro e wt ⟨vt, rfl, hot, hbt⟩
        rw [hde1, hde3]
        rw [hde2] at hot
        obtain ⟨st, ct, rfl⟩ := hot.at_.val
        obtain ⟨wT, hwT, hrT, hbT, hbT'⟩ := box_one (stA l (.slice st U.length ct)) 33 wx.heap.size wx wt hbt (Nat.le_refl _)
        have HRT := Lib.hid hrT
        have HVT := Lib.hid (hot.at_.below hbT' (Nat.le_refl _))
        have HBT := Lib.hid (HBX.out.trans (hbT.mono HBX.out.size))
        clear x0 x1 x2 x3 hbt hrT hbT hbT' hot hde1 hde2 hde3
        obtain ⟨x0, x1, x2, x3⟩ := (HR0.out.below HBT.out HR0.out.lt).four'
        obtain ⟨t0, t1, t2, t3⟩ := HRT.out.four'
        have HSM := Lib.hid (same_any (l := l) (HV0.out.below HBT.out (Nat.le_refl _)) HVT.out hU)
        unfold stA at hwT HSM ⊢
        go_wp2_with (rw [hwT])
        refine HSM.out.mono ?_
        rintro e wP ⟨rfl, hbP⟩
        have HBP := Lib.hid (HBT.out.trans (hbP.mono HBT.out.size))
        clear hbP x0 x1 x2 x3 t0 t1 t2 t3 hwT
        obtain ⟨x0, x1, x2, x3⟩ := (HR0.out.below HBP.out HR0.out.lt).four'
        have HDC := Lib.hid (decode_any l (HVB.out.below HBP.out (Nat.le_refl _)))
        unfold layA at HDC
        obtain ⟨D, hDD⟩ : ∃ D, decE l b = D := ⟨_, rfl⟩
        have HDD := Lib.hid hDD
        go_wp2_with fail
        refine HDC.out.mono ?_
        rintro e wq ⟨vq, rfl, hoq, hbq⟩
        obtain ⟨sq, cq, rfl⟩ := hoq.at_.val
        obtain ⟨wQ, hwQ, hrQ, hbQ, hbQ'⟩ := box_one (stA (decL l b) (.slice sq (decU l b).length cq)) 33 wP.heap.size wP wq hbq (Nat.le_refl _)
        have HRQ := Lib.hid hrQ
        have HVQ := Lib.hid (hoq.at_.below hbQ' (Nat.le_refl _))
        have HBQ := Lib.hid (HBP.out.trans (hbQ.mono HBP.out.size))
        rw [HDD.out]
        clear x0 x1 x2 x3 hbq hrQ hbQ hbQ' hoq
        unfold stA at hwQ ⊢
        by_cases hD : D = 0
        · subst hD
          obtain ⟨hde1, hde2, hde3, hde4⟩ := enc_dec hDD
          have HENC := Lib.hid (encode_any (l := l) (by have := HVQ.out; exact this))
          obtain ⟨q0, q1, q2, q3⟩ := HRQ.out.four'
          rw [hde1] at hwQ q0 q1 q2 ⊢
          have HEX := Lib.hid (encL_ok hde3)
          have HDE4 := Lib.hid hde4
          unfold stA at HENC
          clear hDD hde1 hde2 hde4
          go_wp2_with (rw [hwQ])
          refine HENC.out.mono ?_
          rintro e wr ⟨vr, rfl, hyr, hbr⟩
          rw [hde3]
          have HBR := Lib.hid (HBQ.out.trans (hbr.mono HBQ.out.size))
          rw [HEX.out, HDE4.out] at hyr
          have hcv1 := bytes_conv hyr
          obtain ⟨sr, cr, rfl⟩ := hyr.val
          have hcv2 := bytes_conv (HVB.out.below HBR.out (Nat.le_refl _))
          have HBZ := Lib.hid (HB0.out.trans (HBR.out.mono HB0.out.size))
          clear q0 q1 q2 q3 hbr hyr hwQ hde3
          generalize ByteArray.mk b.toArray = str at *
          go_wp2_with fail
          refine (HAW.out _).mono ?_
          rintro e w9 ⟨rfl, hb9⟩
          have HB9 := Lib.hid (HBZ.out.trans (hb9.mono HBZ.out.size))
          clear hb9
          go_wp2_with fail
          go_ret
          exact ⟨rfl, HB9.out⟩
        · have hd := decB hD
          have HBZ := Lib.hid (HB0.out.trans (HBQ.out.mono HB0.out.size))
          clear hDD
          go_wp2_with (rw [hwQ])
          refine (HAW.out _).mono ?_
          rintro e w9 ⟨rfl, hb9⟩
          have HB9 := Lib.hid (HBZ.out.trans (hb9.mono HBZ.out.size))
          clear hb9
          go_wp2_with fail
          go_ret
          exact ⟨rfl, HB9.out⟩
      · have hd := decB hE
        have HBP := HBX
        obtain ⟨wP, hwP⟩ : ∃ wP, wx = wP := ⟨_, rfl⟩
        subst hwP
        clear hEE hyx
        have HDC := Lib.hid (decode_any l (HVB.out.below HBP.out (Nat.le_refl _)))
        unfold layA at HDC
        obtain ⟨D, hDD⟩ : ∃ D, decE l b = D := ⟨_, rfl⟩
        have HDD := Lib.hid hDD
        go_wp2_with fail
        refine HDC.out.mono ?_
        rintro e wq ⟨vq, rfl, hoq, hbq⟩
        obtain ⟨sq, cq, rfl⟩ := hoq.at_.val
        obtain ⟨wQ, hwQ, hrQ, hbQ, hbQ'⟩ := box_one (stA (decL l b) (.slice sq (decU l b).length cq)) 33 wx.heap.size wx wq hbq (Nat.le_refl _)
        have HRQ := Lib.hid hrQ
        have HVQ := Lib.hid (hoq.at_.below hbQ' (Nat.le_refl _))
        have HBQ := Lib.hid (HBP.out.trans (hbQ.mono HBP.out.size))
        rw [HDD.out]
        clear x0 x1 x2 x3 hbq hrQ hbQ hbQ' hoq
        unfold stA at hwQ ⊢
        by_cases hD : D = 0
        · subst hD
          obtain ⟨hde1, hde2, hde3, hde4⟩ := enc_dec hDD
          have HENC := Lib.hid (encode_any (l := l) (by have := HVQ.out; exact this))
          obtain ⟨q0, q1, q2, q3⟩ := HRQ.out.four'
          rw [hde1] at hwQ q0 q1 q2 ⊢
          have HEX := Lib.hid (encL_ok hde3)
          have HDE4 := Lib.hid hde4
          unfold stA at HENC
          clear hDD hde1 hde2 hde4
          go_wp2_with (rw [hwQ])
          refine HENC.out.mono ?_
          rintro e wr ⟨vr, rfl, hyr, hbr⟩
          rw [hde3]
          have HBR := Lib.hid (HBQ.out.trans (hbr.mono HBQ.out.size))
          rw [HEX.out, HDE4.out] at hyr
          have hcv1 := bytes_conv hyr
          obtain ⟨sr, cr, rfl⟩ := hyr.val
          have hcv2 := bytes_conv (HVB.out.below HBR.out (Nat.le_refl _))
          have HBZ := Lib.hid (HB0.out.trans (HBR.out.mono HB0.out.size))
          clear q0 q1 q2 q3 hbr hyr hwQ hde3
          generalize ByteArray.mk b.toArray = str at *
          go_wp2_with fail
          refine (HAW.out _).mono ?_
          rintro e w9 ⟨rfl, hb9⟩
          have HB9 := Lib.hid (HBZ.out.trans (hb9.mono HBZ.out.size))
          clear hb9
          go_wp2_with fail
          go_ret
          exact ⟨rfl, HB9.out⟩
        · have hd := decB hD
          have HBZ := Lib.hid (HB0.out.trans (HBQ.out.mono HB0.out.size))
          clear hDD
          go_wp2_with (rw [hwQ])
          refine (HAW.out _).mono ?_
          rintro e w9 ⟨rfl, hb9⟩
          have HB9 := Lib.hid (HBZ.out.trans (hb9.mono HBZ.out.size))
          clear hb9
          go_wp2_with fail
          go_ret
          exact ⟨rfl, HB9.out⟩
end Go.Proofs.Ytkknelcolbdphaa
