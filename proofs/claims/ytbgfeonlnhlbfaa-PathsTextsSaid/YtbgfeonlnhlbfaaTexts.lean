/- PathsTexts: the walk. -/
import Derived.Test.YtbgfeonlnhlbfaaRound
import Derived.Test.YtbgfeonlnhlbfaaRefP
namespace Go.Proofs.Ytbgfeonlnhlbfaa
open Go.RowKit

theorem parseA_len (s : ByteArray) : (parseA s).length ≤ 20 := by
  unfold parseA
  rw [List.length_map]
  by_cases hz : parseE s.data.toList = 0
  · have h1 := (checkE_zero.1 (text_parse hz).1).1
    omega
  · unfold parseP; rw [if_neg hz]; simp

set_option maxHeartbeats 8000000 in
set_option maxRecDepth 100000 in
theorem texts_any (v : Value) (P : List ByteArray) (s : ByteArray) (w0 : World) (hE : EnvM w0) (hv : StrsAt w0 v P) (lp : P.length ≤ 9223372036854775807) (ls : s.size ≤ maxLen) :
    Calls Try.prog 3 #[v, .string s] w0 fun e w' => e = .returned (.bool true) ∧ Below w0.heap.size w0 w' := by
  have lm := ls
  unfold maxLen at ls
  have HX0 : Hid (In1 w0 v P w0) := Lib.hid ⟨Below.refl _ _, hv, hE⟩
  obtain ⟨av, cv, rfl⟩ := hv.shape
  clear hv hE
  cases hP : longB P with
  | true =>
    go_enter Try.func3, Try.ntmps3
    have K0 := Lib.hid (long_any _ P w0 HX0.out.p lp)
    rw [hP] at K0
    go_wp2_with fail
    refine K0.out.mono ?_
    rintro e w1 ⟨rfl, hbx⟩
    have HX1 := Lib.hid (HX0.out.below hbx)
    clear hbx
    have AW := Lib.hid (awake_any w1 HX1.out.env)
    go_wp2_with fail
    refine AW.out.mono ?_
    rintro e w2 ⟨rfl, hbz⟩
    have HBZ := Lib.hid (HX1.out.bel.trans (hbz.mono HX1.out.bel.size))
    clear hbz
    go_wp2_with fail
    go_ret
    exact ⟨rfl, HBZ.out⟩
  | false =>
    have MP := Lib.hid (long_modest hP)
    have lP : P.length ≤ 20 := (longB_no hP).1
    by_cases h600 : 600 < s.size
    · have d600 : decide (600 < s.size) = true := decide_eq_true h600
      go_enter Try.func3, Try.ntmps3
      have K0 := Lib.hid (long_any _ P w0 HX0.out.p lp)
      rw [hP] at K0
      go_wp2_with fail
      refine K0.out.mono ?_
      rintro e w1 ⟨rfl, hbx⟩
      have HX1 := Lib.hid (HX0.out.below hbx)
      clear hbx
      have AW := Lib.hid (awake_any w1 HX1.out.env)
      go_wp2_with fail
      refine AW.out.mono ?_
      rintro e w2 ⟨rfl, hbz⟩
      have HBZ := Lib.hid (HX1.out.bel.trans (hbz.mono HX1.out.bel.size))
      clear hbz
      go_wp2_with fail
      go_ret
      exact ⟨rfl, HBZ.out⟩
    · have d600 : decide (600 < s.size) = false := decide_eq_false h600
      have ls2 : s.size ≤ 1000 := by omega
      obtain ⟨zs, hzs⟩ : ∃ zs, Hid (parseE s.data.toList = zs) := ⟨_, Lib.hid rfl⟩
      obtain ⟨zp, hzp⟩ : ∃ zp, Hid (checkE (bsL P) = zp) := ⟨_, Lib.hid rfl⟩
      obtain ⟨zn, hzn⟩ : ∃ zn, Hid (nameE s.data.toList = zn) := ⟨_, Lib.hid rfl⟩
      obtain ⟨D, hD⟩ : ∃ D, Hid (parseA s = D) := ⟨_, Lib.hid rfl⟩
      obtain ⟨T, hT⟩ : ∃ T, Hid ((⟨(printT (bsL P)).toArray⟩ : ByteArray) = T) := ⟨_, Lib.hid rfl⟩
      have lD : D.length ≤ 20 := by rw [← hD.out]; exact parseA_len s
      go_enter Try.func3, Try.ntmps3
      have K0 := Lib.hid (long_any _ P w0 HX0.out.p lp)
      rw [hP] at K0
      go_wp2_with fail
      refine K0.out.mono ?_
      rintro e w1 ⟨rfl, hbx⟩
      have HX1 := Lib.hid (HX0.out.below hbx)
      clear hbx
      have K1 := Lib.hid (Parse_any s w1 HX1.out.env ls2)
      rw [show parseE s.data.toList = zs from hzs.out] at K1
      rw [show parseA s = D from hD.out] at K1
      go_wp2_with fail
      refine K1.out.mono ?_
      rintro e w2 ⟨u1, rfl, hu1, hbx⟩
      have HX2 := Lib.hid (HX1.out.below hbx)
      have HV2 := Lib.hid hu1
      obtain ⟨b1, d1, rfl⟩ := hu1.shape
      clear hu1
      clear hbx
      have K2 := Lib.hid (ParseR_any s w2 ls2)
      rw [show parseE s.data.toList = zs from hzs.out] at K2
      rw [show parseA s = D from hD.out] at K2
      go_wp2_with fail
      refine K2.out.mono ?_
      rintro e w3 ⟨u2, rfl, hu2, hbx⟩
      have HX3 := Lib.hid (HX2.out.below hbx)
      have HW3 := Lib.hid hu2
      obtain ⟨b2, d2, rfl⟩ := hu2.shape
      clear hu2
      have HV3 := Lib.hid (HV2.out.below hbx)
      clear hbx
      have K3 := Lib.hid (Print_any _ P w3 HX3.out.p MP.out)
      rw [show checkE (bsL P) = zp from hzp.out] at K3
      rw [hT.out] at K3
      go_wp2_with fail
      refine K3.out.mono ?_
      rintro e w4 ⟨rfl, hbx⟩
      have HX4 := Lib.hid (HX3.out.below hbx)
      have HV4 := Lib.hid (HV3.out.below hbx)
      have HW4 := Lib.hid (HW3.out.below hbx)
      clear hbx
      have K4 := Lib.hid (PrintR_any _ P w4 HX4.out.p MP.out)
      rw [show checkE (bsL P) = zp from hzp.out] at K4
      rw [hT.out] at K4
      go_wp2_with fail
      refine K4.out.mono ?_
      rintro e w5 ⟨rfl, hbx⟩
      have HX5 := Lib.hid (HX4.out.below hbx)
      have HV5 := Lib.hid (HV4.out.below hbx)
      have HW5 := Lib.hid (HW4.out.below hbx)
      clear hbx
      have K5 := Lib.hid (name_any s w5 lm)
      rw [show nameE s.data.toList = zn from hzn.out] at K5
      go_wp2_with fail
      refine K5.out.mono ?_
      rintro e wn5 ⟨rfl, hwn⟩
      rw [← hwn]
      clear hwn
      have K6 := Lib.hid (nameR_any s w5 lm)
      rw [show nameE s.data.toList = zn from hzn.out] at K6
      go_wp2_with fail
      refine K6.out.mono ?_
      rintro e wn6 ⟨rfl, hwn⟩
      rw [← hwn]
      clear hwn
      have HX7 := HX5; have HV7 := HV5; have HW7 := HW5
      clear HX5 HV5 HW5
      obtain ⟨w7, hw7⟩ : ∃ w7, w5 = w7 := ⟨_, rfl⟩
      subst hw7
      have K7 := Lib.hid (check_any _ P w5 HX7.out.p MP.out)
      rw [show checkE (bsL P) = zp from hzp.out] at K7
      go_wp2_with fail
      refine K7.out.mono ?_
      rintro e w8 ⟨rfl, hbx⟩
      have HX8 := Lib.hid (HX7.out.below hbx); have HV8 := Lib.hid (HV7.out.below hbx); have HW8 := Lib.hid (HW7.out.below hbx)
      clear hbx
      have K8 := Lib.hid (checkR_any _ P w8 HX8.out.p MP.out)
      rw [show checkE (bsL P) = zp from hzp.out] at K8
      go_wp2_with fail
      refine K8.out.mono ?_
      rintro e w9 ⟨rfl, hbx⟩
      have HX9 := Lib.hid (HX8.out.below hbx)
      have HV9 := Lib.hid (HV8.out.below hbx)
      have HW9 := Lib.hid (HW8.out.below hbx)
      clear hbx
      have K9 := Lib.hid (sameR_any _ _ D D w9 HV9.out HW9.out (by omega) (by omega))
      rw [show sameB D D = true from sameB_iff.2 rfl] at K9
      go_wp2_with fail
      refine K9.out.mono ?_
      rintro e w10 ⟨rfl, hbx⟩
      have HX10 := Lib.hid (HX9.out.below hbx)
      clear hbx
      have AW := Lib.hid (awake_any w10 HX10.out.env)
      go_wp2_with fail
      refine AW.out.mono ?_
      rintro e w11 ⟨rfl, hbz⟩
      have HBZ := Lib.hid (HX10.out.bel.trans (hbz.mono HX10.out.bel.size))
      clear hbz
      go_wp2_with fail
      go_ret
      exact ⟨rfl, HBZ.out⟩
end Go.Proofs.Ytbgfeonlnhlbfaa
