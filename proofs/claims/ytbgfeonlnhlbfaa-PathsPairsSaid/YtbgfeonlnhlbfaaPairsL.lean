/- PathsPairs: the walk. -/
import Derived.Test.YtbgfeonlnhlbfaaRound
import Derived.Test.YtbgfeonlnhlbfaaRef3
namespace Go.Proofs.Ytbgfeonlnhlbfaa
open Go.RowKit

structure In2 (w : World) (v1 v2 : Value) (P Q : List ByteArray) (W : World) : Prop where
  bel : Below w.heap.size w W
  p : StrsAt W v1 P
  q : StrsAt W v2 Q
  env : EnvM W
theorem In2.below {w : World} {v1 v2 : Value} {P Q : List ByteArray} {W W' : World} (h : In2 w v1 v2 P Q W) (hb : Below W.heap.size W W') : In2 w v1 v2 P Q W' :=
  ⟨h.bel.trans (hb.mono h.bel.size), h.p.below hb, h.q.below hb, h.env.below h.env.pos hb⟩

set_option maxHeartbeats 8000000 in
set_option maxRecDepth 100000 in
theorem pairs_any (v1 v2 : Value) (P Q : List ByteArray) (w0 : World) (hE : EnvM w0) (hv1 : StrsAt w0 v1 P) (hv2 : StrsAt w0 v2 Q) (lp : P.length ≤ 9223372036854775807) (lq : Q.length ≤ 9223372036854775807) :
    Calls Try.prog 4 #[v1, v2] w0 fun e w' => e = .returned (.bool true) ∧ Below w0.heap.size w0 w' := by
  have HX0 : Hid (In2 w0 v1 v2 P Q w0) := Lib.hid ⟨Below.refl _ _, hv1, hv2, hE⟩
  obtain ⟨a1, c1, rfl⟩ := hv1.shape
  obtain ⟨a2, c2, rfl⟩ := hv2.shape
  clear hv1 hv2 hE
  cases hP : longB P with
  | true =>
    go_enter Try.func4, Try.ntmps4
    have K0 := Lib.hid (long_any _ P w0 HX0.out.p lp)
    rw [hP] at K0
    go_wp2_with fail
    refine K0.out.mono ?_
    rintro e w1 ⟨rfl, hbx⟩
    have HX1 := Lib.hid (HX0.out.below hbx)
    clear hbx
    have AW := Lib.hid (awake_any w1 HX1.out.env)
    go_wp2_with fail
    refine AW.out.mono ?_
    rintro e w2 ⟨rfl, hbz⟩
    have HBZ := Lib.hid (HX1.out.bel.trans (hbz.mono HX1.out.bel.size))
    clear hbz
    go_wp2_with fail
    go_ret
    exact ⟨rfl, HBZ.out⟩
  | false =>
    cases hQ : longB Q with
    | true =>
      go_enter Try.func4, Try.ntmps4
      have K0 := Lib.hid (long_any _ P w0 HX0.out.p lp)
      rw [hP] at K0
      go_wp2_with fail
      refine K0.out.mono ?_
      rintro e w1 ⟨rfl, hbx⟩
      have HX1 := Lib.hid (HX0.out.below hbx)
      clear hbx
      have K1 := Lib.hid (long_any _ Q w1 HX1.out.q lq)
      rw [hQ] at K1
      go_wp2_with fail
      refine K1.out.mono ?_
      rintro e w2 ⟨rfl, hbx⟩
      have HX2 := Lib.hid (HX1.out.below hbx)
      clear hbx
      have AW := Lib.hid (awake_any w2 HX2.out.env)
      go_wp2_with fail
      refine AW.out.mono ?_
      rintro e w3 ⟨rfl, hbz⟩
      have HBZ := Lib.hid (HX2.out.bel.trans (hbz.mono HX2.out.bel.size))
      clear hbz
      go_wp2_with fail
      go_ret
      exact ⟨rfl, HBZ.out⟩
    | false =>
      have MP := Lib.hid (long_modest hP)
      have MQ := Lib.hid (long_modest hQ)
      have lP : P.length ≤ 20 := (longB_no hP).1
      have lQ : Q.length ≤ 20 := (longB_no hQ).1
      obtain ⟨z, hz⟩ : ∃ z, Hid (bothE P Q = z) := ⟨_, Lib.hid rfl⟩
      obtain ⟨x, hx⟩ : ∃ x, Hid (compareV P Q = x) := ⟨_, Lib.hid rfl⟩
      obtain ⟨u, hu⟩ : ∃ u, Hid (UnderV P Q = u) := ⟨_, Lib.hid rfl⟩
      obtain ⟨D, hD⟩ : ∃ D, Hid (CommonP P Q = D) := ⟨_, Lib.hid rfl⟩
      have lD : D.length ≤ 20 := by rw [← hD.out]; unfold CommonP; split <;> simp; omega
      go_enter Try.func4, Try.ntmps4
      have K0 := Lib.hid (long_any _ P w0 HX0.out.p lp)
      rw [hP] at K0
      go_wp2_with fail
      refine K0.out.mono ?_
      rintro e w1 ⟨rfl, hbx⟩
      have HX1 := Lib.hid (HX0.out.below hbx)
      clear hbx
      have K1 := Lib.hid (long_any _ Q w1 HX1.out.q lq)
      rw [hQ] at K1
      go_wp2_with fail
      refine K1.out.mono ?_
      rintro e w2 ⟨rfl, hbx⟩
      have HX2 := Lib.hid (HX1.out.below hbx)
      clear hbx
      have K2 := Lib.hid (Compare_any _ _ P Q w2 HX2.out.p HX2.out.q MP.out MQ.out)
      rw [show compareV P Q = x from hx.out] at K2
      rw [show bothE P Q = z from hz.out] at K2
      go_wp2_with fail
      refine K2.out.mono ?_
      rintro e w3 ⟨rfl, hbx⟩
      have HX3 := Lib.hid (HX2.out.below hbx)
      clear hbx
      have K3 := Lib.hid (CompareR_any _ _ P Q w3 HX3.out.p HX3.out.q MP.out MQ.out (by omega) (by omega))
      rw [show compareV P Q = x from hx.out] at K3
      rw [show bothE P Q = z from hz.out] at K3
      go_wp2_with fail
      refine K3.out.mono ?_
      rintro e w4 ⟨rfl, hbx⟩
      have HX4 := Lib.hid (HX3.out.below hbx)
      clear hbx
      have K4 := Lib.hid (Under_any _ _ P Q w4 HX4.out.p HX4.out.q MP.out MQ.out)
      rw [show UnderV P Q = u from hu.out] at K4
      rw [show bothE P Q = z from hz.out] at K4
      go_wp2_with fail
      refine K4.out.mono ?_
      rintro e w5 ⟨rfl, hbx⟩
      have HX5 := Lib.hid (HX4.out.below hbx)
      clear hbx
      have K5 := Lib.hid (UnderR_any _ _ P Q w5 HX5.out.p HX5.out.q MP.out MQ.out (by omega) (by omega))
      rw [show UnderV P Q = u from hu.out] at K5
      rw [show bothE P Q = z from hz.out] at K5
      go_wp2_with fail
      refine K5.out.mono ?_
      rintro e w6 ⟨rfl, hbx⟩
      have HX6 := Lib.hid (HX5.out.below hbx)
      clear hbx
      have K6 := Lib.hid (Common_any _ _ P Q w6 HX6.out.p HX6.out.q MP.out MQ.out)
      rw [show bothE P Q = z from hz.out] at K6
      rw [show CommonP P Q = D from hD.out] at K6
      go_wp2_with fail
      refine K6.out.mono ?_
      rintro e w7 ⟨u1, rfl, hu1, hbx⟩
      have HX7 := Lib.hid (HX6.out.below hbx)
      have HV7 := Lib.hid hu1
      obtain ⟨b1, d1, rfl⟩ := hu1.shape
      clear hu1
      clear hbx
      have K7 := Lib.hid (CommonR_any _ _ P Q w7 HX7.out.p HX7.out.q MP.out MQ.out (by omega) (by omega))
      rw [show bothE P Q = z from hz.out] at K7
      rw [show CommonP P Q = D from hD.out] at K7
      go_wp2_with fail
      refine K7.out.mono ?_
      rintro e w8 ⟨u2, rfl, hu2, hbx⟩
      have HX8 := Lib.hid (HX7.out.below hbx)
      have HW8 := Lib.hid hu2
      obtain ⟨b2, d2, rfl⟩ := hu2.shape
      clear hu2
      have HV8 := Lib.hid (HV7.out.below hbx)
      clear hbx
      have K8 := Lib.hid (sameR_any _ _ D D w8 HV8.out HW8.out (by omega) (by omega))
      rw [show sameB D D = true from sameB_iff.2 rfl] at K8
      go_wp2_with fail
      refine K8.out.mono ?_
      rintro e w9 ⟨rfl, hbx⟩
      have HX9 := Lib.hid (HX8.out.below hbx)
      clear hbx
      have AW := Lib.hid (awake_any w9 HX9.out.env)
      go_wp2_with fail
      refine AW.out.mono ?_
      rintro e w10 ⟨rfl, hbz⟩
      have HBZ := Lib.hid (HX9.out.bel.trans (hbz.mono HX9.out.bel.size))
      clear hbz
      go_wp2_with fail
      go_ret
      exact ⟨rfl, HBZ.out⟩
end Go.Proofs.Ytbgfeonlnhlbfaa
