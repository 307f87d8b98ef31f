/- PathsChanges: the walk. -/
import Derived.Test.YtbgfeonlnhlbfaaRound
import Derived.Test.YtbgfeonlnhlbfaaRefN
namespace Go.Proofs.Ytbgfeonlnhlbfaa
open Go.RowKit

structure In3 (w : World) (v1 v2 v3 : Value) (P F T : List ByteArray) (W : World) : Prop where
  bel : Below w.heap.size w W
  p : StrsAt W v1 P
  f : StrsAt W v2 F
  t : StrsAt W v3 T
  env : EnvM W
theorem In3.below {w : World} {v1 v2 v3 : Value} {P F T : List ByteArray} {W W' : World} (h : In3 w v1 v2 v3 P F T W) (hb : Below W.heap.size W W') : In3 w v1 v2 v3 P F T W' :=
  ⟨h.bel.trans (hb.mono h.bel.size), h.p.below hb, h.f.below hb, h.t.below hb, h.env.below h.env.pos hb⟩
theorem concP_len (p q : List ByteArray) : (concP p q).length ≤ 8 := by
  unfold concP; split
  · simp
  · rw [List.length_append]; omega
theorem joinP_len (ps : List ByteArray) (s : ByteArray) : (JoinP ps s).length ≤ 8 := by
  unfold JoinP; split
  · exact concP_len _ _
  · simp
theorem parentP_len {ps : List ByteArray} (h : ps.length ≤ 20) : (parentP ps).length ≤ 20 := by
  unfold parentP; split
  · rw [List.length_take]; omega
  · simp
theorem moveP_len (ps fs ts : List ByteArray) : (MoveP ps fs ts).length ≤ 8 := by
  unfold MoveP; split
  · exact concP_len _ _
  · simp

set_option maxHeartbeats 8000000 in
set_option maxRecDepth 100000 in
theorem changes_any (v1 v2 v3 : Value) (P F T : List ByteArray) (w0 : World) (hE : EnvM w0) (hv1 : StrsAt w0 v1 P) (hv2 : StrsAt w0 v2 F) (hv3 : StrsAt w0 v3 T) (lp : P.length ≤ 9223372036854775807) (lf : F.length ≤ 9223372036854775807) (lt : T.length ≤ 9223372036854775807) :
    Calls Try.prog 5 #[v1, v2, v3] w0 fun e w' => e = .returned (.bool true) ∧ Below w0.heap.size w0 w' := by
  have HX0 : Hid (In3 w0 v1 v2 v3 P F T w0) := Lib.hid ⟨Below.refl _ _, hv1, hv2, hv3, hE⟩
  obtain ⟨a1, c1, rfl⟩ := hv1.shape
  obtain ⟨a2, c2, rfl⟩ := hv2.shape
  obtain ⟨a3, c3, rfl⟩ := hv3.shape
  clear hv1 hv2 hv3 hE
  cases hP : longB P with
  | true =>
    go_enter Try.func5, Try.ntmps5
    have K0 := Lib.hid (long_any _ P w0 HX0.out.p lp)
    rw [hP] at K0
    go_wp2_with fail
    refine K0.out.mono ?_
    rintro e w1 ⟨rfl, hbx⟩
    have HX1 := Lib.hid (HX0.out.below hbx)
    clear hbx
    have AW := Lib.hid (awake_any w1 HX1.out.env)
    go_wp2_with fail
    refine AW.out.mono ?_
    rintro e w2 ⟨rfl, hbz⟩
    have HBZ := Lib.hid (HX1.out.bel.trans (hbz.mono HX1.out.bel.size))
    clear hbz
    go_wp2_with fail
    go_ret
    exact ⟨rfl, HBZ.out⟩
  | false =>
    cases hF : longB F with
    | true =>
      go_enter Try.func5, Try.ntmps5
      have K0 := Lib.hid (long_any _ P w0 HX0.out.p lp)
      rw [hP] at K0
      go_wp2_with fail
      refine K0.out.mono ?_
      rintro e w1 ⟨rfl, hbx⟩
      have HX1 := Lib.hid (HX0.out.below hbx)
      clear hbx
      have K1 := Lib.hid (long_any _ F w1 HX1.out.f lf)
      rw [hF] at K1
      go_wp2_with fail
      refine K1.out.mono ?_
      rintro e w2 ⟨rfl, hbx⟩
      have HX2 := Lib.hid (HX1.out.below hbx)
      clear hbx
      have AW := Lib.hid (awake_any w2 HX2.out.env)
      go_wp2_with fail
      refine AW.out.mono ?_
      rintro e w3 ⟨rfl, hbz⟩
      have HBZ := Lib.hid (HX2.out.bel.trans (hbz.mono HX2.out.bel.size))
      clear hbz
      go_wp2_with fail
      go_ret
      exact ⟨rfl, HBZ.out⟩
    | false =>
      cases hT : longB T with
      | true =>
        go_enter Try.func5, Try.ntmps5
        have K0 := Lib.hid (long_any _ P w0 HX0.out.p lp)
        rw [hP] at K0
        go_wp2_with fail
        refine K0.out.mono ?_
        rintro e w1 ⟨rfl, hbx⟩
        have HX1 := Lib.hid (HX0.out.below hbx)
        clear hbx
        have K1 := Lib.hid (long_any _ F w1 HX1.out.f lf)
        rw [hF] at K1
        go_wp2_with fail
        refine K1.out.mono ?_
        rintro e w2 ⟨rfl, hbx⟩
        have HX2 := Lib.hid (HX1.out.below hbx)
        clear hbx
        have K2 := Lib.hid (long_any _ T w2 HX2.out.t lt)
        rw [hT] at K2
        go_wp2_with fail
        refine K2.out.mono ?_
        rintro e w3 ⟨rfl, hbx⟩
        have HX3 := Lib.hid (HX2.out.below hbx)
        clear hbx
        have AW := Lib.hid (awake_any w3 HX3.out.env)
        go_wp2_with fail
        refine AW.out.mono ?_
        rintro e w4 ⟨rfl, hbz⟩
        have HBZ := Lib.hid (HX3.out.bel.trans (hbz.mono HX3.out.bel.size))
        clear hbz
        go_wp2_with fail
        go_ret
        exact ⟨rfl, HBZ.out⟩
      | false =>
        have MP := Lib.hid (long_modest hP)
        have lP : P.length ≤ 20 := (longB_no hP).1
        have MF := Lib.hid (long_modest hF)
        have lF : F.length ≤ 20 := (longB_no hF).1
        have MT := Lib.hid (long_modest hT)
        have lT : T.length ≤ 20 := (longB_no hT).1
        by_cases hT0 : T = []
        · subst hT0
          have hnm : (⟨#[]⟩ : ByteArray).size ≤ maxLen := Nat.zero_le _
          obtain ⟨zp, hzp⟩ : ∃ z, Hid (parentE P = z) := ⟨_, Lib.hid rfl⟩
          obtain ⟨L, hL⟩ : ∃ z, Hid (parentL P = z) := ⟨_, Lib.hid rfl⟩
          obtain ⟨zj, hzj⟩ : ∃ z, Hid (JoinE P ⟨#[]⟩ = z) := ⟨_, Lib.hid rfl⟩
          obtain ⟨zm, hzm⟩ : ∃ z, Hid (MoveE P F [] = z) := ⟨_, Lib.hid rfl⟩
          obtain ⟨D, hD⟩ : ∃ D, Hid (parentP P = D) := ⟨_, Lib.hid rfl⟩
          obtain ⟨J, hJ⟩ : ∃ D, Hid (JoinP P ⟨#[]⟩ = D) := ⟨_, Lib.hid rfl⟩
          obtain ⟨M, hM⟩ : ∃ D, Hid (MoveP P F [] = D) := ⟨_, Lib.hid rfl⟩
          have lD : D.length ≤ 20 := by rw [← hD.out]; exact parentP_len lP
          have lJ : J.length ≤ 20 := by rw [← hJ.out]; have := joinP_len P ⟨#[]⟩; omega
          have lM : M.length ≤ 20 := by rw [← hM.out]; have := moveP_len P F []; omega
          go_enter Try.func5, Try.ntmps5
          have K0 := Lib.hid (long_any _ P w0 HX0.out.p lp)
          rw [hP] at K0
          go_wp2_with fail
          refine K0.out.mono ?_
          rintro e w1 ⟨rfl, hbx⟩
          have HX1 := Lib.hid (HX0.out.below hbx)
          clear hbx
          have K1 := Lib.hid (long_any _ F w1 HX1.out.f lf)
          rw [hF] at K1
          go_wp2_with fail
          refine K1.out.mono ?_
          rintro e w2 ⟨rfl, hbx⟩
          have HX2 := Lib.hid (HX1.out.below hbx)
          clear hbx
          have K2 := Lib.hid (long_any _ [] w2 HX2.out.t lt)
          rw [hT] at K2
          go_wp2_with fail
          refine K2.out.mono ?_
          rintro e w3 ⟨rfl, hbx⟩
          have HX3 := Lib.hid (HX2.out.below hbx)
          clear hbx
          have K3 := Lib.hid (Parent_any _ P w3 HX3.out.p MP.out)
          rw [show parentP P = D from hD.out] at K3
          rw [show parentL P = L from hL.out] at K3
          rw [show parentE P = zp from hzp.out] at K3
          go_wp2_with fail
          refine K3.out.mono ?_
          rintro e w4 ⟨u3, rfl, hu3, hbx⟩
          have HX4 := Lib.hid (HX3.out.below hbx)
          have HA4 := Lib.hid hu3
          obtain ⟨b3, d3, rfl⟩ := hu3.shape
          clear hu3
          clear hbx
          have K4 := Lib.hid (ParentR_any _ P w4 HX4.out.p MP.out)
          rw [show parentP P = D from hD.out] at K4
          rw [show parentL P = L from hL.out] at K4
          rw [show parentE P = zp from hzp.out] at K4
          go_wp2_with fail
          refine K4.out.mono ?_
          rintro e w5 ⟨u4, rfl, hu4, hbx⟩
          have HX5 := Lib.hid (HX4.out.below hbx)
          have HB5 := Lib.hid hu4
          obtain ⟨b4, d4, rfl⟩ := hu4.shape
          clear hu4
          have HA5 := Lib.hid (HA4.out.below hbx)
          clear hbx
          have K5 := Lib.hid (Join_any _ P ⟨#[]⟩ w5 HX5.out.p MP.out hnm)
          rw [show JoinP P ⟨#[]⟩ = J from hJ.out] at K5
          rw [show JoinE P ⟨#[]⟩ = zj from hzj.out] at K5
          go_wp2_with fail
          refine K5.out.mono ?_
          rintro e w6 ⟨u5, rfl, hu5, hbx⟩
          have HX6 := Lib.hid (HX5.out.below hbx)
          have HC6 := Lib.hid hu5
          obtain ⟨b5, d5, rfl⟩ := hu5.shape
          clear hu5
          have HA6 := Lib.hid (HA5.out.below hbx)
          have HB6 := Lib.hid (HB5.out.below hbx)
          clear hbx
          have K6 := Lib.hid (JoinR_any _ P ⟨#[]⟩ w6 HX6.out.p MP.out hnm)
          rw [show JoinP P ⟨#[]⟩ = J from hJ.out] at K6
          rw [show JoinE P ⟨#[]⟩ = zj from hzj.out] at K6
          go_wp2_with fail
          refine K6.out.mono ?_
          rintro e w7 ⟨u6, rfl, hu6, hbx⟩
          have HX7 := Lib.hid (HX6.out.below hbx)
          have HD7 := Lib.hid hu6
          obtain ⟨b6, d6, rfl⟩ := hu6.shape
          clear hu6
          have HA7 := Lib.hid (HA6.out.below hbx)
          have HB7 := Lib.hid (HB6.out.below hbx)
          have HC7 := Lib.hid (HC6.out.below hbx)
          clear hbx
          have K7 := Lib.hid (Move_any _ _ _ P F [] w7 HX7.out.p HX7.out.f HX7.out.t MP.out MF.out MT.out)
          rw [show MoveP P F [] = M from hM.out] at K7
          rw [show MoveE P F [] = zm from hzm.out] at K7
          go_wp2_with fail
          refine K7.out.mono ?_
          rintro e w8 ⟨u7, rfl, hu7, hbx⟩
          have HX8 := Lib.hid (HX7.out.below hbx)
          have HM8 := Lib.hid hu7
          obtain ⟨b7, d7, rfl⟩ := hu7.shape
          clear hu7
          have HA8 := Lib.hid (HA7.out.below hbx)
          have HB8 := Lib.hid (HB7.out.below hbx)
          have HC8 := Lib.hid (HC7.out.below hbx)
          have HD8 := Lib.hid (HD7.out.below hbx)
          clear hbx
          have K8 := Lib.hid (MoveR_any _ _ _ P F [] w8 HX8.out.p HX8.out.f HX8.out.t MP.out MF.out MT.out (by omega) (by omega) (by omega))
          rw [show MoveP P F [] = M from hM.out] at K8
          rw [show MoveE P F [] = zm from hzm.out] at K8
          go_wp2_with fail
          refine K8.out.mono ?_
          rintro e w9 ⟨u8, rfl, hu8, hbx⟩
          have HX9 := Lib.hid (HX8.out.below hbx)
          have HN9 := Lib.hid hu8
          obtain ⟨b8, d8, rfl⟩ := hu8.shape
          clear hu8
          have HA9 := Lib.hid (HA8.out.below hbx)
          have HB9 := Lib.hid (HB8.out.below hbx)
          have HC9 := Lib.hid (HC8.out.below hbx)
          have HD9 := Lib.hid (HD8.out.below hbx)
          have HM9 := Lib.hid (HM8.out.below hbx)
          clear hbx
          have K9 := Lib.hid (sameR_any _ _ D D w9 HA9.out HB9.out (by omega) (by omega))
          rw [show sameB D D = true from sameB_iff.2 rfl] at K9
          go_wp2_with fail
          refine K9.out.mono ?_
          rintro e w10 ⟨rfl, hbx⟩
          have HX10 := Lib.hid (HX9.out.below hbx)
          have HC10 := Lib.hid (HC9.out.below hbx)
          have HD10 := Lib.hid (HD9.out.below hbx)
          have HM10 := Lib.hid (HM9.out.below hbx)
          have HN10 := Lib.hid (HN9.out.below hbx)
          clear hbx
          have K10 := Lib.hid (sameR_any _ _ J J w10 HC10.out HD10.out (by omega) (by omega))
          rw [show sameB J J = true from sameB_iff.2 rfl] at K10
          go_wp2_with fail
          refine K10.out.mono ?_
          rintro e w11 ⟨rfl, hbx⟩
          have HX11 := Lib.hid (HX10.out.below hbx)
          have HM11 := Lib.hid (HM10.out.below hbx)
          have HN11 := Lib.hid (HN10.out.below hbx)
          clear hbx
          have K11 := Lib.hid (sameR_any _ _ M M w11 HM11.out HN11.out (by omega) (by omega))
          rw [show sameB M M = true from sameB_iff.2 rfl] at K11
          go_wp2_with fail
          refine K11.out.mono ?_
          rintro e w12 ⟨rfl, hbx⟩
          have HX12 := Lib.hid (HX11.out.below hbx)
          clear hbx
          have AW := Lib.hid (awake_any w12 HX12.out.env)
          go_wp2_with fail
          refine AW.out.mono ?_
          rintro e w13 ⟨rfl, hbz⟩
          have HBZ := Lib.hid (HX12.out.bel.trans (hbz.mono HX12.out.bel.size))
          clear hbz
          go_wp2_with fail
          go_ret
          exact ⟨rfl, HBZ.out⟩
        · obtain ⟨m, hm⟩ : ∃ m, T.length = m + 1 := ⟨T.length - 1, by have : 0 < T.length := List.length_pos_iff.2 hT0; omega⟩
          have hmlt : m < T.length := by omega
          obtain ⟨g, o, rfl, hp⟩ := HX0.out.t.at' m hmlt
          obtain ⟨nm, hnmd⟩ : ∃ nm, T[m] = nm := ⟨_, rfl⟩
          rw [hnmd, show m = T.length - 1 by omega] at hp
          have hnm : nm.size ≤ maxLen := by have := (longB_no hT).2 _ (List.getElem_mem hmlt); rw [hnmd] at this; unfold maxLen; omega
          have HCT := Lib.hid hp
          have hT2 : decide ((0 : Int) < (T.length : Int)) = true := decide_eq_true (by omega)
          have j0 : (0 : Int) ≤ (T.length : Int) - 1 := by omega
          have j1 : (T.length : Int) - 1 < (T.length : Int) := by omega
          have j2 : ((T.length : Int) - 1).toNat = T.length - 1 := by omega
          clear hp hnmd hT0 hm hmlt
          obtain ⟨zp, hzp⟩ : ∃ z, Hid (parentE P = z) := ⟨_, Lib.hid rfl⟩
          obtain ⟨L, hL⟩ : ∃ z, Hid (parentL P = z) := ⟨_, Lib.hid rfl⟩
          obtain ⟨zj, hzj⟩ : ∃ z, Hid (JoinE P nm = z) := ⟨_, Lib.hid rfl⟩
          obtain ⟨zm, hzm⟩ : ∃ z, Hid (MoveE P F T = z) := ⟨_, Lib.hid rfl⟩
          obtain ⟨D, hD⟩ : ∃ D, Hid (parentP P = D) := ⟨_, Lib.hid rfl⟩
          obtain ⟨J, hJ⟩ : ∃ D, Hid (JoinP P nm = D) := ⟨_, Lib.hid rfl⟩
          obtain ⟨M, hM⟩ : ∃ D, Hid (MoveP P F T = D) := ⟨_, Lib.hid rfl⟩
          have lD : D.length ≤ 20 := by rw [← hD.out]; exact parentP_len lP
          have lJ : J.length ≤ 20 := by rw [← hJ.out]; have := joinP_len P nm; omega
          have lM : M.length ≤ 20 := by rw [← hM.out]; have := moveP_len P F T; omega
          go_enter Try.func5, Try.ntmps5
          have K0 := Lib.hid (long_any _ P w0 HX0.out.p lp)
          rw [hP] at K0
          go_wp2_with fail
          refine K0.out.mono ?_
          rintro e w1 ⟨rfl, hbx⟩
          have HX1 := Lib.hid (HX0.out.below hbx)
          clear hbx
          have K1 := Lib.hid (long_any _ F w1 HX1.out.f lf)
          rw [hF] at K1
          go_wp2_with fail
          refine K1.out.mono ?_
          rintro e w2 ⟨rfl, hbx⟩
          have HX2 := Lib.hid (HX1.out.below hbx)
          clear hbx
          have K2 := Lib.hid (long_any _ T w2 HX2.out.t lt)
          rw [hT] at K2
          go_wp2_with fail
          refine K2.out.mono ?_
          rintro e w3 ⟨rfl, hbx⟩
          have HX3 := Lib.hid (HX2.out.below hbx)
          clear hbx
          have hcell := HCT.out w3 HX3.out.bel
          have K3 := Lib.hid (Parent_any _ P w3 HX3.out.p MP.out)
          rw [show parentP P = D from hD.out] at K3
          rw [show parentL P = L from hL.out] at K3
          rw [show parentE P = zp from hzp.out] at K3
          go_wp2_with fail
          refine K3.out.mono ?_
          rintro e w4 ⟨u3, rfl, hu3, hbx⟩
          have HX4 := Lib.hid (HX3.out.below hbx)
          have HA4 := Lib.hid hu3
          obtain ⟨b3, d3, rfl⟩ := hu3.shape
          clear hu3
          clear hbx
          clear hcell
          have K4 := Lib.hid (ParentR_any _ P w4 HX4.out.p MP.out)
          rw [show parentP P = D from hD.out] at K4
          rw [show parentL P = L from hL.out] at K4
          rw [show parentE P = zp from hzp.out] at K4
          go_wp2_with fail
          refine K4.out.mono ?_
          rintro e w5 ⟨u4, rfl, hu4, hbx⟩
          have HX5 := Lib.hid (HX4.out.below hbx)
          have HB5 := Lib.hid hu4
          obtain ⟨b4, d4, rfl⟩ := hu4.shape
          clear hu4
          have HA5 := Lib.hid (HA4.out.below hbx)
          clear hbx
          have K5 := Lib.hid (Join_any _ P nm w5 HX5.out.p MP.out hnm)
          rw [show JoinP P nm = J from hJ.out] at K5
          rw [show JoinE P nm = zj from hzj.out] at K5
          go_wp2_with fail
          refine K5.out.mono ?_
          rintro e w6 ⟨u5, rfl, hu5, hbx⟩
          have HX6 := Lib.hid (HX5.out.below hbx)
          have HC6 := Lib.hid hu5
          obtain ⟨b5, d5, rfl⟩ := hu5.shape
          clear hu5
          have HA6 := Lib.hid (HA5.out.below hbx)
          have HB6 := Lib.hid (HB5.out.below hbx)
          clear hbx
          have K6 := Lib.hid (JoinR_any _ P nm w6 HX6.out.p MP.out hnm)
          rw [show JoinP P nm = J from hJ.out] at K6
          rw [show JoinE P nm = zj from hzj.out] at K6
          go_wp2_with fail
          refine K6.out.mono ?_
          rintro e w7 ⟨u6, rfl, hu6, hbx⟩
          have HX7 := Lib.hid (HX6.out.below hbx)
          have HD7 := Lib.hid hu6
          obtain ⟨b6, d6, rfl⟩ := hu6.shape
          clear hu6
          have HA7 := Lib.hid (HA6.out.below hbx)
          have HB7 := Lib.hid (HB6.out.below hbx)
          have HC7 := Lib.hid (HC6.out.below hbx)
          clear hbx
          have K7 := Lib.hid (Move_any _ _ _ P F T w7 HX7.out.p HX7.out.f HX7.out.t MP.out MF.out MT.out)
          rw [show MoveP P F T = M from hM.out] at K7
          rw [show MoveE P F T = zm from hzm.out] at K7
          go_wp2_with fail
          refine K7.out.mono ?_
          rintro e w8 ⟨u7, rfl, hu7, hbx⟩
          have HX8 := Lib.hid (HX7.out.below hbx)
          have HM8 := Lib.hid hu7
          obtain ⟨b7, d7, rfl⟩ := hu7.shape
          clear hu7
          have HA8 := Lib.hid (HA7.out.below hbx)
          have HB8 := Lib.hid (HB7.out.below hbx)
          have HC8 := Lib.hid (HC7.out.below hbx)
          have HD8 := Lib.hid (HD7.out.below hbx)
          clear hbx
          have K8 := Lib.hid (MoveR_any _ _ _ P F T w8 HX8.out.p HX8.out.f HX8.out.t MP.out MF.out MT.out (by omega) (by omega) (by omega))
          rw [show MoveP P F T = M from hM.out] at K8
          rw [show MoveE P F T = zm from hzm.out] at K8
          go_wp2_with fail
          refine K8.out.mono ?_
          rintro e w9 ⟨u8, rfl, hu8, hbx⟩
          have HX9 := Lib.hid (HX8.out.below hbx)
          have HN9 := Lib.hid hu8
          obtain ⟨b8, d8, rfl⟩ := hu8.shape
          clear hu8
          have HA9 := Lib.hid (HA8.out.below hbx)
          have HB9 := Lib.hid (HB8.out.below hbx)
          have HC9 := Lib.hid (HC8.out.below hbx)
          have HD9 := Lib.hid (HD8.out.below hbx)
          have HM9 := Lib.hid (HM8.out.below hbx)
          clear hbx
          have K9 := Lib.hid (sameR_any _ _ D D w9 HA9.out HB9.out (by omega) (by omega))
          rw [show sameB D D = true from sameB_iff.2 rfl] at K9
          go_wp2_with fail
          refine K9.out.mono ?_
          rintro e w10 ⟨rfl, hbx⟩
          have HX10 := Lib.hid (HX9.out.below hbx)
          have HC10 := Lib.hid (HC9.out.below hbx)
          have HD10 := Lib.hid (HD9.out.below hbx)
          have HM10 := Lib.hid (HM9.out.below hbx)
          have HN10 := Lib.hid (HN9.out.below hbx)
          clear hbx
          have K10 := Lib.hid (sameR_any _ _ J J w10 HC10.out HD10.out (by omega) (by omega))
          rw [show sameB J J = true from sameB_iff.2 rfl] at K10
          go_wp2_with fail
          refine K10.out.mono ?_
          rintro e w11 ⟨rfl, hbx⟩
          have HX11 := Lib.hid (HX10.out.below hbx)
          have HM11 := Lib.hid (HM10.out.below hbx)
          have HN11 := Lib.hid (HN10.out.below hbx)
          clear hbx
          have K11 := Lib.hid (sameR_any _ _ M M w11 HM11.out HN11.out (by omega) (by omega))
          rw [show sameB M M = true from sameB_iff.2 rfl] at K11
          go_wp2_with fail
          refine K11.out.mono ?_
          rintro e w12 ⟨rfl, hbx⟩
          have HX12 := Lib.hid (HX11.out.below hbx)
          clear hbx
          have AW := Lib.hid (awake_any w12 HX12.out.env)
          go_wp2_with fail
          refine AW.out.mono ?_
          rintro e w13 ⟨rfl, hbz⟩
          have HBZ := Lib.hid (HX12.out.bel.trans (hbz.mono HX12.out.bel.size))
          clear hbz
          go_wp2_with fail
          go_ret
          exact ⟨rfl, HBZ.out⟩
end Go.Proofs.Ytbgfeonlnhlbfaa
