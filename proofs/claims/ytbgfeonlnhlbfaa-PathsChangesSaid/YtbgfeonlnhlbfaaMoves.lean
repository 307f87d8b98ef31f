/- PathsMoves: the walk. -/
import Derived.Test.YtbgfeonlnhlbfaaMovesV
import Derived.Test.YtbgfeonlnhlbfaaAwake
namespace Go.Proofs.Ytbgfeonlnhlbfaa
open Go.RowKit

theorem long_modest {ss : List ByteArray} (h : longB ss = false) : Modest ss := by
  have := longB_no h
  exact ⟨by omega, fun s hs => by have := this.2 s hs; omega⟩
/-- The box of the three lists. -/
structure Box3 (w : World) (a b c : Value) (A B C : List ByteArray) (W : World) : Prop where
  bel : Below w.heap.size w W
  c0 : W.cell? ⟨w.heap.size, 0, none⟩ = some a
  c1 : W.cell? ⟨w.heap.size, 1, none⟩ = some b
  c2 : W.cell? ⟨w.heap.size, 2, none⟩ = some c
  a : StrsAt W a A
  b : StrsAt W b B
  c : StrsAt W c C
  env : EnvM W
theorem Box3.below {w : World} {a b c : Value} {A B C : List ByteArray} {W W' : World} (h : Box3 w a b c A B C W) (hb : Below W.heap.size W W') : Box3 w a b c A B C W' :=
  ⟨h.bel.trans (hb.mono h.bel.size), (hb.cell (p := ⟨w.heap.size, 0, none⟩) (lt_of_cell h.c0)).trans h.c0, (hb.cell (p := ⟨w.heap.size, 1, none⟩) (lt_of_cell h.c1)).trans h.c1, (hb.cell (p := ⟨w.heap.size, 2, none⟩) (lt_of_cell h.c2)).trans h.c2,
    h.a.below hb, h.b.below hb, h.c.below hb, h.env.below h.env.pos hb⟩
theorem Box3.new {w : World} {a b c : Value} {A B C : List ByteArray} {t : TypeId} (ha : StrsAt w a A) (hb : StrsAt w b B) (hc : StrsAt w c C) (hE : EnvM w) : Box3 w a b c A B C (w.alloc (.cells #[a, b, c] t)) := by
  have hB : Below w.heap.size w (w.alloc (.cells #[a, b, c] t)) := (Below.refl _ w).alloc (Nat.le_refl _) _
  have h := World.alloc_heap_new w (.cells #[a, b, c] t)
  exact ⟨hB, Lib.cell_of_heap h 0, Lib.cell_of_heap h 1, Lib.cell_of_heap h 2, ha.below hB, hb.below hB, hc.below hB, hE.below hE.pos hB⟩

set_option maxHeartbeats 8000000 in
set_option maxRecDepth 100000 in
theorem moves_any (a b c v : Value) (A B C T : List ByteArray) (w : World) (hE : EnvM w) (ha : StrsAt w a A) (hb : StrsAt w b B) (hc : StrsAt w c C) (hv : StrsAt w v T)
    (la : A.length ≤ 9223372036854775807) (lb : B.length ≤ 9223372036854775807) (lc : C.length ≤ 9223372036854775807) (lv : T.length ≤ 9223372036854775807) :
    Calls Try.prog 10 #[.agg #[a, b, c], v] w fun e w' => e = .returned (.bool true) ∧ Below w.heap.size w w' := by
  have HX0 := Lib.hid (Box3.new (t := 51) ha hb hc hE)
  have HV0 := Lib.hid (hv.below ((Below.refl _ w).alloc (Nat.le_refl _) (.cells #[a, b, c] 51)))
  obtain ⟨aa, ca, rfl⟩ := ha.shape
  obtain ⟨ab, cb, rfl⟩ := hb.shape
  obtain ⟨ac, cc, rfl⟩ := hc.shape
  obtain ⟨at_, ct, rfl⟩ := hv.shape
  clear ha hb hc hv hE
  obtain ⟨w0, hw0⟩ : ∃ w0, w.alloc (.cells #[.slice aa A.length ca, .slice ab B.length cb, .slice ac C.length cc] 51) = w0 := ⟨_, rfl⟩
  rw [hw0] at HX0 HV0
  cases hA : longB A with
  | true =>
    go_enter Try.func10, Try.ntmps10
    try rw [hw0]
    have q0_0 := HX0.out.c0; have q1_0 := HX0.out.c1; have q2_0 := HX0.out.c2
    have L0 := Lib.hid (long_any _ A w0 HX0.out.a la)
    rw [hA] at L0
    go_wp2_with fail
    refine L0.out.mono ?_
    rintro e w1 ⟨rfl, hb1⟩
    have HX1 := Lib.hid (HX0.out.below hb1)
    have HV1 := Lib.hid (HV0.out.below hb1)
    clear hb1 q0_0 q1_0 q2_0
    have q0_1 := HX1.out.c0; have q1_1 := HX1.out.c1; have q2_1 := HX1.out.c2
    have AW := Lib.hid (awake_any w1 HX1.out.env)
    go_wp2_with fail
    refine AW.out.mono ?_
    rintro e w2 ⟨rfl, hbz⟩
    have HBZ := Lib.hid (HX1.out.bel.trans (hbz.mono HX1.out.bel.size))
    clear hbz
    go_wp2_with fail
    go_ret
    exact ⟨rfl, HBZ.out⟩
  | false =>
    cases hB : longB B with
    | true =>
      go_enter Try.func10, Try.ntmps10
      try rw [hw0]
      have q0_0 := HX0.out.c0; have q1_0 := HX0.out.c1; have q2_0 := HX0.out.c2
      have L0 := Lib.hid (long_any _ A w0 HX0.out.a la)
      rw [hA] at L0
      go_wp2_with fail
      refine L0.out.mono ?_
      rintro e w1 ⟨rfl, hb1⟩
      have HX1 := Lib.hid (HX0.out.below hb1)
      have HV1 := Lib.hid (HV0.out.below hb1)
      clear hb1 q0_0 q1_0 q2_0
      have q0_1 := HX1.out.c0; have q1_1 := HX1.out.c1; have q2_1 := HX1.out.c2
      have L1 := Lib.hid (long_any _ B w1 HX1.out.b lb)
      rw [hB] at L1
      go_wp2_with fail
      refine L1.out.mono ?_
      rintro e w2 ⟨rfl, hb2⟩
      have HX2 := Lib.hid (HX1.out.below hb2)
      have HV2 := Lib.hid (HV1.out.below hb2)
      clear hb2 q0_1 q1_1 q2_1
      have q0_2 := HX2.out.c0; have q1_2 := HX2.out.c1; have q2_2 := HX2.out.c2
      have AW := Lib.hid (awake_any w2 HX2.out.env)
      go_wp2_with fail
      refine AW.out.mono ?_
      rintro e w3 ⟨rfl, hbz⟩
      have HBZ := Lib.hid (HX2.out.bel.trans (hbz.mono HX2.out.bel.size))
      clear hbz
      go_wp2_with fail
      go_ret
      exact ⟨rfl, HBZ.out⟩
    | false =>
      cases hC : longB C with
      | true =>
        go_enter Try.func10, Try.ntmps10
        try rw [hw0]
        have q0_0 := HX0.out.c0; have q1_0 := HX0.out.c1; have q2_0 := HX0.out.c2
        have L0 := Lib.hid (long_any _ A w0 HX0.out.a la)
        rw [hA] at L0
        go_wp2_with fail
        refine L0.out.mono ?_
        rintro e w1 ⟨rfl, hb1⟩
        have HX1 := Lib.hid (HX0.out.below hb1)
        have HV1 := Lib.hid (HV0.out.below hb1)
        clear hb1 q0_0 q1_0 q2_0
        have q0_1 := HX1.out.c0; have q1_1 := HX1.out.c1; have q2_1 := HX1.out.c2
        have L1 := Lib.hid (long_any _ B w1 HX1.out.b lb)
        rw [hB] at L1
        go_wp2_with fail
        refine L1.out.mono ?_
        rintro e w2 ⟨rfl, hb2⟩
        have HX2 := Lib.hid (HX1.out.below hb2)
        have HV2 := Lib.hid (HV1.out.below hb2)
        clear hb2 q0_1 q1_1 q2_1
        have q0_2 := HX2.out.c0; have q1_2 := HX2.out.c1; have q2_2 := HX2.out.c2
        have L2 := Lib.hid (long_any _ C w2 HX2.out.c lc)
        rw [hC] at L2
        go_wp2_with fail
        refine L2.out.mono ?_
        rintro e w3 ⟨rfl, hb3⟩
        have HX3 := Lib.hid (HX2.out.below hb3)
        have HV3 := Lib.hid (HV2.out.below hb3)
        clear hb3 q0_2 q1_2 q2_2
        have q0_3 := HX3.out.c0; have q1_3 := HX3.out.c1; have q2_3 := HX3.out.c2
        have AW := Lib.hid (awake_any w3 HX3.out.env)
        go_wp2_with fail
        refine AW.out.mono ?_
        rintro e w4 ⟨rfl, hbz⟩
        have HBZ := Lib.hid (HX3.out.bel.trans (hbz.mono HX3.out.bel.size))
        clear hbz
        go_wp2_with fail
        go_ret
        exact ⟨rfl, HBZ.out⟩
      | false =>
        cases hT : longB T with
        | true =>
          go_enter Try.func10, Try.ntmps10
          try rw [hw0]
          have q0_0 := HX0.out.c0; have q1_0 := HX0.out.c1; have q2_0 := HX0.out.c2
          have L0 := Lib.hid (long_any _ A w0 HX0.out.a la)
          rw [hA] at L0
          go_wp2_with fail
          refine L0.out.mono ?_
          rintro e w1 ⟨rfl, hb1⟩
          have HX1 := Lib.hid (HX0.out.below hb1)
          have HV1 := Lib.hid (HV0.out.below hb1)
          clear hb1 q0_0 q1_0 q2_0
          have q0_1 := HX1.out.c0; have q1_1 := HX1.out.c1; have q2_1 := HX1.out.c2
          have L1 := Lib.hid (long_any _ B w1 HX1.out.b lb)
          rw [hB] at L1
          go_wp2_with fail
          refine L1.out.mono ?_
          rintro e w2 ⟨rfl, hb2⟩
          have HX2 := Lib.hid (HX1.out.below hb2)
          have HV2 := Lib.hid (HV1.out.below hb2)
          clear hb2 q0_1 q1_1 q2_1
          have q0_2 := HX2.out.c0; have q1_2 := HX2.out.c1; have q2_2 := HX2.out.c2
          have L2 := Lib.hid (long_any _ C w2 HX2.out.c lc)
          rw [hC] at L2
          go_wp2_with fail
          refine L2.out.mono ?_
          rintro e w3 ⟨rfl, hb3⟩
          have HX3 := Lib.hid (HX2.out.below hb3)
          have HV3 := Lib.hid (HV2.out.below hb3)
          clear hb3 q0_2 q1_2 q2_2
          have q0_3 := HX3.out.c0; have q1_3 := HX3.out.c1; have q2_3 := HX3.out.c2
          have L3 := Lib.hid (long_any _ T w3 HV3.out lv)
          rw [hT] at L3
          go_wp2_with fail
          refine L3.out.mono ?_
          rintro e w4 ⟨rfl, hb4⟩
          have HX4 := Lib.hid (HX3.out.below hb4)
          have HV4 := Lib.hid (HV3.out.below hb4)
          clear hb4 q0_3 q1_3 q2_3
          have q0_4 := HX4.out.c0; have q1_4 := HX4.out.c1; have q2_4 := HX4.out.c2
          have AW := Lib.hid (awake_any w4 HX4.out.env)
          go_wp2_with fail
          refine AW.out.mono ?_
          rintro e w5 ⟨rfl, hbz⟩
          have HBZ := Lib.hid (HX4.out.bel.trans (hbz.mono HX4.out.bel.size))
          clear hbz
          go_wp2_with fail
          go_ret
          exact ⟨rfl, HBZ.out⟩
        | false =>
          have MA := Lib.hid (long_modest hA)
          have MB := Lib.hid (long_modest hB)
          have MC := Lib.hid (long_modest hC)
          have MT := Lib.hid (long_modest hT)
          have lA : A.length ≤ 20 := (longB_no hA).1
          have lB : B.length ≤ 20 := (longB_no hB).1
          have lC : C.length ≤ 20 := (longB_no hC).1
          have lT : T.length ≤ 20 := (longB_no hT).1
          obtain ⟨z1, hz1⟩ : ∃ z1, Hid (MoveE A C T = z1) := ⟨_, Lib.hid rfl⟩
          obtain ⟨z2, hz2⟩ : ∃ z2, Hid (MoveE B C T = z2) := ⟨_, Lib.hid rfl⟩
          by_cases e1 : z1 = 0
          · subst e1
            have R1 := Lib.hid (moved hz1.out)
            by_cases e2 : z2 = 0
            · subst e2
              have R2 := Lib.hid (moved hz2.out)
              go_enter Try.func10, Try.ntmps10
              try rw [hw0]
              have q0_0 := HX0.out.c0; have q1_0 := HX0.out.c1; have q2_0 := HX0.out.c2
              have L0 := Lib.hid (long_any _ A w0 HX0.out.a la)
              rw [hA] at L0
              go_wp2_with fail
              refine L0.out.mono ?_
              rintro e w1 ⟨rfl, hb1⟩
              have HX1 := Lib.hid (HX0.out.below hb1)
              have HV1 := Lib.hid (HV0.out.below hb1)
              clear hb1 q0_0 q1_0 q2_0
              have q0_1 := HX1.out.c0; have q1_1 := HX1.out.c1; have q2_1 := HX1.out.c2
              have L1 := Lib.hid (long_any _ B w1 HX1.out.b lb)
              rw [hB] at L1
              go_wp2_with fail
              refine L1.out.mono ?_
              rintro e w2 ⟨rfl, hb2⟩
              have HX2 := Lib.hid (HX1.out.below hb2)
              have HV2 := Lib.hid (HV1.out.below hb2)
              clear hb2 q0_1 q1_1 q2_1
              have q0_2 := HX2.out.c0; have q1_2 := HX2.out.c1; have q2_2 := HX2.out.c2
              have L2 := Lib.hid (long_any _ C w2 HX2.out.c lc)
              rw [hC] at L2
              go_wp2_with fail
              refine L2.out.mono ?_
              rintro e w3 ⟨rfl, hb3⟩
              have HX3 := Lib.hid (HX2.out.below hb3)
              have HV3 := Lib.hid (HV2.out.below hb3)
              clear hb3 q0_2 q1_2 q2_2
              have q0_3 := HX3.out.c0; have q1_3 := HX3.out.c1; have q2_3 := HX3.out.c2
              have L3 := Lib.hid (long_any _ T w3 HV3.out lv)
              rw [hT] at L3
              go_wp2_with fail
              refine L3.out.mono ?_
              rintro e w4 ⟨rfl, hb4⟩
              have HX4 := Lib.hid (HX3.out.below hb4)
              have HV4 := Lib.hid (HV3.out.below hb4)
              clear hb4 q0_3 q1_3 q2_3
              have q0_4 := HX4.out.c0; have q1_4 := HX4.out.c1; have q2_4 := HX4.out.c2
              have K4 := Lib.hid (Move_any _ _ _ A C T w4 HX4.out.a HX4.out.c HV4.out MA.out MC.out MT.out)
              rw [show MoveE A C T = 0 from hz1.out] at K4
              go_wp2_with fail
              refine K4.out.mono ?_
              rintro e w5 ⟨u1, rfl, hu1, hbx⟩
              have HX5 := Lib.hid (HX4.out.below hbx)
              have HV5 := Lib.hid (HV4.out.below hbx)
              have HU5 := Lib.hid hu1
              obtain ⟨au1, cu1, rfl⟩ := hu1.shape
              clear hu1
              clear hbx q0_4 q1_4 q2_4
              have q0_5 := HX5.out.c0; have q1_5 := HX5.out.c1; have q2_5 := HX5.out.c2
              have K5 := Lib.hid (Move_any _ _ _ B C T w5 HX5.out.b HX5.out.c HV5.out MB.out MC.out MT.out)
              rw [show MoveE B C T = 0 from hz2.out] at K5
              go_wp2_with fail
              refine K5.out.mono ?_
              rintro e w6 ⟨u2, rfl, hu2, hbx⟩
              have HX6 := Lib.hid (HX5.out.below hbx)
              have HV6 := Lib.hid (HV5.out.below hbx)
              have HW6 := Lib.hid hu2
              obtain ⟨au2, cu2, rfl⟩ := hu2.shape
              have HU6 := Lib.hid (HU5.out.below hbx)
              clear hu2
              clear hbx q0_5 q1_5 q2_5
              have q0_6 := HX6.out.c0; have q1_6 := HX6.out.c1; have q2_6 := HX6.out.c2
              have lU : (MoveP A C T).length ≤ 8 := by have h1 := R1.out.len; rw [R1.out.res, List.length_append, List.length_drop]; omega
              have lW : (MoveP B C T).length ≤ 8 := by have h1 := R2.out.len; rw [R2.out.res, List.length_append, List.length_drop]; omega
              have MU : Hid (Modest (MoveP A C T)) := Lib.hid (by rw [R1.out.res]; exact (checked_small R1.out.check).modest)
              have MW : Hid (Modest (MoveP B C T)) := Lib.hid (by rw [R2.out.res]; exact (checked_small R2.out.check).modest)
              obtain ⟨D, HD⟩ : ∃ D, Hid (D = C ++ A.drop C.length) := ⟨_, Lib.hid rfl⟩
              have K6 := Lib.hid (Move_any _ _ _ (MoveP A C T) T C w6 HU6.out HV6.out HX6.out.c MU.out MT.out MC.out)
              rw [show MoveE (MoveP A C T) T C = 0 by rw [R1.out.res]; exact R1.out.backE] at K6
              rw [show MoveP (MoveP A C T) T C = D by rw [R1.out.res, HD.out]; exact R1.out.backP] at K6
              go_wp2_with fail
              refine K6.out.mono ?_
              rintro e w7 ⟨u3, rfl, hu3, hbx⟩
              have HX7 := Lib.hid (HX6.out.below hbx)
              have HV7 := Lib.hid (HV6.out.below hbx)
              have HB7 := Lib.hid hu3
              obtain ⟨au3, cu3, rfl⟩ := hu3.shape
              have HU7 := Lib.hid (HU6.out.below hbx)
              have HW7 := Lib.hid (HW6.out.below hbx)
              clear hu3
              clear hbx q0_6 q1_6 q2_6
              have q0_7 := HX7.out.c0; have q1_7 := HX7.out.c1; have q2_7 := HX7.out.c2
              have K7 := Lib.hid (Under_any _ _ (MoveP A C T) T w7 HU7.out HV7.out MU.out MT.out)
              rw [show UnderV (MoveP A C T) T = true by rw [R1.out.res]; exact R1.out.underV] at K7
              rw [show bothE (MoveP A C T) T = 0 by rw [R1.out.res]; exact R1.out.underE] at K7
              go_wp2_with fail
              refine K7.out.mono ?_
              rintro e w8 ⟨rfl, hbx⟩
              have HX8 := Lib.hid (HX7.out.below hbx)
              have HV8 := Lib.hid (HV7.out.below hbx)
              have HU8 := Lib.hid (HU7.out.below hbx)
              have HW8 := Lib.hid (HW7.out.below hbx)
              have HB8 := Lib.hid (HB7.out.below hbx)
              clear hbx q0_7 q1_7 q2_7
              have q0_8 := HX8.out.c0; have q1_8 := HX8.out.c1; have q2_8 := HX8.out.c2
              have RB := Lib.hid (moved_both R1.out R2.out)
              obtain ⟨zc, hzc⟩ : ∃ zc, Hid (compareV A B = zc) := ⟨_, Lib.hid rfl⟩
              have K8 := Lib.hid (Compare_any _ _ A B w8 HX8.out.a HX8.out.b MA.out MB.out)
              rw [show compareV A B = zc from hzc.out] at K8
              rw [RB.out.1] at K8
              go_wp2_with fail
              refine K8.out.mono ?_
              rintro e w9 ⟨rfl, hbx⟩
              have HX9 := Lib.hid (HX8.out.below hbx)
              have HV9 := Lib.hid (HV8.out.below hbx)
              have HU9 := Lib.hid (HU8.out.below hbx)
              have HW9 := Lib.hid (HW8.out.below hbx)
              have HB9 := Lib.hid (HB8.out.below hbx)
              clear hbx q0_8 q1_8 q2_8
              have q0_9 := HX9.out.c0; have q1_9 := HX9.out.c1; have q2_9 := HX9.out.c2
              have K9 := Lib.hid (Compare_any _ _ (MoveP A C T) (MoveP B C T) w9 HU9.out HW9.out MU.out MW.out)
              rw [show compareV (MoveP A C T) (MoveP B C T) = zc by rw [R1.out.res, R2.out.res, RB.out.2.2]; exact hzc.out] at K9
              rw [show bothE (MoveP A C T) (MoveP B C T) = 0 by rw [R1.out.res, R2.out.res]; exact RB.out.2.1] at K9
              go_wp2_with fail
              refine K9.out.mono ?_
              rintro e w10 ⟨rfl, hbx⟩
              have HX10 := Lib.hid (HX9.out.below hbx)
              have HV10 := Lib.hid (HV9.out.below hbx)
              have HB10 := Lib.hid (HB9.out.below hbx)
              clear hbx q0_9 q1_9 q2_9
              have q0_10 := HX10.out.c0; have q1_10 := HX10.out.c1; have q2_10 := HX10.out.c2
              have lB3 : D.length ≤ 140737488355328 := by rw [HD.out, List.length_append, List.length_drop]; omega
              have K10 := Lib.hid (sameR_any _ _ D A w10 HB10.out HX10.out.a lB3 (by omega))
              rw [show sameB D A = true by rw [HD.out]; exact R1.out.same] at K10
              go_wp2_with fail
              refine K10.out.mono ?_
              rintro e w11 ⟨rfl, hbx⟩
              have HX11 := Lib.hid (HX10.out.below hbx)
              have HV11 := Lib.hid (HV10.out.below hbx)
              clear hbx q0_10 q1_10 q2_10
              have q0_11 := HX11.out.c0; have q1_11 := HX11.out.c1; have q2_11 := HX11.out.c2
              have AW := Lib.hid (awake_any w11 HX11.out.env)
              go_wp2_with fail
              refine AW.out.mono ?_
              rintro e w12 ⟨rfl, hbz⟩
              have HBZ := Lib.hid (HX11.out.bel.trans (hbz.mono HX11.out.bel.size))
              clear hbz
              go_wp2_with fail
              go_ret
              exact ⟨rfl, HBZ.out⟩
            · have hz2' : (z2 != 0) = true := by simpa using e2
              have hz2'' : (z2 == 0) = false := by simpa using e2
              go_enter Try.func10, Try.ntmps10
              try rw [hw0]
              have q0_0 := HX0.out.c0; have q1_0 := HX0.out.c1; have q2_0 := HX0.out.c2
              have L0 := Lib.hid (long_any _ A w0 HX0.out.a la)
              rw [hA] at L0
              go_wp2_with fail
              refine L0.out.mono ?_
              rintro e w1 ⟨rfl, hb1⟩
              have HX1 := Lib.hid (HX0.out.below hb1)
              have HV1 := Lib.hid (HV0.out.below hb1)
              clear hb1 q0_0 q1_0 q2_0
              have q0_1 := HX1.out.c0; have q1_1 := HX1.out.c1; have q2_1 := HX1.out.c2
              have L1 := Lib.hid (long_any _ B w1 HX1.out.b lb)
              rw [hB] at L1
              go_wp2_with fail
              refine L1.out.mono ?_
              rintro e w2 ⟨rfl, hb2⟩
              have HX2 := Lib.hid (HX1.out.below hb2)
              have HV2 := Lib.hid (HV1.out.below hb2)
              clear hb2 q0_1 q1_1 q2_1
              have q0_2 := HX2.out.c0; have q1_2 := HX2.out.c1; have q2_2 := HX2.out.c2
              have L2 := Lib.hid (long_any _ C w2 HX2.out.c lc)
              rw [hC] at L2
              go_wp2_with fail
              refine L2.out.mono ?_
              rintro e w3 ⟨rfl, hb3⟩
              have HX3 := Lib.hid (HX2.out.below hb3)
              have HV3 := Lib.hid (HV2.out.below hb3)
              clear hb3 q0_2 q1_2 q2_2
              have q0_3 := HX3.out.c0; have q1_3 := HX3.out.c1; have q2_3 := HX3.out.c2
              have L3 := Lib.hid (long_any _ T w3 HV3.out lv)
              rw [hT] at L3
              go_wp2_with fail
              refine L3.out.mono ?_
              rintro e w4 ⟨rfl, hb4⟩
              have HX4 := Lib.hid (HX3.out.below hb4)
              have HV4 := Lib.hid (HV3.out.below hb4)
              clear hb4 q0_3 q1_3 q2_3
              have q0_4 := HX4.out.c0; have q1_4 := HX4.out.c1; have q2_4 := HX4.out.c2
              have K4 := Lib.hid (Move_any _ _ _ A C T w4 HX4.out.a HX4.out.c HV4.out MA.out MC.out MT.out)
              rw [show MoveE A C T = 0 from hz1.out] at K4
              go_wp2_with fail
              refine K4.out.mono ?_
              rintro e w5 ⟨u1, rfl, hu1, hbx⟩
              have HX5 := Lib.hid (HX4.out.below hbx)
              have HV5 := Lib.hid (HV4.out.below hbx)
              have HU5 := Lib.hid hu1
              obtain ⟨au1, cu1, rfl⟩ := hu1.shape
              clear hu1
              clear hbx q0_4 q1_4 q2_4
              have q0_5 := HX5.out.c0; have q1_5 := HX5.out.c1; have q2_5 := HX5.out.c2
              have K5 := Lib.hid (Move_any _ _ _ B C T w5 HX5.out.b HX5.out.c HV5.out MB.out MC.out MT.out)
              rw [show MoveE B C T = z2 from hz2.out] at K5
              go_wp2_with fail
              refine K5.out.mono ?_
              rintro e w6 ⟨u2, rfl, hu2, hbx⟩
              have HX6 := Lib.hid (HX5.out.below hbx)
              have HV6 := Lib.hid (HV5.out.below hbx)
              have HW6 := Lib.hid hu2
              obtain ⟨au2, cu2, rfl⟩ := hu2.shape
              have HU6 := Lib.hid (HU5.out.below hbx)
              clear hu2
              clear hbx q0_5 q1_5 q2_5
              have q0_6 := HX6.out.c0; have q1_6 := HX6.out.c1; have q2_6 := HX6.out.c2
              have AW := Lib.hid (awake_any w6 HX6.out.env)
              go_wp2_with fail
              refine AW.out.mono ?_
              rintro e w7 ⟨rfl, hbz⟩
              have HBZ := Lib.hid (HX6.out.bel.trans (hbz.mono HX6.out.bel.size))
              clear hbz
              go_wp2_with fail
              go_ret
              exact ⟨rfl, HBZ.out⟩
          · have hz1' : (z1 != 0) = true := by simpa using e1
            have hz1'' : (z1 == 0) = false := by simpa using e1
            have HN := Lib.hid (MoveP_err (A := A) (C := C) (T := T) (by rw [hz1.out]; exact e1))
            go_enter Try.func10, Try.ntmps10
            try rw [hw0]
            have q0_0 := HX0.out.c0; have q1_0 := HX0.out.c1; have q2_0 := HX0.out.c2
            have L0 := Lib.hid (long_any _ A w0 HX0.out.a la)
            rw [hA] at L0
            go_wp2_with fail
            refine L0.out.mono ?_
            rintro e w1 ⟨rfl, hb1⟩
            have HX1 := Lib.hid (HX0.out.below hb1)
            have HV1 := Lib.hid (HV0.out.below hb1)
            clear hb1 q0_0 q1_0 q2_0
            have q0_1 := HX1.out.c0; have q1_1 := HX1.out.c1; have q2_1 := HX1.out.c2
            have L1 := Lib.hid (long_any _ B w1 HX1.out.b lb)
            rw [hB] at L1
            go_wp2_with fail
            refine L1.out.mono ?_
            rintro e w2 ⟨rfl, hb2⟩
            have HX2 := Lib.hid (HX1.out.below hb2)
            have HV2 := Lib.hid (HV1.out.below hb2)
            clear hb2 q0_1 q1_1 q2_1
            have q0_2 := HX2.out.c0; have q1_2 := HX2.out.c1; have q2_2 := HX2.out.c2
            have L2 := Lib.hid (long_any _ C w2 HX2.out.c lc)
            rw [hC] at L2
            go_wp2_with fail
            refine L2.out.mono ?_
            rintro e w3 ⟨rfl, hb3⟩
            have HX3 := Lib.hid (HX2.out.below hb3)
            have HV3 := Lib.hid (HV2.out.below hb3)
            clear hb3 q0_2 q1_2 q2_2
            have q0_3 := HX3.out.c0; have q1_3 := HX3.out.c1; have q2_3 := HX3.out.c2
            have L3 := Lib.hid (long_any _ T w3 HV3.out lv)
            rw [hT] at L3
            go_wp2_with fail
            refine L3.out.mono ?_
            rintro e w4 ⟨rfl, hb4⟩
            have HX4 := Lib.hid (HX3.out.below hb4)
            have HV4 := Lib.hid (HV3.out.below hb4)
            clear hb4 q0_3 q1_3 q2_3
            have q0_4 := HX4.out.c0; have q1_4 := HX4.out.c1; have q2_4 := HX4.out.c2
            have K4 := Lib.hid (Move_any _ _ _ A C T w4 HX4.out.a HX4.out.c HV4.out MA.out MC.out MT.out)
            rw [show MoveE A C T = z1 from hz1.out] at K4
            rw [HN.out] at K4
            go_wp2_with fail
            refine K4.out.mono ?_
            rintro e w5 ⟨u1, rfl, hu1, hbx⟩
            have HX5 := Lib.hid (HX4.out.below hbx)
            have HV5 := Lib.hid (HV4.out.below hbx)
            obtain ⟨au1, cu1, rfl⟩ := hu1.shape
            clear hu1
            clear hbx q0_4 q1_4 q2_4
            have q0_5 := HX5.out.c0; have q1_5 := HX5.out.c1; have q2_5 := HX5.out.c2
            have K5 := Lib.hid (Move_any _ _ _ B C T w5 HX5.out.b HX5.out.c HV5.out MB.out MC.out MT.out)
            rw [show MoveE B C T = z2 from hz2.out] at K5
            go_wp2_with fail
            refine K5.out.mono ?_
            rintro e w6 ⟨u2, rfl, hu2, hbx⟩
            have HX6 := Lib.hid (HX5.out.below hbx)
            have HV6 := Lib.hid (HV5.out.below hbx)
            obtain ⟨au2, cu2, rfl⟩ := hu2.shape
            clear hu2
            clear hbx q0_5 q1_5 q2_5
            have q0_6 := HX6.out.c0; have q1_6 := HX6.out.c1; have q2_6 := HX6.out.c2
            have AW := Lib.hid (awake_any w6 HX6.out.env)
            go_wp2_with fail
            refine AW.out.mono ?_
            rintro e w7 ⟨rfl, hbz⟩
            have HBZ := Lib.hid (HX6.out.bel.trans (hbz.mono HX6.out.bel.size))
            clear hbz
            go_wp2_with fail
            go_ret
            exact ⟨rfl, HBZ.out⟩
end Go.Proofs.Ytbgfeonlnhlbfaa
