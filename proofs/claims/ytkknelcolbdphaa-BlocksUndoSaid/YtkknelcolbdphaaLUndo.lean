/- The law BlocksUndo. -/
import Derived.Test.YtkknelcolbdphaaLFirst
import Derived.Test.YtkknelcolbdphaaUndoV
import Derived.Test.YtkknelcolbdphaaPutB
import Derived.Test.YtkknelcolbdphaaRuns
namespace Go.Proofs.Ytkknelcolbdphaa
open Go.RowKit
set_option maxRecDepth 100000

theorem nats_ints {w : World} {v : Value} {L : List Nat} (h : NatsAt w v L) : IntsAt w v (toI L) := by
  rcases h with ⟨a, c, rfl, rfl⟩ | ⟨g, o, c, rfl, hg, hc⟩
  · exact .inl ⟨a, c, rfl, rfl⟩
  · refine .inr ⟨g, o, c, by rw [toI_len], hg, fun k hk => ?_⟩
    rw [toI_len] at hk
    have e : (toI L)[k]'(by rw [toI_len]; exact hk) = (L[k] : Int) := by
      have := toI_get L k hk
      rw [List.getD_eq_getElem?_getD, List.getElem?_eq_getElem (by rw [toI_len]; exact hk)] at this
      exact this
    rw [hc k hk, e]; rfl
/-- What region 3 loads. -/
abbrev UnS (w w2 : World) (l : Lay) (v : Value) (W : World) : Prop :=
  (W.cell? ⟨w.heap.size, 0, none⟩ = some (.int .i64 l.s) ∧ W.cell? ⟨w.heap.size, 1, none⟩ = some (.int .i64 l.j) ∧ W.cell? ⟨w.heap.size, 2, none⟩ = some (.int .i64 l.n) ∧ W.cell? ⟨w.heap.size, 3, none⟩ = some v) ∧ Below w2.heap.size w2 W
/-- What Alloc gives. -/
def UnA (l : Lay) (U : List Bool) (a q : Nat) (w2 : World) (e : Ending) (W : World) : Prop :=
  ∃ vt vl, e = .returned (.tuple #[.agg (stA l vt), vl, .int .i64 (allocE l U a q)]) ∧ BoolsAt W vt (allocU l U a q) ∧ NatsAt W vl (allocL l U a q) ∧ Below w2.heap.size w2 W
theorem RunsMem.heap {A B : World} {v : Value} {R : List (Nat × Nat)} (h : RunsMem A v R) (e : B.heap = A.heap) : RunsMem B v R := by
  rcases h with h | ⟨g, o, c, rfl, hg, hc⟩
  · exact .inl h
  · refine .inr ⟨g, o, c, rfl, by rw [e]; exact hg, fun k hk => ?_⟩
    have := hc k hk
    unfold World.cell? at this ⊢
    rw [e]; exact this
theorem runs_cell {w : World} {s : Option Addr} {n c : Nat} {R : List (Nat × Nat)} (h : RunsMem w (.slice s n c) R) {k : Nat} (hk : k < R.length) :
    ∃ g o, s = some ⟨g, o, none⟩ ∧ w.cell? ⟨g, o + k * 2, none⟩ = some (.int .i64 (R[k].1 : Int)) ∧ w.cell? ⟨g, o + k * 2 + 1, none⟩ = some (.int .i64 (R[k].2 : Int)) := by
  rcases h with ⟨a, c', _, h⟩ | ⟨g, o, c', e, hg, hc⟩
  · subst h; simp at hk
  · injection e with e1
    exact ⟨g, o, e1, hc k hk⟩
/-- What Alloc gives behind a box that is already there. -/
def UnZ (l : Lay) (U : List Bool) (a q : Nat) (w2 : World) (e : Ending) (W : World) : Prop :=
  ∃ vt vl, e = .returned (.tuple #[.agg (stA l vt), vl, .int .i64 (allocE l U a q)]) ∧ OwnB W (w2.heap.size + 1) vt (allocU l U a q) ∧ OwnN W (w2.heap.size + 1) vl (allocL l U a q) ∧ Below w2.heap.size w2 W ∧ Row W w2.heap.size #[.int .i64 0, .int .i64 0, .int .i64 0, .slice none 0 0] 33
theorem kept_sets4 (w : World) (b : Nat) (x' y' z' u' : Value) : Kept (fun k => k = b) w ((((w.setCell ⟨b, 0, none⟩ x').setCell ⟨b, 1, none⟩ y').setCell ⟨b, 2, none⟩ z').setCell ⟨b, 3, none⟩ u') :=
  ((((Kept.refl (fun k => k = b) w).setCell ⟨b, 0, none⟩ rfl x').setCell ⟨b, 1, none⟩ rfl y').setCell ⟨b, 2, none⟩ rfl z').setCell ⟨b, 3, none⟩ rfl u'
/-- The four boxes of the law, and what they hold. -/
structure UnB (l : Lay) (U T : List Bool) (bS bA bF bG : Nat) (vS vA vF vG vl : Value) (L : List Nat) (W : World) : Prop where
  s : Row W bS (stA l vS) 33
  a : Row W bA (stA l vA) 33
  f : Row W bF (stA l vF) 33
  g : Row W bG (stA l vG) 33
  us : BoolsAt W vS U
  ua : BoolsAt W vA T
  uf : BoolsAt W vF U
  ug : BoolsAt W vG T
  ll : NatsAt W vl L
theorem UnB.below {l : Lay} {U T : List Bool} {bS bA bF bG : Nat} {vS vA vF vG vl : Value} {L : List Nat} {A B : World} (h : UnB l U T bS bA bF bG vS vA vF vG vl L A) (hb : Below A.heap.size A B) : UnB l U T bS bA bF bG vS vA vF vG vl L B :=
  ⟨h.s.below hb h.s.lt, h.a.below hb h.a.lt, h.f.below hb h.f.lt, h.g.below hb h.g.lt, h.us.below hb (Nat.le_refl _), h.ua.below hb (Nat.le_refl _), h.uf.below hb (Nat.le_refl _), h.ug.below hb (Nat.le_refl _), h.ll.below hb (Nat.le_refl _)⟩
set_option maxHeartbeats 4000000 in
theorem undo_any (w : World) (l : Lay) (v : Value) (U : List Bool) (near q : Nat) (hv : BoolsAt w v U) (hU0 : U.length ≤ maxLen) (hnear : near < 65536) (hq : q < 256) :
    Calls Try.prog 9 #[.agg (stA l v), .int .u16 (near : Int), .int .u8 (q : Int)] w fun e w' => e = .returned (.bool true) ∧ Below w.heap.size w w' := by
  obtain ⟨s, c, rfl⟩ := hv.val
  have HAW := Lib.hid awake_any
  obtain ⟨w0, hw0, hr0, hb0⟩ := box_st l (.slice s U.length c) w
  have HB0 := Lib.hid hb0
  have HR0 := Lib.hid hr0
  have HF := Lib.hid (far_any l U s c w0)
  have HV0 := Lib.hid (hv.below hb0 (Nat.le_refl _))
  have HCK := Lib.hid (check_any l U s c)
  obtain ⟨x0, x1, x2, x3⟩ := hr0.four'
  clear hr0 hb0 hv
  unfold stA at HF HCK ⊢
  by_cases hfar : 300 < U.length
  · have hdf : decide (300 < U.length) = true := by simpa using hfar
    rw [hdf] at HF
    go_enter Try.func9, Try.ntmps9
    go_wp2_with (rw [hw0])
    refine HF.out.mono ?_
    rintro e w1 ⟨rfl, hb1⟩
    have HBZ := Lib.hid (HB0.out.trans (hb1.mono HB0.out.size))
    clear hb1 x0 x1 x2 x3
    go_wp2_with fail
    refine (HAW.out _).mono ?_
    rintro e w9 ⟨rfl, hb9⟩
    have HB9 := Lib.hid (HBZ.out.trans (hb9.mono HBZ.out.size))
    clear hb9
    go_wp2_with fail
    go_ret
    exact ⟨rfl, HB9.out⟩

  · have hdf : decide (300 < U.length) = false := by simpa using hfar
    rw [hdf] at HF
    have hU : U.length ≤ 1000 := by omega
    obtain ⟨E, hEE⟩ : ∃ E, chkE l U = E := ⟨_, rfl⟩
    have HEE := Lib.hid hEE
    rw [hEE] at HCK
    go_enter Try.func9, Try.ntmps9
    go_wp2_with (rw [hw0])
    refine HF.out.mono ?_
    rintro e w1 ⟨rfl, hb1⟩
    have HB1 := Lib.hid hb1
    clear hb1 x0 x1 x2 x3
    obtain ⟨x0, x1, x2, x3⟩ := (HR0.out.below HB1.out HR0.out.lt).four'
    go_wp2_with fail
    refine (HCK.out _).mono ?_
    rintro e w2 ⟨rfl, hb2⟩
    have HB2 := Lib.hid (HB1.out.trans (hb2.mono HB1.out.size))
    clear hb2 x0 x1 x2 x3
    by_cases hE : E = 0
    · subst hE
      obtain ⟨hn8, hn245⟩ := chkE_len hEE
      have hd0 : ((U.length : Int) == 0) = false := beq_eq_false_iff_ne.2 (by omega)
      have hm1 : ((near : Int)).tmod (U.length : Int) = ((near % U.length : Nat) : Int) := by rw [Int.ofNat_tmod]
      have hm2 : ((near : Int)) % (U.length : Int) = ((near % U.length : Nat) : Int) := (Int.natCast_emod _ _).symm
      have ha : near % U.length < U.length := Nat.mod_lt _ (by omega)
      have hw1 : IntKind.i64.wrap (((near : Nat) : Int).tmod (U.length : Int)) = ((near % U.length : Nat) : Int) := by rw [hm1, IntKind.wrap_i64]; omega
      have hwn : IntKind.i64.wrap ((near : Nat) : Int) = (near : Int) := by rw [IntKind.wrap_i64]; omega
      have hwq : IntKind.i64.wrap ((q : Nat) : Int) = (q : Int) := by rw [IntKind.wrap_i64]; omega
      have hz1 : ((U.length : Int) = 0) = False := eq_false (by omega)
      have hz2 : (U.length = 0) = False := eq_false (by omega)
      generalize near % U.length = a at *
      have HAE : Hid (allocE l U a q = if (freeL U 0).length < q then 11 else 0) := Lib.hid (by
        unfold allocE
        rw [if_pos hEE, if_pos (by unfold inB; simp; omega)]
        by_cases h : (freeL U 0).length < q
        · rw [if_pos h, if_pos (by omega)]
        · rw [if_neg h, if_neg (by omega)])
      have HRB := HR0.out.below HB2.out HR0.out.lt
      have HNX : Hid (∀ X, Below w2.heap.size w2 X → UnS w w2 l (.slice s U.length c) X) := Lib.hid (fun X h => ⟨(HRB.below h HRB.lt).four', h⟩)
      have HVB := HV0.out.below HB2.out (Nat.le_refl _)
      have HAL : Hid (Calls Try.prog 20 #[.agg (stA l (.slice s U.length c)), .int .i64 a, .int .i64 q] w2.drew (UnA l U a q w2)) := Lib.hid ((alloc_any (w := w2.drew) (l := l) a q (HVB.below (Below.refl _ _).drew (Nat.le_refl _)) hU).mono (fun e W ⟨vt, vl, he, ho, hl, hb⟩ => ⟨vt, vl, he, ho.at_, hl.at_, (Below.refl _ _).drew.trans hb⟩))
      have HAZ : Hid (Calls Try.prog 20 #[.agg (stA l (.slice s U.length c)), .int .i64 a, .int .i64 q] (w2.alloc (.cells #[.int .i64 0, .int .i64 0, .int .i64 0, .slice none 0 0] 33 (0, 0))).drew (UnZ l U a q w2)) :=
        Lib.hid ((alloc_any (w := (w2.alloc (.cells #[.int .i64 0, .int .i64 0, .int .i64 0, .slice none 0 0] 33 (0, 0))).drew) (l := l) a q (HVB.below ((Below.refl _ _).alloc (Nat.le_refl _) _).drew (Nat.le_refl _)) hU).mono (fun e W ⟨vt, vl, he, ho, hl, hb⟩ =>
          ⟨vt, vl, he, ho.sub (by show _ ≤ (w2.alloc _).heap.size; simp), hl.sub (by show _ ≤ (w2.alloc _).heap.size; simp), ((Below.refl w2.heap.size w2).alloc (Nat.le_refl _) _).drew.trans (hb.mono (by show _ ≤ (w2.alloc _).heap.size; simp)), Row.below (Row.new w2 _ _).drew hb (by show _ < (w2.alloc _).heap.size; simp)⟩))
      have HSD := Lib.hid (fun W (h : UnS w w2 l (.slice s U.length c) W) => HNX.out W.drew h.2.drew)
      have HSA := Lib.hid (fun W ob (h : UnS w w2 l (.slice s U.length c) W) => HNX.out (W.alloc ob) (h.2.alloc h.2.size ob))
      have HSC := Lib.hid (fun W W' (h : UnS w w2 l (.slice s U.length c) W) (hb : Below W.heap.size W W') => HNX.out W' (h.2.trans (hb.mono h.2.size)))
      have HSZ := Lib.hid (fun ob => HNX.out (w2.alloc ob).drew ((Below.refl _ _).alloc (Nat.le_refl _) ob).drew)
      have HSS := Lib.hid (fun W b k u (hb : w2.heap.size ≤ b) (h : UnS w w2 l (.slice s U.length c) W) => HNX.out (W.setCell ⟨b, k, none⟩ u) (h.2.setCell hb u))
      have HS0 := Lib.hid (HNX.out w2.drew (Below.refl _ _).drew)
      obtain ⟨x0, x1, x2, x3⟩ := HRB.four'
      unfold stA at HAL HAZ
      clear hEE HRB HVB
      go_wp2_with fail
      clear x0 x1 x2 x3
      go_region_held3 (fun W' => UnS w w2 l (.slice s U.length c) W') (first | assumption | (with_reducible exact HS0.out) | (with_reducible exact HSZ.out _) | (with_reducible exact HSD.out _ (by assumption)) | (with_reducible exact HSA.out _ _ (by assumption)) | (with_reducible exact HSS.out _ _ _ _ (by first | exact Nat.le_refl _ | exact hPz.2.size) (HSS.out _ _ _ _ (by first | exact Nat.le_refl _ | exact hPz.2.size) (HSS.out _ _ _ _ (by first | exact Nat.le_refl _ | exact hPz.2.size) (HSS.out _ _ _ _ (by first | exact Nat.le_refl _ | exact hPz.2.size) (by first | assumption | (with_reducible exact HSA.out _ _ (by assumption))))))))
        ((first
          | (go_at_call 20; (with_reducible refine HAZ.out.mono ?_); rintro e wz ⟨vt, vl, rfl, ho, hl, hbz, hbx⟩; obtain ⟨st, ct, rfl⟩ := ho.at_.val; obtain ⟨sl, cl, rfl⟩ := hl.at_.val; have hPz := HNX.out _ hbz; have z0 := hbx.cell 0 _ rfl; have z1 := hbx.cell 1 _ rfl; have z2 := hbx.cell 2 _ rfl; have z3 := hbx.cell 3 _ rfl; have zf := hbx.froz; unfold stA)
          | (go_at_call 20; (with_reducible refine HAL.out.mono ?_); rintro e wz ⟨vt, vl, rfl, ho, hl, hbz⟩; obtain ⟨st, ct, rfl⟩ := ho.val; obtain ⟨sl, cl, rfl⟩ := hl.val; have hPz := HNX.out _ hbz; unfold stA)))
      · have hr := Row.new wz (stA l (.slice st (allocU l U a q).length ct)) 33
        have hbA := HB2.out.trans ((hbz.alloc hbz.size (.cells (stA l (.slice st (allocU l U a q).length ct)) 33 (0, 0))).mono HB2.out.size)
        have ho' := ho.below ((Below.refl wz.heap.size wz).alloc (Nat.le_refl _) (.cells (stA l (.slice st (allocU l U a q).length ct)) 33 (0, 0))) (Nat.le_refl _)
        have hl' := hl.below ((Below.refl wz.heap.size wz).alloc (Nat.le_refl _) (.cells (stA l (.slice st (allocU l U a q).length ct)) 33 (0, 0))) (Nat.le_refl _)
        clear ho hl hPz hbz HAL HAZ HSD HSA HSC HSZ HSS HS0 HNX
        unfold stA at hr hbA ho' hl'
        generalize wz.alloc (.cells _ _) = wA at *
        generalize wz.heap.size = bA at *
        clear wz
        have HRA0 := Lib.hid (show Row wA bA (stA l (.slice st (allocU l U a q).length ct)) 33 from hr)
        have HBA := Lib.hid hbA
        have HRS := Lib.hid (HR0.out.below HBA.out HR0.out.lt)
        have HVS := Lib.hid (HV0.out.below HBA.out (Nat.le_refl _))
        have HT := Lib.hid ho'
        have HL := Lib.hid hl'
        clear hr hbA ho' hl'
        by_cases hlt : (freeL U 0).length < q
        · have hE2 : allocE l U a q = 11 := by rw [HAE.out, if_pos hlt]
          rw [hE2]
          have HBZ := Lib.hid (HB0.out.trans (HBA.out.mono HB0.out.size))
          clear hlt hE2
          go_wp2_with fail
          refine (HAW.out _).mono ?_
          rintro e w9 ⟨rfl, hb9⟩
          have HB9 := Lib.hid (HBZ.out.trans (hb9.mono HBZ.out.size))
          clear hb9
          go_wp2_with fail
          go_ret
          exact ⟨rfl, HB9.out⟩

        · have hE2 : allocE l U a q = 0 := by rw [HAE.out, if_neg hlt]
          obtain ⟨L, hL⟩ : ∃ L, (freeL U a).take q = L := ⟨_, rfl⟩
          obtain ⟨T, hT⟩ : ∃ T, withL U L true = T := ⟨_, rfl⟩
          have hU2 : allocU l U a q = T := by unfold allocU; rw [if_pos hE2, Int.toNat_natCast, Int.toNat_natCast, hL, hT]
          have hL2 : allocL l U a q = L := by unfold allocL; rw [if_pos hE2, Int.toNat_natCast, Int.toNat_natCast, hL]
          have hTl : T.length = U.length := by rw [← hT]; exact withL_len _ _ _
          have hLl : L.length ≤ 1000 := by rw [← hL, List.length_take]; omega
          have hLm : ∀ b ∈ L, b < U.length ∧ U.getD b false = false := fun b hb => freeL_mem (List.mem_of_mem_take (by rw [hL]; exact hb)) (by omega)
          have hLd : L.Nodup := by rw [← hL]; exact List.Pairwise.sublist (List.take_sublist _ _) (freeL_nodup U a)
          have HCA : Hid (chkE l T = 0) := Lib.hid (by rw [← hT, chkE_with]; exact HEE.out)
          have HTK := Lib.hid (undo_take HEE.out hLm hLd)
          have HFR := Lib.hid (undo_free HEE.out hLm hLd)
          rw [hT] at HTK HFR
          rw [hE2]
          rw [hU2] at HT HRA0 ⊢
          rw [hL2] at HL ⊢
          have HTL := Lib.hid hTl
          have hTU : T.length ≤ 1000 := by rw [hTl]; exact hU
          have HTU := Lib.hid hTU
          have HLL := Lib.hid hLl
          have HF1 := Lib.hid (free_any (l := l) HT.out (nats_ints HL.out) hTU (by rw [toI_len]; omega))
          rw [HFR.out.1, HFR.out.2] at HF1
          obtain ⟨y0, y1, y2, y3⟩ := HRA0.out.four'
          unfold stA at HF1
          clear hE2 hL hT hU2 hL2 hTl hLl hlt hLm hLd hTU
          go_wp2_with fail
          refine HF1.out.mono ?_
          rintro e w5 ⟨vf, rfl, hof, hb5⟩
          obtain ⟨sf, cf, rfl⟩ := hof.at_.val
          obtain ⟨wF, hwF, hrF, hbF, hbF'⟩ := box_one (stA l (.slice sf U.length cf)) 33 wA.heap.size wA w5 hb5 (Nat.le_refl _)
          have HRF := Lib.hid hrF
          have HVF := Lib.hid (hof.at_.below hbF' (Nat.le_refl _))
          have HBF := Lib.hid hbF
          have HLF := Lib.hid (HL.out.below hbF (Nat.le_refl _))
          clear hrF hbF hbF' hof hb5 y0 y1 y2 y3
          obtain ⟨y0, y1, y2, y3⟩ := HRF.out.four'
          have HT1 := Lib.hid (take_any (l := l) HVF.out (nats_ints HLF.out) hU (by rw [toI_len]; have := HLL.out; omega))
          rw [HTK.out.1, HTK.out.2] at HT1
          unfold stA at HT1 hwF ⊢
          go_wp2_with (rw [hwF])
          refine HT1.out.mono ?_
          rintro e w6 ⟨vg, rfl, hog, hb6⟩
          obtain ⟨sg, cg, rfl⟩ := hog.at_.val
          obtain ⟨wG, hwG, hrG, hbG, hbG'⟩ := box_one (stA l (.slice sg T.length cg)) 33 wF.heap.size wF w6 hb6 (Nat.le_refl _)
          have HUB : Hid (UnB l U T w.heap.size bA w5.heap.size w6.heap.size (.slice s U.length c) (.slice st T.length ct) (.slice sf U.length cf) (.slice sg T.length cg) (.slice sl L.length cl) L wG) := Lib.hid
            ⟨(HRS.out.below HBF.out HRS.out.lt).below hbG (HRS.out.below HBF.out HRS.out.lt).lt, (HRA0.out.below HBF.out HRA0.out.lt).below hbG (HRA0.out.below HBF.out HRA0.out.lt).lt, HRF.out.below hbG HRF.out.lt, hrG,
              (HVS.out.below HBF.out (Nat.le_refl _)).below hbG (Nat.le_refl _), (HT.out.below HBF.out (Nat.le_refl _)).below hbG (Nat.le_refl _), HVF.out.below hbG (Nat.le_refl _), hog.at_.below hbG' (Nat.le_refl _), HLF.out.below hbG (Nat.le_refl _)⟩
          have HBG := Lib.hid (HB0.out.trans ((HBA.out.trans ((HBF.out.trans (hbG.mono HBF.out.size)).mono HBA.out.size)).mono HB0.out.size))
          clear hrG hbG hbG' hog hb6 y0 y1 y2 y3 hwF HRF HVF HBF HLF HRS HVS HT HL HRA0 HF1 HT1 HTK HFR
          obtain ⟨y0, y1, y2, y3⟩ := HUB.out.a.four'
          have HR1 := Lib.hid (runs_any (l := l) HUB.out.ua HTU.out)
          unfold stA at HR1 hwG ⊢
          go_wp2_with (rw [hwG])
          refine HR1.out.mono ?_
          rintro e w7 ⟨vr, rfl, hrm, hb7⟩
          have hRV : runsV l T = runsL T := by unfold runsV; rw [if_pos HCA.out]
          rw [hRV] at hrm
          obtain ⟨sr, cr, rfl⟩ := hrm.val
          have HRM := Lib.hid hrm
          have HB7 := Lib.hid (HBG.out.trans (hb7.mono HBG.out.size))
          have HU7 := Lib.hid (HUB.out.below hb7)
          clear hb7 hrm hRV y0 y1 y2 y3 hwG HUB HR1
          obtain ⟨y0, y1, y2, y3⟩ := HU7.out.a.four'
          have HC1 := Lib.hid (count_any (l := l) HU7.out.ua HTU.out)
          have HCV : Hid (countV l T = (freeL T 0).length) := Lib.hid (by unfold countV; rw [if_pos HCA.out])
          rw [HCV.out, HCA.out] at HC1
          rw [HCA.out]
          unfold stA at HC1
          go_wp2_with fail
          refine HC1.out.mono ?_
          rintro e w8 ⟨rfl, hb8⟩
          have HB8 := Lib.hid (HB7.out.trans (hb8.mono HB7.out.size))
          have HU8 := Lib.hid (HU7.out.below hb8)
          have HRM8 := Lib.hid (HRM.out.below hb8 (Nat.le_refl _))
          clear hb8 y0 y1 y2 y3 HRM HU7
          obtain ⟨x0, x1, x2, x3⟩ := HU8.out.s.four'
          obtain ⟨y0, y1, y2, y3⟩ := HU8.out.f.four'
          have HS1 := Lib.hid (same_any (l := l) HU8.out.uf HU8.out.us hU)
          unfold stA at HS1
          go_wp2_with fail
          refine HS1.out.mono ?_
          rintro e w9 ⟨rfl, hb9⟩
          have HB9 := Lib.hid (HB8.out.trans (hb9.mono HB8.out.size))
          have HU9 := Lib.hid (HU8.out.below hb9)
          have HRM9 := Lib.hid (HRM8.out.below hb9 (Nat.le_refl _))
          clear hb9 x0 x1 x2 x3 y0 y1 y2 y3 HRM8 HU8
          obtain ⟨x0, x1, x2, x3⟩ := HU9.out.a.four'
          obtain ⟨y0, y1, y2, y3⟩ := HU9.out.g.four'
          have HS2 := Lib.hid (same_any (l := l) HU9.out.ug HU9.out.ua HTU.out)
          unfold stA at HS2
          go_wp2_with fail
          refine HS2.out.mono ?_
          rintro e wX ⟨rfl, hbX⟩
          have HBX := Lib.hid (HB9.out.trans (hbX.mono HB9.out.size))
          have HRX := Lib.hid (HU9.out.s.below hbX HU9.out.s.lt)
          have HRM := Lib.hid (HRM9.out.below hbX (Nat.le_refl _))
          clear hbX x0 x1 x2 x3 y0 y1 y2 y3 HRM9 HU9
          have HR0' : Hid (sumR ((runsL T).take 0) = 0) := Lib.hid rfl
          have HLEN : Hid ((runsL T).length ≤ 1000) := Lib.hid (Nat.le_trans (runsP_len T T.length) HTU.out)
          go_wp2_with fail
          go_loopw [18, 19, 20] (fun tot la i wr => ∃ k : Nat, k ≤ (runsL T).length ∧ i = .int .i64 k ∧ tot = .int .i64 ((sumR ((runsL T).take k) : Nat) : Int) ∧ la = .int .i64 (lastI (runsL T) k) ∧ Hid (Mem wX wr)) (fun _ _ i _ => (runsL T).length - (intOf i).toNat)
          case atStart => exact ⟨0, Nat.zero_le _, rfl, rfl, rfl, Lib.hid (Mem.refl _)⟩
          case round =>
            obtain ⟨k, hk, rfl, rfl, rfl, hM⟩ := hrel
            have hx3 := (HRX.out.below (hM.out.below wX.heap.size) HRX.out.lt).four'.2.2.2
            by_cases hkn : k < (runsL T).length
            · have hd : decide ((k : Int) < ((runsL T).length : Int)) = true := decide_eq_true (by omega)
              have hd' : decide (k < (runsL T).length) = true := decide_eq_true hkn
              obtain ⟨g, o, es, c1, c2⟩ := runs_cell (HRM.out.heap hM.out.heap) hkn
              subst es
              have hmem := List.getElem_mem hkn
              have h1 := lastI_lt T k hkn
              have h2 := (runsAt T T.length).three _ hmem
              have h3 := runs_le T _ hmem
              have h4 := sumR_take (runsL T) k hkn
              have h5 := lastI_succ (runsL T) k hkn
              have h6 := sumR_le (runsL T) ((runsL T).length - (k + 1)) (k + 1) (by omega)
              have h7 : sumR (runsL T) = (freeL T 0).length := sumR_runs T T.length (Nat.le_refl _)
              have h8 : (freeL T 0).length ≤ T.length := freeP_len T 0 T.length
              have h0 : -1 ≤ lastI (runsL T) k := by unfold lastI; split <;> omega
              have hTl := HTL.out
              have hlen := HLEN.out
              rw [h4, h7] at h6
              generalize (runsL T)[k].1 = f at *
              generalize (runsL T)[k].2 = m at *
              generalize lastI (runsL T) k = la at *
              have HN4 := Lib.hid h4
              have HN5 := Lib.hid h5
              generalize sumR ((runsL T).take k) = t at *
              have hU1 : U.length ≤ 1000 := hU
              have b1 : f ≤ 1000 := by omega
              have b2 : m ≤ 1000 := by omega
              have b3 : t ≤ 1000 := by omega
              have hd1 : decide ((f : Int) ≤ la) = false := decide_eq_false (by omega)
              have hd2 : decide ((m : Int) < 1) = false := decide_eq_false (by omega)
              have hd3 : decide ((U.length : Int) < (m : Int)) = false := decide_eq_false (by omega)
              have hd4 : decide (U.length < m) = false := decide_eq_false (by omega)
              have hd5 : decide (m < 1) = false := decide_eq_false (by omega)
              have hw1 : IntKind.i64.wrap ((f : Int) + (m : Int)) = (f : Int) + (m : Int) := by rw [IntKind.wrap_i64]; omega
              have hw2 : IntKind.i64.wrap ((t : Int) + (m : Int)) = (t : Int) + (m : Int) := by rw [IntKind.wrap_i64]; omega
              have q1 := fun j => (show (wr.drewN j).cell? ⟨g, o + k * 2, none⟩ = _ from c1)
              have q2 := fun j => (show (wr.drewN j).cell? ⟨g, o + k * 2 + 1, none⟩ = _ from c2)
              have q3 := fun j => (show (wr.drewN j).cell? ⟨w.heap.size, 3, none⟩ = _ from hx3)
              clear h1 h2 h3 h4 h5 h6 h7 h8 h0 hmem hTl
              go_wp2
              go_quiet (fail)
              have HM2 : Hid (Mem wX (wr.drewN nq)) := Lib.hid (hM.out.trans ⟨rfl, rfl, rfl, rfl⟩)
              have c1' : (wr.drewN nq).cell? ⟨g, o + k * 2, none⟩ = _ := c1
              have c2' : (wr.drewN nq).cell? ⟨g, o + k * 2 + 1, none⟩ = _ := c2
              clear q1 q2 q3 c1 c2 hx3 hM
              generalize wr.drewN nq = wq at *
              have q1 := fun j => (show (wq.drewN j).cell? ⟨g, o + k * 2, none⟩ = _ from c1')
              have q2 := fun j => (show (wq.drewN j).cell? ⟨g, o + k * 2 + 1, none⟩ = _ from c2')
              go_wp2
              go_quiet (fail)
              have HM3 : Hid (Mem wX (wq.drewN nq)) := Lib.hid (HM2.out.trans ⟨rfl, rfl, rfl, rfl⟩)
              go_wp2
              go_roundw
              case rel => exact ⟨k + 1, by omega, by go_num, by rw [HN4.out]; go_num, by rw [HN5.out], HM3⟩
              case measure => simp [intOf]; omega
            · obtain rfl : k = (runsL T).length := by omega
              have hd : decide (((runsL T).length : Int) < ((runsL T).length : Int)) = false := by simp
              have h1 : sumR ((runsL T).take (runsL T).length) = (freeL T 0).length := by rw [List.take_length]; exact sumR_runs T T.length (Nat.le_refl _)
              have h2 : decide (lastI (runsL T) (runsL T).length ≤ (U.length : Int)) = true := decide_eq_true (by rw [← HTL.out]; exact lastI_le T _ (Nat.le_refl _))
              have h3 : (((freeL T 0).length : Int) == ((freeL T 0).length : Int)) = true := beq_self_eq_true _
              rw [h1]
              generalize lastI (runsL T) (runsL T).length = la at *
              have HBZ := Lib.hid (HBX.out.trans ((hM.out.below wX.heap.size).mono HBX.out.size))
              clear hM h1
              go_wp2_with fail
              refine (HAW.out _).mono ?_
              rintro e w9 ⟨rfl, hb9⟩
              have HB9 := Lib.hid (HBZ.out.trans (hb9.mono HBZ.out.size))
              clear hb9
              go_wp2_with fail
              go_ret
              exact ⟨rfl, HB9.out⟩


      · have hr := hbx.sets4 (.int .i64 l.s) (.int .i64 l.j) (.int .i64 l.n) (.slice st (allocU l U a q).length ct)
        have hbA := HB2.out.trans ((below_sets4 hbz w2.heap.size (Nat.le_refl _) (.int .i64 l.s) (.int .i64 l.j) (.int .i64 l.n) (.slice st (allocU l U a q).length ct)).mono HB2.out.size)
        have ho' : BoolsAt _ _ _ := OwnB.at_ (row_kept ho (kept_sets4 wz w2.heap.size (.int .i64 l.s) (.int .i64 l.j) (.int .i64 l.n) (.slice st (allocU l U a q).length ct)) (fun g h1 _ (h2 : g = _) => by omega))
        have hl' : NatsAt _ _ _ := OwnN.at_ (row_kept hl (kept_sets4 wz w2.heap.size (.int .i64 l.s) (.int .i64 l.j) (.int .i64 l.n) (.slice st (allocU l U a q).length ct)) (fun g h1 _ (h2 : g = _) => by omega))
        clear ho hl hPz hbz hbx z0 z1 z2 z3 zf HAL HAZ HSD HSA HSC HSZ HSS HS0 HNX
        unfold stA at hr hbA ho' hl'
        generalize World.setCell _ _ _ = wA at *
        generalize w2.heap.size = bA at *
        clear wz
        have HRA0 := Lib.hid (show Row wA bA (stA l (.slice st (allocU l U a q).length ct)) 33 from hr)
        have HBA := Lib.hid hbA
        have HRS := Lib.hid (HR0.out.below HBA.out HR0.out.lt)
        have HVS := Lib.hid (HV0.out.below HBA.out (Nat.le_refl _))
        have HT := Lib.hid ho'
        have HL := Lib.hid hl'
        clear hr hbA ho' hl'
        by_cases hlt : (freeL U 0).length < q
        · have hE2 : allocE l U a q = 11 := by rw [HAE.out, if_pos hlt]
          rw [hE2]
          have HBZ := Lib.hid (HB0.out.trans (HBA.out.mono HB0.out.size))
          clear hlt hE2
          go_wp2_with fail
          refine (HAW.out _).mono ?_
          rintro e w9 ⟨rfl, hb9⟩
          have HB9 := Lib.hid (HBZ.out.trans (hb9.mono HBZ.out.size))
          clear hb9
          go_wp2_with fail
          go_ret
          exact ⟨rfl, HB9.out⟩

        · have hE2 : allocE l U a q = 0 := by rw [HAE.out, if_neg hlt]
          obtain ⟨L, hL⟩ : ∃ L, (freeL U a).take q = L := ⟨_, rfl⟩
          obtain ⟨T, hT⟩ : ∃ T, withL U L true = T := ⟨_, rfl⟩
          have hU2 : allocU l U a q = T := by unfold allocU; rw [if_pos hE2, Int.toNat_natCast, Int.toNat_natCast, hL, hT]
          have hL2 : allocL l U a q = L := by unfold allocL; rw [if_pos hE2, Int.toNat_natCast, Int.toNat_natCast, hL]
          have hTl : T.length = U.length := by rw [← hT]; exact withL_len _ _ _
          have hLl : L.length ≤ 1000 := by rw [← hL, List.length_take]; omega
          have hLm : ∀ b ∈ L, b < U.length ∧ U.getD b false = false := fun b hb => freeL_mem (List.mem_of_mem_take (by rw [hL]; exact hb)) (by omega)
          have hLd : L.Nodup := by rw [← hL]; exact List.Pairwise.sublist (List.take_sublist _ _) (freeL_nodup U a)
          have HCA : Hid (chkE l T = 0) := Lib.hid (by rw [← hT, chkE_with]; exact HEE.out)
          have HTK := Lib.hid (undo_take HEE.out hLm hLd)
          have HFR := Lib.hid (undo_free HEE.out hLm hLd)
          rw [hT] at HTK HFR
          rw [hE2]
          rw [hU2] at HT HRA0 ⊢
          rw [hL2] at HL ⊢
          have HTL := Lib.hid hTl
          have hTU : T.length ≤ 1000 := by rw [hTl]; exact hU
          have HTU := Lib.hid hTU
          have HLL := Lib.hid hLl
          have HF1 := Lib.hid (free_any (l := l) HT.out (nats_ints HL.out) hTU (by rw [toI_len]; omega))
          rw [HFR.out.1, HFR.out.2] at HF1
          obtain ⟨y0, y1, y2, y3⟩ := HRA0.out.four'
          unfold stA at HF1
          clear hE2 hL hT hU2 hL2 hTl hLl hlt hLm hLd hTU
          go_wp2_with fail
          refine HF1.out.mono ?_
          rintro e w5 ⟨vf, rfl, hof, hb5⟩
          obtain ⟨sf, cf, rfl⟩ := hof.at_.val
          obtain ⟨wF, hwF, hrF, hbF, hbF'⟩ := box_one (stA l (.slice sf U.length cf)) 33 wA.heap.size wA w5 hb5 (Nat.le_refl _)
          have HRF := Lib.hid hrF
          have HVF := Lib.hid (hof.at_.below hbF' (Nat.le_refl _))
          have HBF := Lib.hid hbF
          have HLF := Lib.hid (HL.out.below hbF (Nat.le_refl _))
          clear hrF hbF hbF' hof hb5 y0 y1 y2 y3
          obtain ⟨y0, y1, y2, y3⟩ := HRF.out.four'
          have HT1 := Lib.hid (take_any (l := l) HVF.out (nats_ints HLF.out) hU (by rw [toI_len]; have := HLL.out; omega))
          rw [HTK.out.1, HTK.out.2] at HT1
          unfold stA at HT1 hwF ⊢
          go_wp2_with (rw [hwF])
          refine HT1.out.mono ?_
          rintro e w6 ⟨vg, rfl, hog, hb6⟩
          obtain ⟨sg, cg, rfl⟩ := hog.at_.val
          obtain ⟨wG, hwG, hrG, hbG, hbG'⟩ := box_one (stA l (.slice sg T.length cg)) 33 wF.heap.size wF w6 hb6 (Nat.le_refl _)
          have HUB : Hid (UnB l U T w.heap.size bA w5.heap.size w6.heap.size (.slice s U.length c) (.slice st T.length ct) (.slice sf U.length cf) (.slice sg T.length cg) (.slice sl L.length cl) L wG) := Lib.hid
            ⟨(HRS.out.below HBF.out HRS.out.lt).below hbG (HRS.out.below HBF.out HRS.out.lt).lt, (HRA0.out.below HBF.out HRA0.out.lt).below hbG (HRA0.out.below HBF.out HRA0.out.lt).lt, HRF.out.below hbG HRF.out.lt, hrG,
              (HVS.out.below HBF.out (Nat.le_refl _)).below hbG (Nat.le_refl _), (HT.out.below HBF.out (Nat.le_refl _)).below hbG (Nat.le_refl _), HVF.out.below hbG (Nat.le_refl _), hog.at_.below hbG' (Nat.le_refl _), HLF.out.below hbG (Nat.le_refl _)⟩
          have HBG := Lib.hid (HB0.out.trans ((HBA.out.trans ((HBF.out.trans (hbG.mono HBF.out.size)).mono HBA.out.size)).mono HB0.out.size))
          clear hrG hbG hbG' hog hb6 y0 y1 y2 y3 hwF HRF HVF HBF HLF HRS HVS HT HL HRA0 HF1 HT1 HTK HFR
          obtain ⟨y0, y1, y2, y3⟩ := HUB.out.a.four'
          have HR1 := Lib.hid (runs_any (l := l) HUB.out.ua HTU.out)
          unfold stA at HR1 hwG ⊢
          go_wp2_with (rw [hwG])
          refine HR1.out.mono ?_
          rintro e w7 ⟨vr, rfl, hrm, hb7⟩
          have hRV : runsV l T = runsL T := by unfold runsV; rw [if_pos HCA.out]
          rw [hRV] at hrm
          obtain ⟨sr, cr, rfl⟩ := hrm.val
          have HRM := Lib.hid hrm
          have HB7 := Lib.hid (HBG.out.trans (hb7.mono HBG.out.size))
          have HU7 := Lib.hid (HUB.out.below hb7)
          clear hb7 hrm hRV y0 y1 y2 y3 hwG HUB HR1
          obtain ⟨y0, y1, y2, y3⟩ := HU7.out.a.four'
          have HC1 := Lib.hid (count_any (l := l) HU7.out.ua HTU.out)
          have HCV : Hid (countV l T = (freeL T 0).length) := Lib.hid (by unfold countV; rw [if_pos HCA.out])
          rw [HCV.out, HCA.out] at HC1
          rw [HCA.out]
          unfold stA at HC1
          go_wp2_with fail
          refine HC1.out.mono ?_
          rintro e w8 ⟨rfl, hb8⟩
          have HB8 := Lib.hid (HB7.out.trans (hb8.mono HB7.out.size))
          have HU8 := Lib.hid (HU7.out.below hb8)
          have HRM8 := Lib.hid (HRM.out.below hb8 (Nat.le_refl _))
          clear hb8 y0 y1 y2 y3 HRM HU7
          obtain ⟨x0, x1, x2, x3⟩ := HU8.out.s.four'
          obtain ⟨y0, y1, y2, y3⟩ := HU8.out.f.four'
          have HS1 := Lib.hid (same_any (l := l) HU8.out.uf HU8.out.us hU)
          unfold stA at HS1
          go_wp2_with fail
          refine HS1.out.mono ?_
          rintro e w9 ⟨rfl, hb9⟩
          have HB9 := Lib.hid (HB8.out.trans (hb9.mono HB8.out.size))
          have HU9 := Lib.hid (HU8.out.below hb9)
          have HRM9 := Lib.hid (HRM8.out.below hb9 (Nat.le_refl _))
          clear hb9 x0 x1 x2 x3 y0 y1 y2 y3 HRM8 HU8
          obtain ⟨x0, x1, x2, x3⟩ := HU9.out.a.four'
          obtain ⟨y0, y1, y2, y3⟩ := HU9.out.g.four'
          have HS2 := Lib.hid (same_any (l := l) HU9.out.ug HU9.out.ua HTU.out)
          unfold stA at HS2
          go_wp2_with fail
          refine HS2.out.mono ?_
          rintro e wX ⟨rfl, hbX⟩
          have HBX := Lib.hid (HB9.out.trans (hbX.mono HB9.out.size))
          have HRX := Lib.hid (HU9.out.s.below hbX HU9.out.s.lt)
          have HRM := Lib.hid (HRM9.out.below hbX (Nat.le_refl _))
          clear hbX x0 x1 x2 x3 y0 y1 y2 y3 HRM9 HU9
          have HR0' : Hid (sumR ((runsL T).take 0) = 0) := Lib.hid rfl
          have HLEN : Hid ((runsL T).length ≤ 1000) := Lib.hid (Nat.le_trans (runsP_len T T.length) HTU.out)
          go_wp2_with fail
          go_loopw [18, 19, 20] (fun tot la i wr => ∃ k : Nat, k ≤ (runsL T).length ∧ i = .int .i64 k ∧ tot = .int .i64 ((sumR ((runsL T).take k) : Nat) : Int) ∧ la = .int .i64 (lastI (runsL T) k) ∧ Hid (Mem wX wr)) (fun _ _ i _ => (runsL T).length - (intOf i).toNat)
          case atStart => exact ⟨0, Nat.zero_le _, rfl, rfl, rfl, Lib.hid (Mem.refl _)⟩
          case round =>
            obtain ⟨k, hk, rfl, rfl, rfl, hM⟩ := hrel
            have hx3 := (HRX.out.below (hM.out.below wX.heap.size) HRX.out.lt).four'.2.2.2
            by_cases hkn : k < (runsL T).length
            · have hd : decide ((k : Int) < ((runsL T).length : Int)) = true := decide_eq_true (by omega)
              have hd' : decide (k < (runsL T).length) = true := decide_eq_true hkn
              obtain ⟨g, o, es, c1, c2⟩ := runs_cell (HRM.out.heap hM.out.heap) hkn
              subst es
              have hmem := List.getElem_mem hkn
              have h1 := lastI_lt T k hkn
              have h2 := (runsAt T T.length).three _ hmem
              have h3 := runs_le T _ hmem
              have h4 := sumR_take (runsL T) k hkn
              have h5 := lastI_succ (runsL T) k hkn
              have h6 := sumR_le (runsL T) ((runsL T).length - (k + 1)) (k + 1) (by omega)
              have h7 : sumR (runsL T) = (freeL T 0).length := sumR_runs T T.length (Nat.le_refl _)
              have h8 : (freeL T 0).length ≤ T.length := freeP_len T 0 T.length
              have h0 : -1 ≤ lastI (runsL T) k := by unfold lastI; split <;> omega
              have hTl := HTL.out
              have hlen := HLEN.out
              rw [h4, h7] at h6
              generalize (runsL T)[k].1 = f at *
              generalize (runsL T)[k].2 = m at *
              generalize lastI (runsL T) k = la at *
              have HN4 := Lib.hid h4
              have HN5 := Lib.hid h5
              generalize sumR ((runsL T).take k) = t at *
              have hU1 : U.length ≤ 1000 := hU
              have b1 : f ≤ 1000 := by omega
              have b2 : m ≤ 1000 := by omega
              have b3 : t ≤ 1000 := by omega
              have hd1 : decide ((f : Int) ≤ la) = false := decide_eq_false (by omega)
              have hd2 : decide ((m : Int) < 1) = false := decide_eq_false (by omega)
              have hd3 : decide ((U.length : Int) < (m : Int)) = false := decide_eq_false (by omega)
              have hd4 : decide (U.length < m) = false := decide_eq_false (by omega)
              have hd5 : decide (m < 1) = false := decide_eq_false (by omega)
              have hw1 : IntKind.i64.wrap ((f : Int) + (m : Int)) = (f : Int) + (m : Int) := by rw [IntKind.wrap_i64]; omega
              have hw2 : IntKind.i64.wrap ((t : Int) + (m : Int)) = (t : Int) + (m : Int) := by rw [IntKind.wrap_i64]; omega
              have q1 := fun j => (show (wr.drewN j).cell? ⟨g, o + k * 2, none⟩ = _ from c1)
              have q2 := fun j => (show (wr.drewN j).cell? ⟨g, o + k * 2 + 1, none⟩ = _ from c2)
              have q3 := fun j => (show (wr.drewN j).cell? ⟨w.heap.size, 3, none⟩ = _ from hx3)
              clear h1 h2 h3 h4 h5 h6 h7 h8 h0 hmem hTl
              go_wp2
              go_quiet (fail)
              have HM2 : Hid (Mem wX (wr.drewN nq)) := Lib.hid (hM.out.trans ⟨rfl, rfl, rfl, rfl⟩)
              have c1' : (wr.drewN nq).cell? ⟨g, o + k * 2, none⟩ = _ := c1
              have c2' : (wr.drewN nq).cell? ⟨g, o + k * 2 + 1, none⟩ = _ := c2
              clear q1 q2 q3 c1 c2 hx3 hM
              generalize wr.drewN nq = wq at *
              have q1 := fun j => (show (wq.drewN j).cell? ⟨g, o + k * 2, none⟩ = _ from c1')
              have q2 := fun j => (show (wq.drewN j).cell? ⟨g, o + k * 2 + 1, none⟩ = _ from c2')
              go_wp2
              go_quiet (fail)
              have HM3 : Hid (Mem wX (wq.drewN nq)) := Lib.hid (HM2.out.trans ⟨rfl, rfl, rfl, rfl⟩)
              go_wp2
              go_roundw
              case rel => exact ⟨k + 1, by omega, by go_num, by rw [HN4.out]; go_num, by rw [HN5.out], HM3⟩
              case measure => simp [intOf]; omega
            · obtain rfl : k = (runsL T).length := by omega
              have hd : decide (((runsL T).length : Int) < ((runsL T).length : Int)) = false := by simp
              have h1 : sumR ((runsL T).take (runsL T).length) = (freeL T 0).length := by rw [List.take_length]; exact sumR_runs T T.length (Nat.le_refl _)
              have h2 : decide (lastI (runsL T) (runsL T).length ≤ (U.length : Int)) = true := decide_eq_true (by rw [← HTL.out]; exact lastI_le T _ (Nat.le_refl _))
              have h3 : (((freeL T 0).length : Int) == ((freeL T 0).length : Int)) = true := beq_self_eq_true _
              rw [h1]
              generalize lastI (runsL T) (runsL T).length = la at *
              have HBZ := Lib.hid (HBX.out.trans ((hM.out.below wX.heap.size).mono HBX.out.size))
              clear hM h1
              go_wp2_with fail
              refine (HAW.out _).mono ?_
              rintro e w9 ⟨rfl, hb9⟩
              have HB9 := Lib.hid (HBZ.out.trans (hb9.mono HBZ.out.size))
              clear hb9
              go_wp2_with fail
              go_ret
              exact ⟨rfl, HB9.out⟩


    · have hd := decB hE
      have HBZ := Lib.hid (HB0.out.trans (HB2.out.mono HB0.out.size))
      clear hEE
      go_wp2_with fail
      refine (HAW.out _).mono ?_
      rintro e w9 ⟨rfl, hb9⟩
      have HB9 := Lib.hid (HBZ.out.trans (hb9.mono HBZ.out.size))
      clear hb9
      go_wp2_with fail
      go_ret
      exact ⟨rfl, HB9.out⟩

end Go.Proofs.Ytkknelcolbdphaa
