/- The reference's Alloc. -/
import Derived.Test.YtkknelcolbdphaaRFree
import Derived.Test.YtkknelcolbdphaaAwake
namespace Go.Proofs.Ytkknelcolbdphaa
open Go.RowKit
set_option maxRecDepth 100000

def RAPost (l : Lay) (U : List Bool) (L : List Nat) (E : Int) (w : World) (e : Ending) (w' : World) : Prop :=
  ∃ v vl, e = .returned (.tuple #[.agg (stA l v), vl, .int .i64 E]) ∧ BoolsAt w' v U ∧ NatsAt w' vl L ∧ Below w.heap.size w w'
theorem bodyRet_ra {fn : Func} {p q r : Tmp} {T' : Nat} (h : fn.results = #[.cell p 33, .tmp q, .tmp r]) {tmps : Array Value} {w : World} {g : Nat} {cs : Array Value} {u v : Value} (hp : tmps.getD p undef = .pointer (some ⟨g, 0, none⟩)) (hq : tmps.getD q undef = u) (hr : tmps.getD r undef = v)
    (hg : Row w g cs T') (hsz : cs.size = 4) :
    (results fn tmps).run Try.prog w = .ok (.tuple #[.agg cs, u, v]) w := by
  have hl : (loadVar 33 ⟨g, 0, none⟩).run Try.prog w = .ok (.agg cs) w := run_loadVar_row (P := Try.prog) w g T' 33 cs (0, 0) _ hg Try.underlying33 rfl (by rw [szSt, hsz])
  subst hr
  subst hq
  have hp' : tmps[p]?.getD undef = .pointer (some ⟨g, 0, none⟩) := by simpa using hp
  simp [results, h, hp', asAddr, hl]
/-- The state that was given lies in the result's box. -/
theorem ra_back {l : Lay} {U : List Bool} {w w2 W : World} {v : Value} (hv : BoolsAt w v U) (hb : Below w.heap.size w w2) (hR : Row w2 (w.heap.size + 1) zeroSt 33) (h : Below w2.heap.size w2 W) :
    Row ((((W.setCell ⟨w.heap.size + 1, 0, none⟩ (.int .i64 l.s)).setCell ⟨w.heap.size + 1, 1, none⟩ (.int .i64 l.j)).setCell ⟨w.heap.size + 1, 2, none⟩ (.int .i64 l.n)).setCell ⟨w.heap.size + 1, 3, none⟩ v) (w.heap.size + 1) (stA l v) 33 ∧
    BoolsAt ((((W.setCell ⟨w.heap.size + 1, 0, none⟩ (.int .i64 l.s)).setCell ⟨w.heap.size + 1, 1, none⟩ (.int .i64 l.j)).setCell ⟨w.heap.size + 1, 2, none⟩ (.int .i64 l.n)).setCell ⟨w.heap.size + 1, 3, none⟩ v) v U ∧
    Below w.heap.size w ((((W.setCell ⟨w.heap.size + 1, 0, none⟩ (.int .i64 l.s)).setCell ⟨w.heap.size + 1, 1, none⟩ (.int .i64 l.j)).setCell ⟨w.heap.size + 1, 2, none⟩ (.int .i64 l.n)).setCell ⟨w.heap.size + 1, 3, none⟩ v) := by
  have hbb : Below w.heap.size w W := hb.trans (h.mono hb.size)
  have h4 := below_sets4 hbb (w.heap.size + 1) (by omega) (.int .i64 l.s) (.int .i64 l.j) (.int .i64 l.n) v
  exact ⟨(hR.below h hR.lt).sets4 _ _ _ _, hv.below h4 (Nat.le_refl _), h4⟩
theorem ra_take {U : List Bool} {a q k : Nat} (hk : k ≤ U.length) (hl : (freeP U a k).length ≤ q) (hq : q ≤ (freeL U a).length) (h : k = U.length ∨ (freeP U a k).length = q) : (freeL U a).take q = freeP U a k := by
  rcases h with rfl | h
  · show (freeP U a U.length).take q = _
    exact List.take_of_length_le hl
  · obtain ⟨t, ht⟩ := freeP_pre U a hk
    show (freeP U a U.length).take q = _
    rw [← ht, ← h, List.take_left]
set_option maxHeartbeats 8000000 in
theorem refAlloc_any {w : World} {l : Lay} {v : Value} {U : List Bool} (near many : Int) (hv : BoolsAt w v U) (hU : U.length ≤ 1000) :
    Calls Try.prog 21 #[.agg (stA l v), .int .i64 near, .int .i64 many] w (RAPost l (allocU l U near many) (allocL l U near many) (allocE l U near many) w) := by
  obtain ⟨s, c, rfl⟩ := hv.val
  obtain ⟨w2, hw2, hr1, hr2, hb2⟩ := box_two l (.slice s U.length c) w
  have HR1 := Lib.hid hr1
  have HR2 := Lib.hid hr2
  have HB2 := Lib.hid hb2
  have HV0 := Lib.hid hv
  have HV := Lib.hid (hv.below hb2 (Nat.le_refl _))
  have HC := Lib.hid (refCheck_any l U s c w2)
  have HI := Lib.hid within_any
  have HFR := Lib.hid (fun (X : World) (h : Below w2.heap.size w2 X) => refFree_any (l := l) (HV.out.below h (Nat.le_refl _)) hU)
  obtain ⟨x0, x1, x2, x3⟩ := hr1.four'
  clear hr1 hr2 hb2 hv
  obtain ⟨E, hEE⟩ : ∃ E, chkE l U = E := ⟨_, rfl⟩
  have HEE := Lib.hid hEE
  rw [hEE] at HC
  unfold stA at hw2 HC HFR ⊢
  by_cases hE : E = 0
  · subst hE
    obtain ⟨hn8, hn245⟩ := chkE_len hEE
    have d0 : ((0 : Int) == 0) = true := rfl
    cases hin : inB near 0 (U.length - 1) with
    | false =>
      have HE : Hid (allocE l U near many = 7) := Lib.hid (by unfold allocE; rw [if_pos hEE, if_neg (by simp [hin])])
      have HU2 : Hid (allocU l U near many = U) := Lib.hid (by unfold allocU; rw [HE.out]; rfl)
      have HL2 : Hid (allocL l U near many = []) := Lib.hid (by unfold allocL; rw [HE.out]; rfl)
      clear hEE
      go_enter Try.func21, Try.ntmps21
      go_wp2_with (rw [hw2])
      refine HC.out.mono ?_
      rintro e w3 ⟨rfl, hb3⟩
      have HBX := Lib.hid hb3
      clear hb3 x0 x1 x2 x3
      obtain ⟨x0, x1, x2, x3⟩ := (HR1.out.below HBX.out HR1.out.lt).four'
      go_wp2_with fail
      refine (HI.out _ _ _ _).mono ?_
      rintro e w3' ⟨rfl, rfl⟩
      rw [hin]
      clear x0 x1 x2 x3
      obtain ⟨x0, x1, x2, x3⟩ := (HR1.out.below HBX.out HR1.out.lt).four'
      obtain ⟨y0, y1, y2, y3⟩ := (HR2.out.below HBX.out HR2.out.lt).four
      have yf := (HR2.out.below HBX.out HR2.out.lt).froz
      have HBK := Lib.hid (ra_back (l := l) HV0.out HB2.out HR2.out HBX.out)
      go_wp2_with fail
      exact bodyPost_ret (bodyRet_ra rfl rfl rfl rfl HBK.out.1 rfl) rfl ⟨_, _, by rw [HE.out]; rfl, by rw [HU2.out]; exact HBK.out.2.1, by rw [HL2.out]; exact .inl ⟨_, _, rfl, rfl⟩, HBK.out.2.2⟩

    | true =>
      by_cases hm : many < 0
      · have hdm : decide (many < 0) = true := decide_eq_true hm
        have HE : Hid (allocE l U near many = 7) := Lib.hid (by unfold allocE; rw [if_pos hEE, if_neg (by simp [hin, hm])])
        have HU2 : Hid (allocU l U near many = U) := Lib.hid (by unfold allocU; rw [HE.out]; rfl)
        have HL2 : Hid (allocL l U near many = []) := Lib.hid (by unfold allocL; rw [HE.out]; rfl)
        clear hEE
        go_enter Try.func21, Try.ntmps21
        go_wp2_with (rw [hw2])
        refine HC.out.mono ?_
        rintro e w3 ⟨rfl, hb3⟩
        have HBX := Lib.hid hb3
        clear hb3 x0 x1 x2 x3
        obtain ⟨x0, x1, x2, x3⟩ := (HR1.out.below HBX.out HR1.out.lt).four'
        go_wp2_with fail
        refine (HI.out _ _ _ _).mono ?_
        rintro e w3' ⟨rfl, rfl⟩
        rw [hin]
        clear x0 x1 x2 x3
        obtain ⟨x0, x1, x2, x3⟩ := (HR1.out.below HBX.out HR1.out.lt).four'
        obtain ⟨y0, y1, y2, y3⟩ := (HR2.out.below HBX.out HR2.out.lt).four
        have yf := (HR2.out.below HBX.out HR2.out.lt).froz
        have HBK := Lib.hid (ra_back (l := l) HV0.out HB2.out HR2.out HBX.out)
        go_wp2_with fail
        exact bodyPost_ret (bodyRet_ra rfl rfl rfl rfl HBK.out.1 rfl) rfl ⟨_, _, by rw [HE.out]; rfl, by rw [HU2.out]; exact HBK.out.2.1, by rw [HL2.out]; exact .inl ⟨_, _, rfl, rfl⟩, HBK.out.2.2⟩

      · have hdm : decide (many < 0) = false := decide_eq_false hm
        have hin2 := hin
        have HAE : Hid (allocE l U near many = if ((freeL U 0).length : Int) < many then 11 else 0) := Lib.hid (by unfold allocE; rw [if_pos hEE, if_pos (by simp [hin]; omega)])
        unfold inB at hin2
        rw [Bool.and_eq_true, decide_eq_true_eq, decide_eq_true_eq] at hin2
        obtain ⟨a, rfl⟩ := Int.eq_ofNat_of_zero_le hin2.1
        obtain ⟨q, rfl⟩ := Int.eq_ofNat_of_zero_le (show 0 ≤ many by omega)
        have ha : a < U.length := by omega
        have HFL := Lib.hid (freeL_len U a (by omega))
        clear hin2 hEE
        go_enter Try.func21, Try.ntmps21
        go_wp2_with (rw [hw2])
        refine HC.out.mono ?_
        rintro e w3 ⟨rfl, hb3⟩
        have HB3 := Lib.hid hb3
        clear hb3 x0 x1 x2 x3
        obtain ⟨x0, x1, x2, x3⟩ := (HR1.out.below HB3.out HR1.out.lt).four'
        go_wp2_with fail
        refine (HI.out _ _ _ _).mono ?_
        rintro e w3' ⟨rfl, rfl⟩
        rw [hin]
        go_wp2_with fail
        refine (HFR.out _ HB3.out).mono ?_
        rintro e w4 ⟨rfl, hb4⟩
        have HBX := Lib.hid (HB3.out.trans (hb4.mono HB3.out.size))
        clear hb4 x0 x1 x2 x3
        by_cases hlt : (freeL U 0).length < q
        · have HE : Hid (allocE l U a q = 11) := Lib.hid (by rw [HAE.out, if_pos (by omega)])
          have HU2 : Hid (allocU l U a q = U) := Lib.hid (by unfold allocU; rw [HE.out]; rfl)
          have HL2 : Hid (allocL l U a q = []) := Lib.hid (by unfold allocL; rw [HE.out]; rfl)
          have d1 : decide (((freeL U 0).length : Int) < (q : Int)) = true := decide_eq_true (by omega)
          have d2 : decide ((freeL U 0).length < q) = true := decide_eq_true hlt
          obtain ⟨x0, x1, x2, x3⟩ := (HR1.out.below HBX.out HR1.out.lt).four'
          obtain ⟨y0, y1, y2, y3⟩ := (HR2.out.below HBX.out HR2.out.lt).four
          have yf := (HR2.out.below HBX.out HR2.out.lt).froz
          have HBK := Lib.hid (ra_back (l := l) HV0.out HB2.out HR2.out HBX.out)
          go_wp2_with fail
          exact bodyPost_ret (bodyRet_ra rfl rfl rfl rfl HBK.out.1 rfl) rfl ⟨_, _, by rw [HE.out]; rfl, by rw [HU2.out]; exact HBK.out.2.1, by rw [HL2.out]; exact .inl ⟨_, _, rfl, rfl⟩, HBK.out.2.2⟩

        · have hge : q ≤ (freeL U a).length := by have := HFL.out; omega
          have HE : Hid (allocE l U a q = 0) := Lib.hid (by rw [HAE.out, if_neg (by omega)])
          have HU2 : Hid (allocU l U a q = withL U ((freeL U a).take q) true) := Lib.hid (by unfold allocU; rw [if_pos HE.out, Int.toNat_natCast, Int.toNat_natCast])
          have HL2 : Hid (allocL l U a q = (freeL U a).take q) := Lib.hid (by unfold allocL; rw [if_pos HE.out, Int.toNat_natCast, Int.toNat_natCast])
          have d1 : decide (((freeL U 0).length : Int) < (q : Int)) = false := decide_eq_false (by omega)
          have d2 : decide ((freeL U 0).length < q) = false := decide_eq_false hlt
          obtain ⟨i0, hi, hz0, hz1, hz2⟩ := info_parts Try.infoInt0
          have HR1X := Lib.hid (HR1.out.below HBX.out HR1.out.lt)
          have HR2X := Lib.hid (HR2.out.below HBX.out HR2.out.lt)
          have HVX := Lib.hid (HV.out.below HBX.out (Nat.le_refl _))
          have HBW := Lib.hid (HB2.out.trans (HBX.out.mono HB2.out.size))
          have HLT : Hid (w.heap.size + 1 < w4.heap.size) := Lib.hid HR2X.out.lt
          have HGE := Lib.hid hge
          have HTK := Lib.hid (fun k h1 h2 h3 => @ra_take U a q k h1 h2 hge h3)
          clear hge
          go_wp2_with fail
          clear d1 d2 hlt
          go_loopw [10, 11] (fun x i wr => ∃ k : Nat, k ≤ U.length ∧ i = .int .i64 k ∧ Hid (OwnN wr w4.heap.size x (freeP U a k)) ∧ (freeP U a k).length ≤ q ∧ Hid (Below w4.heap.size w4 wr)) (fun _ i _ => U.length - (intOf i).toNat)
          case atStart => exact ⟨0, Nat.zero_le _, rfl, Lib.hid (World.ownsRow_nil _ _ _ _), Nat.zero_le _, Lib.hid (Below.refl _ _)⟩
          case round =>
            obtain ⟨k, hk, rfl, hO, hle, hB⟩ := hrel
            obtain ⟨sx, cx, rfl⟩ := hO.out.at_.val
            obtain ⟨x0, x1, x2, x3⟩ := (HR1X.out.below hB.out HR1X.out.lt).four'
            have hpl := freeP_len U a k
            by_cases hkn : k < U.length
            · have hd : decide ((k : Int) < U.length) = true := by simpa using hkn
              by_cases hlq : (freeP U a k).length < q
              · have hd2 : decide (((freeP U a k).length : Int) < (q : Int)) = true := decide_eq_true (by omega)
                have hd3 : decide ((freeP U a k).length < q) = true := decide_eq_true hlq
                have hz : ((U.length : Int) == 0) = false := beq_eq_false_iff_ne.2 (by omega)
                have q1 : ((a : Int) + (k : Int)).tmod (U.length : Int) = (((a + k) % U.length : Nat) : Int) := by rw [← Int.natCast_add, Int.ofNat_tmod]
                have q2 : ((a : Int) + (k : Int)) % (U.length : Int) = (((a + k) % U.length : Nat) : Int) := by rw [← Int.natCast_add]; exact (Int.natCast_emod _ _).symm
                have hbl : (a + k) % U.length < U.length := Nat.mod_lt _ (by omega)
                obtain ⟨gs, os, rfl, hbs⟩ := (HVX.out.below hB.out (Nat.le_refl _)).at_ ((a + k) % U.length) hbl
                have hgd : U[(a + k) % U.length] = U.getD ((a + k) % U.length) false := by rw [List.getD_eq_getElem?_getD, List.getElem?_eq_getElem hbl]; rfl
                rw [hgd] at hbs
                cases hu : U.getD ((a + k) % U.length) false with
                | true =>
                  have HS := Lib.hid (freeP_used hu)
                  rw [hu] at hbs
                  clear hgd hu
                  generalize (a + k) % U.length = b at *
                  go_wp2_with fail
                  go_roundw
                  case rel => exact ⟨k + 1, by omega, by go_num, by rw [HS.out]; exact hO, by rw [HS.out]; exact hle, hB⟩
                  case measure => simp [intOf]; omega
                | false =>
                  have HS := Lib.hid (freeP_free hu)
                  rw [hu] at hbs
                  clear hgd hu
                  generalize (a + k) % U.length = b at *
                  have hsz := hB.out.size
                  go_wp2_with (at_builtin; refine wpList_append_own _ rfl _ _ 40 rfl w4.heap.size 3 i0 (.int .i64 0) 1 8 Try.underlying40 hi hz0 hz1 hz2 rfl (by decide) _ _ _ rfl (World.ownsRow.alloc hO.out _) ⟨wr.heap.size, 0, none⟩ 1 1 [.int .i64 (b : Int)] rfl rfl (cell_one _ _) (by simp [Value.oneCell']) (by unfold maxLen; omega) (by omega) (by simp; omega) ?_; intro v' w5 hown5 hgrow5 _)
                  have HO5 : Hid (OwnN w5 w4.heap.size v' (freeP U a (k + 1))) := Lib.hid (by show World.ownsRow _ _ _ _ _ _ _; rw [HS.out, natVs_snoc, List.length_append, List.length_singleton]; exact hown5)
                  have HB5 : Hid (Below w4.heap.size w4 w5) := Lib.hid ((hB.out.alloc hB.out.size _).grown hgrow5 (by have := hB.out.size; simp; omega) (fun k e => (hO.out.lt k e).1))
                  clear hown5 hgrow5
                  go_wp2
                  go_roundw
                  case rel => exact ⟨k + 1, by omega, by go_num, HO5, by rw [HS.out, List.length_append, List.length_singleton]; omega, HB5⟩
                  case measure => simp [intOf]; omega
              · have hd2 : decide (((freeP U a k).length : Int) < (q : Int)) = false := decide_eq_false (by omega)
                have hd3 : decide ((freeP U a k).length < q) = false := decide_eq_false hlq
                have HTE := Lib.hid (HTK.out k hk hle (.inr (by omega)))
                have HW := Lib.hid (refWith_any (w := wr) (l := l) (u := true) (L := (freeL U a).take q) (HVX.out.below hB.out (Nat.le_refl _)) (by rw [HTE.out]; exact hO.out.at_) hU (by rw [HTE.out]; omega) (fun b hb => (freeP_mem (k := U.length) (List.mem_of_mem_take hb) (by omega)).1))
                unfold stA at HW
                clear hpl hle
                go_wp2_with fail
                refine HW.out.mono ?_
                rintro e w6 ⟨v6, rfl, ho6, hb6⟩
                obtain ⟨s6, c6, rfl⟩ := ho6.at_.val
                rw [withL_len] at ho6 ⊢
                have HB6 := Lib.hid (hB.out.trans (hb6.mono hB.out.size))
                have HO6 := Lib.hid ho6
                have HN6 := Lib.hid ((show NatsAt wr _ ((freeL U a).take q) by rw [HTE.out]; exact hO.out.at_).below hb6 (Nat.le_refl _))
                have HZ := Lib.hid (HR2X.out.below HB6.out HR2X.out.lt)
                have HWR : Hid (w4.heap.size ≤ wr.heap.size ∧ wr.heap.size ≤ w6.heap.size) := Lib.hid ⟨hB.out.size, hb6.size⟩
                have HOW := hO
                obtain ⟨y0, y1, y2, y3⟩ := HZ.out.four
                have yf := HZ.out.froz
                clear hb6 ho6 x0 x1 x2 x3
                unfold stA
                go_wp2
                refine bodyPost_ret (bodyRet_ra rfl rfl rfl rfl (HZ.out.sets4 _ _ _ _) rfl) rfl ⟨_, _, by rw [HE.out]; rfl, ?_, ?_, below_sets4 (HBW.out.trans (HB6.out.mono HBW.out.size)) _ (by omega) _ _ _ _⟩
                · rw [HU2.out]
                  exact (HO6.out.sets4 (b := w.heap.size + 1) (by have := HLT.out; have := HWR.out; omega) (fun g o n c e => by have := (HO6.out.lt g (by rw [e]; rfl)).1; have := HLT.out; have := HWR.out; omega) _ _ _ _).at_
                · rw [HL2.out]
                  exact HN6.out.kept ((((Kept.refl (fun k => k = w.heap.size + 1) w6).setCell ⟨w.heap.size + 1, 0, none⟩ rfl _).setCell ⟨w.heap.size + 1, 1, none⟩ rfl _).setCell ⟨w.heap.size + 1, 2, none⟩ rfl _ |>.setCell ⟨w.heap.size + 1, 3, none⟩ rfl _) (fun b o n c e hn hx => by
                    rcases HOW.out.2 with ⟨e1, e2⟩ | ⟨g, cap, cur, e1, hg, _⟩
                    · rw [e1] at e; cases e
                    · rw [e1] at e; cases e; have := HLT.out; omega)

            · obtain rfl : k = U.length := by omega
              have hd : decide ((U.length : Int) < U.length) = false := by simp
              have HTE := Lib.hid (HTK.out U.length hk hle (.inl rfl))
              have HW := Lib.hid (refWith_any (w := wr) (l := l) (u := true) (L := (freeL U a).take q) (HVX.out.below hB.out (Nat.le_refl _)) (by rw [HTE.out]; exact hO.out.at_) hU (by rw [HTE.out]; omega) (fun b hb => (freeP_mem (k := U.length) (List.mem_of_mem_take hb) (by omega)).1))
              unfold stA at HW
              clear hpl hle
              go_wp2_with fail
              refine HW.out.mono ?_
              rintro e w6 ⟨v6, rfl, ho6, hb6⟩
              obtain ⟨s6, c6, rfl⟩ := ho6.at_.val
              rw [withL_len] at ho6 ⊢
              have HB6 := Lib.hid (hB.out.trans (hb6.mono hB.out.size))
              have HO6 := Lib.hid ho6
              have HN6 := Lib.hid ((show NatsAt wr _ ((freeL U a).take q) by rw [HTE.out]; exact hO.out.at_).below hb6 (Nat.le_refl _))
              have HZ := Lib.hid (HR2X.out.below HB6.out HR2X.out.lt)
              have HWR : Hid (w4.heap.size ≤ wr.heap.size ∧ wr.heap.size ≤ w6.heap.size) := Lib.hid ⟨hB.out.size, hb6.size⟩
              have HOW := hO
              obtain ⟨y0, y1, y2, y3⟩ := HZ.out.four
              have yf := HZ.out.froz
              clear hb6 ho6 x0 x1 x2 x3
              unfold stA
              go_wp2
              refine bodyPost_ret (bodyRet_ra rfl rfl rfl rfl (HZ.out.sets4 _ _ _ _) rfl) rfl ⟨_, _, by rw [HE.out]; rfl, ?_, ?_, below_sets4 (HBW.out.trans (HB6.out.mono HBW.out.size)) _ (by omega) _ _ _ _⟩
              · rw [HU2.out]
                exact (HO6.out.sets4 (b := w.heap.size + 1) (by have := HLT.out; have := HWR.out; omega) (fun g o n c e => by have := (HO6.out.lt g (by rw [e]; rfl)).1; have := HLT.out; have := HWR.out; omega) _ _ _ _).at_
              · rw [HL2.out]
                exact HN6.out.kept ((((Kept.refl (fun k => k = w.heap.size + 1) w6).setCell ⟨w.heap.size + 1, 0, none⟩ rfl _).setCell ⟨w.heap.size + 1, 1, none⟩ rfl _).setCell ⟨w.heap.size + 1, 2, none⟩ rfl _ |>.setCell ⟨w.heap.size + 1, 3, none⟩ rfl _) (fun b o n c e hn hx => by
                  rcases HOW.out.2 with ⟨e1, e2⟩ | ⟨g, cap, cur, e1, hg, _⟩
                  · rw [e1] at e; cases e
                  · rw [e1] at e; cases e; have := HLT.out; omega)

  · have hd := decB hE
    have HE : Hid (allocE l U near many = E) := Lib.hid (by unfold allocE; rw [if_neg (by rw [hEE]; exact hE), hEE])
    have HU2 : Hid (allocU l U near many = U) := Lib.hid (by unfold allocU; rw [if_neg (by rw [HE.out]; exact hE)])
    have HL2 : Hid (allocL l U near many = []) := Lib.hid (by unfold allocL; rw [if_neg (by rw [HE.out]; exact hE)])
    clear hEE
    go_enter Try.func21, Try.ntmps21
    go_wp2_with (rw [hw2])
    refine HC.out.mono ?_
    rintro e w3 ⟨rfl, hb3⟩
    have HBX := Lib.hid hb3
    clear hb3 x0 x1 x2 x3
    obtain ⟨x0, x1, x2, x3⟩ := (HR1.out.below HBX.out HR1.out.lt).four'
    obtain ⟨y0, y1, y2, y3⟩ := (HR2.out.below HBX.out HR2.out.lt).four
    have yf := (HR2.out.below HBX.out HR2.out.lt).froz
    have HBK := Lib.hid (ra_back (l := l) HV0.out HB2.out HR2.out HBX.out)
    go_wp2_with fail
    exact bodyPost_ret (bodyRet_ra rfl rfl rfl rfl HBK.out.1 rfl) rfl ⟨_, _, by rw [HE.out]; rfl, by rw [HU2.out]; exact HBK.out.2.1, by rw [HL2.out]; exact .inl ⟨_, _, rfl, rfl⟩, HBK.out.2.2⟩
end Go.Proofs.Ytkknelcolbdphaa
