/- The reference's turn, Take, Free. -/
import Derived.Test.YtkknelcolbdphaaRList
import Derived.Test.YtkknelcolbdphaaRAlloc
namespace Go.Proofs.Ytkknelcolbdphaa
open Go.RowKit
set_option maxRecDepth 100000

def RTPost (l : Lay) (U : List Bool) (E : Int) (w : World) (e : Ending) (w' : World) : Prop := ∃ v, e = .returned (.tuple #[.agg (stA l v), .int .i64 E]) ∧ BoolsAt w' v U ∧ Below w.heap.size w w'
set_option maxHeartbeats 8000000 in
theorem turn_any {w : World} {l : Lay} {v vl : Value} {U : List Bool} {L : List Int} {u : Bool} (x : Int) (hv : BoolsAt w v U) (hl : IntsAt w vl L) (hU : U.length ≤ 1000) (hLl : L.length ≤ 100000) (hx : x ≠ 0) :
    Calls Try.prog 47 #[.agg (stA l v), vl, .bool u, .int .i64 x] w (RTPost l (putU l U L u x) (putE l U L u x) w) := by
  obtain ⟨s, c, rfl⟩ := hv.val
  obtain ⟨sl, cl, rfl⟩ := hl.val
  obtain ⟨w2, hw2, hr1, hr2, hb2⟩ := box_two l (.slice s U.length c) w
  have HR1 := Lib.hid hr1
  have HR2 := Lib.hid hr2
  have HB2 := Lib.hid hb2
  have HV0 := Lib.hid hv
  have HV := Lib.hid (hv.below hb2 (Nat.le_refl _))
  have HL := Lib.hid (hl.below hb2 (Nat.le_refl _))
  have HC := Lib.hid (refCheck_any l U s c w2)
  obtain ⟨x0, x1, x2, x3⟩ := hr1.four'
  clear hr1 hr2 hb2 hv hl
  obtain ⟨E, hEE⟩ : ∃ E, chkE l U = E := ⟨_, rfl⟩
  rw [hEE] at HC
  unfold stA at hw2 HC ⊢
  go_enter Try.func47, Try.ntmps47
  go_wp2_with (rw [hw2])
  refine HC.out.mono ?_
  rintro e w3 ⟨rfl, hb3⟩
  have HB3 := Lib.hid hb3
  clear hb3 x0 x1 x2 x3 hw2
  by_cases hE : E = 0
  · subst hE
    obtain ⟨hn8, hn245⟩ := chkE_len hEE
    have HCL := Lib.hid (listed_any (l := l) (HV.out.below HB3.out (Nat.le_refl _)) (HL.out.below HB3.out (Nat.le_refl _)) hU hLl)
    unfold stA at HCL
    obtain ⟨F, hF⟩ : ∃ F, listE U.length L = F := ⟨_, rfl⟩
    rw [hF] at HCL
    obtain ⟨x0, x1, x2, x3⟩ := (HR1.out.below HB3.out HR1.out.lt).four'
    go_wp2_with fail
    refine HCL.out.mono ?_
    rintro e w4 ⟨rfl, hb4⟩
    have HB4 := Lib.hid (HB3.out.trans (hb4.mono HB3.out.size))
    clear hb4 x0 x1 x2 x3
    by_cases hF0 : F = 0
    · subst hF0
      have HLI := Lib.hid (listE_in hF)
      have HMB := Lib.hid (toNat_mem hF)
      have HPE : Hid (putE l U L u x = if anyP U L u L.length then x else 0) := Lib.hid (by unfold putE; rw [if_pos hEE, if_pos hF])
      have hdx := decB hx
      clear hEE hF
      go_wp2_with fail
      go_loopw [10, 11] (fun ev i wr => ∃ (k : Nat) (b : Bool), k ≤ L.length ∧ i = .int .i64 k ∧ ev = .int .i64 (if b then x else 0) ∧ Hid (if b then anyP U L u L.length = true else anyP U L u k = false) ∧ Hid (Below w2.heap.size w2 wr)) (fun _ i _ => L.length - (intOf i).toNat)
      case atStart => exact ⟨0, false, Nat.zero_le _, rfl, rfl, Lib.hid (by unfold anyP; rw [List.take_zero]; rfl), HB4⟩
      case round =>
        obtain ⟨k, b0, hk, rfl, rfl, hA, hB⟩ := hrel
        have HBX := hB
        cases b0 with
        | true =>
          have HE : Hid (putE l U L u x = x) := Lib.hid (by have h := hA.out; rw [HPE.out, show anyP U L u L.length = true from h]; rfl)
          have HU2 : Hid (putU l U L u x = U) := Lib.hid (by unfold putU; rw [if_neg (by rw [HE.out]; exact hx)])
          rw [show (if true = true then x else 0) = x from rfl]
          by_cases hlt : k < L.length
          · have hd1 : decide ((k : Int) < L.length) = true := by simpa using hlt
            obtain ⟨x0, x1, x2, x3⟩ := (HR1.out.below HBX.out HR1.out.lt).four'
            obtain ⟨y0, y1, y2, y3⟩ := (HR2.out.below HBX.out HR2.out.lt).four
            have yf := (HR2.out.below HBX.out HR2.out.lt).froz
            have HBK := Lib.hid (ra_back (l := l) HV0.out HB2.out HR2.out HBX.out)
            go_wp2_with fail
            exact bodyPost_ret (bodyRet_st rfl rfl rfl HBK.out.1 rfl) rfl ⟨_, by rw [HE.out]; rfl, by rw [HU2.out]; exact HBK.out.2.1, HBK.out.2.2⟩

          · have hd1 : decide ((k : Int) < L.length) = false := decide_eq_false (by omega)
            have hd2 : decide (k < L.length) = false := decide_eq_false hlt
            obtain ⟨x0, x1, x2, x3⟩ := (HR1.out.below HBX.out HR1.out.lt).four'
            obtain ⟨y0, y1, y2, y3⟩ := (HR2.out.below HBX.out HR2.out.lt).four
            have yf := (HR2.out.below HBX.out HR2.out.lt).froz
            have HBK := Lib.hid (ra_back (l := l) HV0.out HB2.out HR2.out HBX.out)
            go_wp2_with fail
            exact bodyPost_ret (bodyRet_st rfl rfl rfl HBK.out.1 rfl) rfl ⟨_, by rw [HE.out]; rfl, by rw [HU2.out]; exact HBK.out.2.1, HBK.out.2.2⟩

        | false =>
          have hA' : Hid (anyP U L u k = false) := Lib.hid hA.out
          rw [show (if false = true then x else 0) = (0 : Int) from rfl]
          by_cases hlt : k < L.length
          · have hd : decide ((k : Int) < L.length) = true := by simpa using hlt
            obtain ⟨g, o, rfl, h1⟩ := (HL.out.below hB.out (Nat.le_refl _)).at_ k hlt
            have hgd : L[k] = L.getD k 0 := by rw [List.getD_eq_getElem?_getD, List.getElem?_eq_getElem hlt]; rfl
            rw [hgd] at h1
            have HS := Lib.hid (anyP_succ (U := U) (u := u) hlt)
            have hki := HLI.out k hlt
            obtain ⟨b, hb⟩ := Int.eq_ofNat_of_zero_le hki.1
            rw [hb] at h1 hki HS
            rw [Int.toNat_natCast] at HS
            unfold intV at h1
            obtain ⟨gu, ou, rfl, h2⟩ := (HV.out.below hB.out (Nat.le_refl _)).at_ b (by omega)
            have hgu : U[b]'(by omega) = U.getD b false := by rw [List.getD_eq_getElem?_getD, List.getElem?_eq_getElem (by omega)]; rfl
            rw [hgu] at h2
            have x3 := (HR1.out.below hB.out HR1.out.lt).four'.2.2.2
            have q3 := fun m => (show (wr.drewN m).cell? ⟨w.heap.size, 3, none⟩ = _ from x3)
            have q1 := fun m => (show (wr.drewN m).cell? ⟨g, o + k, none⟩ = some (.int .i64 (b : Int)) from h1)
            have q2 := fun m => (show (wr.drewN m).cell? ⟨gu, ou + b, none⟩ = some (.bool (U.getD b false)) from h2)
            have hbl : b < U.length := by omega
            clear hgd hgu hb hki
            cases hq : (U.getD b false == u) with
            | true =>
              have HAT : Hid (if true = true then anyP U L u L.length = true else anyP U L u (k + 1) = false) := Lib.hid (anyP_mono (k := k + 1) (by rw [HS.out, hq]; simp) L.length (by omega) (Nat.le_refl _))
              generalize U.getD b false = y at *
              clear HS
              go_wp2
              go_quiet (fail)
              have HM2 : Hid (Below w2.heap.size w2 (wr.drewN nq)) := Lib.hid ⟨hB.out.os, hB.out.tape, hB.out.output, hB.out.size, hB.out.block⟩
              go_wp2
              go_roundw
              case rel => exact ⟨k + 1, true, by omega, by go_num, rfl, HAT, HM2⟩
              case measure => simp [intOf]; omega
            | false =>
              have HAN : Hid (if false = true then anyP U L u L.length = true else anyP U L u (k + 1) = false) := Lib.hid (by show anyP U L u (k + 1) = false; rw [HS.out, hA'.out, hq]; rfl)
              generalize U.getD b false = y at *
              clear HS
              go_wp2
              go_quiet (fail)
              have HM2 : Hid (Below w2.heap.size w2 (wr.drewN nq)) := Lib.hid ⟨hB.out.os, hB.out.tape, hB.out.output, hB.out.size, hB.out.block⟩
              go_wp2
              go_roundw
              case rel => exact ⟨k + 1, false, by omega, by go_num, rfl, HAN, HM2⟩
              case measure => simp [intOf]; omega
          · obtain rfl : k = L.length := by omega
            have hd : decide ((L.length : Int) < L.length) = false := by simp
            have HE : Hid (putE l U L u x = 0) := Lib.hid (by rw [HPE.out, hA'.out]; rfl)
            have HU2 : Hid (putU l U L u x = withL U (L.map Int.toNat) u) := Lib.hid (by unfold putU; rw [if_pos HE.out])
            obtain ⟨x0, x1, x2, x3⟩ := (HR1.out.below HBX.out HR1.out.lt).four'
            have HCP := Lib.hid (refWith_any (l := l) (u := u) (HV.out.below HBX.out (Nat.le_refl _)) (nats_of (HL.out.below HBX.out (Nat.le_refl _)) (fun k hk => (HLI.out k hk).1)) hU (by rw [List.length_map]; exact hLl) HMB.out)
            unfold stA at HCP
            go_wp2_with fail
            refine HCP.out.mono ?_
            rintro e w6 ⟨v6, rfl, ho6, hb6⟩
            obtain ⟨s6, c6, rfl⟩ := ho6.at_.val
            rw [withL_len] at ho6 ⊢
            have HB6 := Lib.hid (HBX.out.trans (hb6.mono HBX.out.size))
            have HBK := Lib.hid (put_end (l := l) (w4 := w) HB2.out HR2.out HB6.out HBX.out.size ho6)
            obtain ⟨y0, y1, y2, y3⟩ := (HR2.out.below HB6.out HR2.out.lt).four
            have yf := (HR2.out.below HB6.out HR2.out.lt).froz
            clear hb6 ho6 x0 x1 x2 x3
            unfold stA
            go_wp2_with fail
            exact bodyPost_ret (bodyRet_st rfl rfl rfl HBK.out.1 rfl) rfl ⟨_, by rw [HE.out]; rfl, by rw [HU2.out]; exact HBK.out.2.1.at_, HBK.out.2.2⟩
    · have hd := decB hF0
      have HE : Hid (putE l U L u x = F) := Lib.hid (by unfold putE; rw [if_pos hEE, if_neg (by rw [hF]; exact hF0), hF])
      have HU2 : Hid (putU l U L u x = U) := Lib.hid (by unfold putU; rw [if_neg (by rw [HE.out]; exact hF0)])
      have HBX0 := HB4
      clear hEE hF
      go_wp2_with fail
      go_loopw [10, 11] (fun ev i wr => ev = .int .i64 F ∧ i = .int .i64 0 ∧ Hid (Below w2.heap.size w2 wr)) (fun _ _ _ => 0)
      case atStart => exact ⟨rfl, rfl, HBX0⟩
      case round =>
        obtain ⟨rfl, rfl, HBX⟩ := hrel
        clear HBX0
        by_cases hln : 0 < L.length
        · have hd1 : decide ((0 : Int) < (L.length : Int)) = true := decide_eq_true (by omega)
          have hd2 : decide (0 < L.length) = true := decide_eq_true hln
          obtain ⟨x0, x1, x2, x3⟩ := (HR1.out.below HBX.out HR1.out.lt).four'
          obtain ⟨y0, y1, y2, y3⟩ := (HR2.out.below HBX.out HR2.out.lt).four
          have yf := (HR2.out.below HBX.out HR2.out.lt).froz
          have HBK := Lib.hid (ra_back (l := l) HV0.out HB2.out HR2.out HBX.out)
          go_wp2_with fail
          exact bodyPost_ret (bodyRet_st rfl rfl rfl HBK.out.1 rfl) rfl ⟨_, by rw [HE.out]; rfl, by rw [HU2.out]; exact HBK.out.2.1, HBK.out.2.2⟩
        · have hd1 : decide ((0 : Int) < (L.length : Int)) = false := decide_eq_false (by omega)
          have hd2 : decide (0 < L.length) = false := decide_eq_false hln
          obtain ⟨x0, x1, x2, x3⟩ := (HR1.out.below HBX.out HR1.out.lt).four'
          obtain ⟨y0, y1, y2, y3⟩ := (HR2.out.below HBX.out HR2.out.lt).four
          have yf := (HR2.out.below HBX.out HR2.out.lt).froz
          have HBK := Lib.hid (ra_back (l := l) HV0.out HB2.out HR2.out HBX.out)
          go_wp2_with fail
          exact bodyPost_ret (bodyRet_st rfl rfl rfl HBK.out.1 rfl) rfl ⟨_, by rw [HE.out]; rfl, by rw [HU2.out]; exact HBK.out.2.1, HBK.out.2.2⟩

  · have hd := decB hE
    have HE : Hid (putE l U L u x = E) := Lib.hid (by unfold putE; rw [if_neg (by rw [hEE]; exact hE), hEE])
    have HU2 : Hid (putU l U L u x = U) := Lib.hid (by unfold putU; rw [if_neg (by rw [HE.out]; exact hE)])
    have HBX0 := HB3
    clear hEE
    go_wp2_with fail
    go_loopw [10, 11] (fun ev i wr => ev = .int .i64 E ∧ i = .int .i64 0 ∧ Hid (Below w2.heap.size w2 wr)) (fun _ _ _ => 0)
    case atStart => exact ⟨rfl, rfl, HBX0⟩
    case round =>
      obtain ⟨rfl, rfl, HBX⟩ := hrel
      clear HBX0
      by_cases hln : 0 < L.length
      · have hd1 : decide ((0 : Int) < (L.length : Int)) = true := decide_eq_true (by omega)
        have hd2 : decide (0 < L.length) = true := decide_eq_true hln
        obtain ⟨x0, x1, x2, x3⟩ := (HR1.out.below HBX.out HR1.out.lt).four'
        obtain ⟨y0, y1, y2, y3⟩ := (HR2.out.below HBX.out HR2.out.lt).four
        have yf := (HR2.out.below HBX.out HR2.out.lt).froz
        have HBK := Lib.hid (ra_back (l := l) HV0.out HB2.out HR2.out HBX.out)
        go_wp2_with fail
        exact bodyPost_ret (bodyRet_st rfl rfl rfl HBK.out.1 rfl) rfl ⟨_, by rw [HE.out]; rfl, by rw [HU2.out]; exact HBK.out.2.1, HBK.out.2.2⟩
      · have hd1 : decide ((0 : Int) < (L.length : Int)) = false := decide_eq_false (by omega)
        have hd2 : decide (0 < L.length) = false := decide_eq_false hln
        obtain ⟨x0, x1, x2, x3⟩ := (HR1.out.below HBX.out HR1.out.lt).four'
        obtain ⟨y0, y1, y2, y3⟩ := (HR2.out.below HBX.out HR2.out.lt).four
        have yf := (HR2.out.below HBX.out HR2.out.lt).froz
        have HBK := Lib.hid (ra_back (l := l) HV0.out HB2.out HR2.out HBX.out)
        go_wp2_with fail
        exact bodyPost_ret (bodyRet_st rfl rfl rfl HBK.out.1 rfl) rfl ⟨_, by rw [HE.out]; rfl, by rw [HU2.out]; exact HBK.out.2.1, HBK.out.2.2⟩
/-- As ra_back, for a state that is read anywhere else than in the result's box. -/
theorem rt_end {l : Lay} {U : List Bool} {w w2 W : World} {s : Option Addr} {n c : Nat} (hb : Below w.heap.size w w2) (hR : Row w2 (w.heap.size + 1) zeroSt 33) (h : Below w2.heap.size w2 W) (hv : BoolsAt W (.slice s n c) U) :
    Row ((((W.setCell ⟨w.heap.size + 1, 0, none⟩ (.int .i64 l.s)).setCell ⟨w.heap.size + 1, 1, none⟩ (.int .i64 l.j)).setCell ⟨w.heap.size + 1, 2, none⟩ (.int .i64 l.n)).setCell ⟨w.heap.size + 1, 3, none⟩ (.slice s n c)) (w.heap.size + 1) (stA l (.slice s n c)) 33 ∧
    BoolsAt ((((W.setCell ⟨w.heap.size + 1, 0, none⟩ (.int .i64 l.s)).setCell ⟨w.heap.size + 1, 1, none⟩ (.int .i64 l.j)).setCell ⟨w.heap.size + 1, 2, none⟩ (.int .i64 l.n)).setCell ⟨w.heap.size + 1, 3, none⟩ (.slice s n c)) (.slice s n c) U ∧
    Below w.heap.size w ((((W.setCell ⟨w.heap.size + 1, 0, none⟩ (.int .i64 l.s)).setCell ⟨w.heap.size + 1, 1, none⟩ (.int .i64 l.j)).setCell ⟨w.heap.size + 1, 2, none⟩ (.int .i64 l.n)).setCell ⟨w.heap.size + 1, 3, none⟩ (.slice s n c)) := by
  have hRW := hR.below h hR.lt
  refine ⟨hRW.sets4 _ _ _ _, ?_, below_sets4 (hb.trans (h.mono hb.size)) _ (by omega) _ _ _ _⟩
  refine hv.kept ((((Kept.refl (fun k => k = w.heap.size + 1) W).setCell ⟨w.heap.size + 1, 0, none⟩ rfl _).setCell ⟨w.heap.size + 1, 1, none⟩ rfl _).setCell ⟨w.heap.size + 1, 2, none⟩ rfl _ |>.setCell ⟨w.heap.size + 1, 3, none⟩ rfl _) (fun b o n' c' e hn hx => ?_)
  rcases hv with ⟨a, c2, e2, h0⟩ | ⟨b2, o2, c2, e2, hb3, hc⟩
  · rw [e2] at e; cases e; exact hn rfl
  · rw [e2] at e
    cases e
    have hlen : 0 < U.length := by omega
    have h1 := hc 0 hlen
    subst hx
    rw [Nat.add_zero] at h1
    unfold World.cell? at h1
    rw [show W.heap[w.heap.size + 1]? = _ from hRW] at h1
    match o, h1 with
    | 0, h1 => simp at h1
    | 1, h1 => simp at h1
    | 2, h1 => simp at h1
    | 3, h1 => simp at h1
    | o + 4, h1 => simp at h1
set_option maxHeartbeats 2000000 in
theorem refTake_any {w : World} {l : Lay} {v vl : Value} {U : List Bool} {L : List Int} (hv : BoolsAt w v U) (hl : IntsAt w vl L) (hU : U.length ≤ 1000) (hLl : L.length ≤ 100000) :
    Calls Try.prog 26 #[.agg (stA l v), vl] w (RTPost l (putU l U L true 9) (putE l U L true 9) w) := by
  obtain ⟨s, c, rfl⟩ := hv.val
  obtain ⟨sl, cl, rfl⟩ := hl.val
  obtain ⟨w2, hw2, hr1, hr2, hb2⟩ := box_two l (.slice s U.length c) w
  have HR2 := Lib.hid hr2
  have HB2 := Lib.hid hb2
  have HP := Lib.hid (turn_any (l := l) (u := true) 9 (hv.below hb2 (Nat.le_refl _)) (hl.below hb2 (Nat.le_refl _)) hU hLl (by decide))
  obtain ⟨x0, x1, x2, x3⟩ := hr1.four'
  clear hr1 hr2 hb2 hv hl
  unfold stA at hw2 HP ⊢
  go_enter Try.func26, Try.ntmps26
  go_wp2_with (rw [hw2])
  refine HP.out.mono ?_
  rintro e w6 ⟨v6, rfl, hv6, hb6⟩
  obtain ⟨s6, c6, rfl⟩ := hv6.val
  have HBK := Lib.hid (rt_end (l := l) HB2.out HR2.out hb6 hv6)
  obtain ⟨y0, y1, y2, y3⟩ := (HR2.out.below hb6 HR2.out.lt).four
  have yf := (HR2.out.below hb6 HR2.out.lt).froz
  clear hb6 hv6 x0 x1 x2 x3 hw2
  unfold stA
  go_wp2_with fail
  exact bodyPost_ret (bodyRet_st rfl rfl rfl HBK.out.1 rfl) rfl ⟨_, rfl, HBK.out.2.1, HBK.out.2.2⟩
set_option maxHeartbeats 2000000 in
theorem refFree2_any {w : World} {l : Lay} {v vl : Value} {U : List Bool} {L : List Int} (hv : BoolsAt w v U) (hl : IntsAt w vl L) (hU : U.length ≤ 1000) (hLl : L.length ≤ 100000) :
    Calls Try.prog 28 #[.agg (stA l v), vl] w (RTPost l (putU l U L false 4) (putE l U L false 4) w) := by
  obtain ⟨s, c, rfl⟩ := hv.val
  obtain ⟨sl, cl, rfl⟩ := hl.val
  obtain ⟨w2, hw2, hr1, hr2, hb2⟩ := box_two l (.slice s U.length c) w
  have HR2 := Lib.hid hr2
  have HB2 := Lib.hid hb2
  have HP := Lib.hid (turn_any (l := l) (u := false) 4 (hv.below hb2 (Nat.le_refl _)) (hl.below hb2 (Nat.le_refl _)) hU hLl (by decide))
  obtain ⟨x0, x1, x2, x3⟩ := hr1.four'
  clear hr1 hr2 hb2 hv hl
  unfold stA at hw2 HP ⊢
  go_enter Try.func28, Try.ntmps28
  go_wp2_with (rw [hw2])
  refine HP.out.mono ?_
  rintro e w6 ⟨v6, rfl, hv6, hb6⟩
  obtain ⟨s6, c6, rfl⟩ := hv6.val
  have HBK := Lib.hid (rt_end (l := l) HB2.out HR2.out hb6 hv6)
  obtain ⟨y0, y1, y2, y3⟩ := (HR2.out.below hb6 HR2.out.lt).four
  have yf := (HR2.out.below hb6 HR2.out.lt).froz
  clear hb6 hv6 x0 x1 x2 x3 hw2
  unfold stA
  go_wp2_with fail
  exact bodyPost_ret (bodyRet_st rfl rfl rfl HBK.out.1 rfl) rfl ⟨_, rfl, HBK.out.2.1, HBK.out.2.2⟩
end Go.Proofs.Ytkknelcolbdphaa
