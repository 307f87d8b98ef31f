/- Decode. -/
import Derived.Test.YtkknelcolbdphaaDecA
import Derived.Test.YtkknelcolbdphaaLLay
import Derived.Laws.Cover3
namespace Go.Proofs.Ytkknelcolbdphaa
open Go.RowKit
set_option maxRecDepth 100000
attribute [local go_sem ↓] allocM_eq loadM_eq storeM_eq
attribute [local irreducible] World.setCells

/-- The result's box is written; the state lies in a row of the call's own. -/
def DecPost (l : Lay) (b : List UInt8) (w : World) (e : Ending) (w' : World) : Prop := StPost (decL l b) (decU l b) (decE l b) w e w'
theorem dec_zero {w w2 W : World} (hb : Below w.heap.size w w2) (hR : Row w2 (w.heap.size + 1) zeroSt 33) (h : Below w2.heap.size w2 W) :
    Row ((((W.setCell ⟨w.heap.size + 1, 0, none⟩ (.int .i64 0)).setCell ⟨w.heap.size + 1, 1, none⟩ (.int .i64 0)).setCell ⟨w.heap.size + 1, 2, none⟩ (.int .i64 0)).setCell ⟨w.heap.size + 1, 3, none⟩ (.slice none 0 0)) (w.heap.size + 1) (stA ⟨0, 0, 0⟩ (.slice none 0 0)) 33 ∧
    Below w.heap.size w ((((W.setCell ⟨w.heap.size + 1, 0, none⟩ (.int .i64 0)).setCell ⟨w.heap.size + 1, 1, none⟩ (.int .i64 0)).setCell ⟨w.heap.size + 1, 2, none⟩ (.int .i64 0)).setCell ⟨w.heap.size + 1, 3, none⟩ (.slice none 0 0)) :=
  ⟨(hR.below h hR.lt).sets4 _ _ _ _, below_sets4 (hb.trans (h.mono hb.size)) _ (by omega) _ _ _ _⟩
theorem dec_end {l : Lay} {U : List Bool} {w w2 W : World} {v : Value} {q : Nat} (hb : Below w.heap.size w w2) (hR : Row w2 (w.heap.size + 1) zeroSt 33) (h : Below w2.heap.size w2 W) (hq : w2.heap.size ≤ q) (ho : OwnB W q v U) :
    Row ((((W.setCell ⟨w.heap.size + 1, 0, none⟩ (.int .i64 l.s)).setCell ⟨w.heap.size + 1, 1, none⟩ (.int .i64 l.j)).setCell ⟨w.heap.size + 1, 2, none⟩ (.int .i64 l.n)).setCell ⟨w.heap.size + 1, 3, none⟩ v) (w.heap.size + 1) (stA l v) 33 ∧
    OwnB ((((W.setCell ⟨w.heap.size + 1, 0, none⟩ (.int .i64 l.s)).setCell ⟨w.heap.size + 1, 1, none⟩ (.int .i64 l.j)).setCell ⟨w.heap.size + 1, 2, none⟩ (.int .i64 l.n)).setCell ⟨w.heap.size + 1, 3, none⟩ v) w.heap.size v U ∧
    Below w.heap.size w ((((W.setCell ⟨w.heap.size + 1, 0, none⟩ (.int .i64 l.s)).setCell ⟨w.heap.size + 1, 1, none⟩ (.int .i64 l.j)).setCell ⟨w.heap.size + 1, 2, none⟩ (.int .i64 l.n)).setCell ⟨w.heap.size + 1, 3, none⟩ v) := by
  have hlt := hR.lt
  have hsz := h.size
  exact ⟨(hR.below h hR.lt).sets4 _ _ _ _, (ho.sets4 (b := w.heap.size + 1) (by omega) (fun g o n c e => by have := (ho.lt g (by rw [e]; rfl)).1; omega) _ _ _ _).sub (by omega), below_sets4 (hb.trans (h.mono hb.size)) _ (by omega) _ _ _ _⟩
theorem decL_no {l : Lay} {b : List UInt8} {E : Int} (h : decE l b = E) (hE : E ≠ 0) : decL l b = ⟨0, 0, 0⟩ ∧ decU l b = [] := by
  unfold decL decU; rw [h, if_neg hE, if_neg hE]; exact ⟨rfl, rfl⟩
set_option maxHeartbeats 8000000 in
theorem decode_any {w : World} (l : Lay) {vb : Value} {b : List UInt8} (hv : BytesAt w vb b) :
    Calls Try.prog 35 #[.agg (layA l), vb] w (DecPost l b w) := by
  obtain ⟨sb, cb, rfl⟩ := hv.val
  have HN := Lib.hid (new_any l)
  obtain ⟨w2, hw2, hr1, hr2, hb2⟩ := box_new l w
  have HR2 := Lib.hid hr2
  have HB2 := Lib.hid hb2
  have HV := Lib.hid (hv.below hb2 (Nat.le_refl _))
  obtain ⟨x0, x1, x2⟩ := (show Row w2 w.heap.size #[.int .i64 l.s, .int .i64 l.j, .int .i64 l.n] _ from hr1).three
  clear hr1 hr2 hb2 hv
  unfold layA at *
  go_enter Try.func35, Try.ntmps35
  go_wp2_with (rw [hw2])
  refine (HN.out _).mono ?_
  rintro e w3 ⟨v3, rfl, ho3, hb3⟩
  obtain ⟨s3, c3, rfl⟩ := ho3.at_.val
  obtain ⟨wA, hwA, hrA, hbA, hbA'⟩ := box_one (stA (newL l) (.slice s3 (newU l).length c3)) 33 w2.heap.size w2 w3 hb3 (Nat.le_refl _)
  have HA := Lib.hid hrA
  have HBA := Lib.hid hbA
  have HOA := Lib.hid (OwnB.below ho3 hbA' (Nat.le_refl _))
  have HN3 : Hid (w2.heap.size ≤ w3.heap.size ∧ w.heap.size + 1 < w2.heap.size) := Lib.hid ⟨hb3.size, HR2.out.lt⟩
  have HRA := Lib.hid (HR2.out.below hbA HR2.out.lt)
  obtain ⟨y0, y1, y2, y3⟩ := HRA.out.four
  have yf := HRA.out.froz
  clear x0 x1 x2 hb3 hrA hbA hbA' ho3 hw2
  unfold stA at hwA ⊢
  by_cases h0 : regE l = 0
  · have hnE : newE l = 0 := h0
    have hnL : newL l = l := if_pos h0
    have hnU : newU l = List.replicate (blkN l).toNat false := if_pos h0
    obtain ⟨k0, k1, k2, k3, k4⟩ := dataN_ok h0
    rw [hnE]
    by_cases h96 : b.length = 96
    · have hdl : ((b.length : Int) == 96) = true := by simp; omega
      have hdl2 : decide ((b.length : Int) = 96) = true := by simp; omega
      obtain ⟨gb, ob, rfl, hgb, hcb⟩ := (HV.out.below HBA.out (Nat.le_refl _)).addr (by omega)
      have HCB := Lib.hid hcb
      have hld := run_loadM h96 hcb
      obtain ⟨wB, hwB⟩ : ∃ wB, wA.alloc (.cells (bmA [] 0) 72 (0, 0)) = wB := ⟨_, rfl⟩
      obtain ⟨wC, hwC⟩ : ∃ wC, wA.alloc (.cells (arA b) 72 (0, 0)) = wC := ⟨_, rfl⟩
      have ham := run_allocM wA
      have hst := run_storeM_new wA b h96 72
      rw [hwB] at ham hst
      rw [hwC] at hst
      have HM : Hid (Row wC wA.heap.size (arA b) 72) := Lib.hid (by rw [← hwC]; exact Row.new _ _ _)
      have hAC : Below wA.heap.size wA wC := by rw [← hwC]; exact (Below.refl _ _).alloc (Nat.le_refl _) _
      have HBC := Lib.hid (HBA.out.trans (hAC.mono HBA.out.size))
      obtain ⟨n, hn⟩ : ∃ n : Nat, blkN l = n := ⟨(blkN l).toNat, by omega⟩
      rw [hn] at hnU k2 k3
      rw [Int.toNat_natCast] at hnU
      have hlen : (newU l).length = n := by rw [hnU, List.length_replicate]
      have HO0 : Hid (OwnB wC w2.heap.size (.slice s3 n c3) (bitsK b n 0)) := Lib.hid (by
        have := OwnB.below HOA.out hAC (Nat.le_refl _)
        rw [hlen, hnU] at this
        rw [bitsK_zero]; exact this)
      have HT0 : Hid (Row wC w3.heap.size (stA l (.slice s3 n c3)) 33) := Lib.hid (by
        have := HA.out.below hAC HA.out.lt
        rw [hlen, hnL] at this; exact this)
      have HDE : Hid (decE l b = if badN b n 768 then 6 else 0) := Lib.hid (by unfold decE; rw [if_pos h0, if_pos h96, hn, Int.toNat_natCast])
      have HDU : Hid (decE l b = 0 → decU l b = bitsN b n) := Lib.hid (fun h => by unfold decU; rw [if_pos h, hn, Int.toNat_natCast])
      have HDL : Hid (decE l b = 0 → decL l b = l) := Lib.hid (fun h => if_pos h)
      have HNO := Lib.hid (fun (h : decE l b = 6) => decL_no h (by decide))
      rw [hlen] at hwA ⊢
      rw [hnL] at hwA ⊢
      have HLT3 : Hid (w3.heap.size < wA.heap.size) := Lib.hid HA.out.lt
      rw [h96]
      have har := run_arrayAt (P := Try.prog) wA 72 5 96 (some ⟨gb, ob, none⟩) 96 cb Try.underlying72 (Nat.le_refl _)
      clear h0 hnE hnL hnU k0 k4 hn hlen HA HOA hcb hgb hwB hwC hAC
      go_wp2_with (rw [hwA])
      clear hld ham hst har hwA y0 y1 y2 y3 yf hdl hdl2
      go_loopw [26] (fun i wr => ∃ k : Nat, k ≤ 768 ∧ i = .int .i64 k ∧ Hid (OwnB wr w2.heap.size (.slice s3 n c3) (bitsK b n k)) ∧ Hid (Row wr w3.heap.size (stA l (.slice s3 n c3)) 33) ∧ Hid (Row wr wA.heap.size (arA b) 72) ∧ Hid (badN b n k = false) ∧ Hid (Below w2.heap.size w2 wr)) (fun i _ => 768 - (intOf i).toNat)
      case atStart => exact ⟨0, Nat.zero_le _, rfl, HO0, HT0, HM, Lib.hid rfl, HBC⟩
      case round =>
        obtain ⟨k, hk, rfl, hO, hT, hM, hBD, hB⟩ := hrel
        clear HO0 HT0
        by_cases hlt : k < 768
        · have HH := Lib.hid (has_any k hM.out h96 hlt)
          have HBS := Lib.hid (badN_succ b n k)
          cases hu : bitB b k with
          | false =>
            rw [hu] at HH
            have HO2 : Hid (OwnB wr w2.heap.size (.slice s3 n c3) (bitsK b n (k + 1))) := Lib.hid (by rw [bitsK_false b n k hu]; exact hO.out)
            have HB2' : Hid (badN b n (k + 1) = false) := Lib.hid (by rw [HBS.out, hBD.out, hu]; simp)
            clear hu
            go_wp2_with fail
            refine HH.out.mono ?_
            rintro e w' ⟨rfl, rfl⟩
            go_wp2_with fail
            go_roundw
            case rel => exact ⟨k + 1, by omega, by go_num, HO2, hT, hM, HB2', hB⟩
            case measure => simp [intOf]; omega
          | true =>
            rw [hu] at HH
            obtain ⟨t0, t1, t2, t3⟩ := hT.out.four'
            by_cases hkn : k < n
            · have hd1 : decide ((n : Int) ≤ (k : Int)) = false := decide_eq_false (by omega)
              have hd2 : decide (n ≤ k) = false := decide_eq_false (by omega)
              have HO1 : Hid (OwnB wr w2.heap.size (.slice s3 (bitsK b n k).length c3) (bitsK b n k)) := Lib.hid (by rw [bitsK_len]; exact hO.out)
              obtain ⟨g, rfl, hg1, hg2⟩ := HO1.out.addr (by rw [bitsK_len]; omega)
              have hcg := HO1.out.cellB k (by rw [bitsK_len]; exact hkn)
              have hfg : wr.frozen? ⟨g, k, none⟩ = false := World.ownsRow.frozenAt HO1.out _
              have HO2 : Hid (OwnB (wr.setCell ⟨g, k, none⟩ (.bool true)) w2.heap.size (.slice (some ⟨g, 0, none⟩) n c3) (bitsK b n (k + 1))) := Lib.hid (by
                have := HO1.out.set k true
                rw [bitsK_len, ← hu, bitsK_step] at this
                rw [hu] at this
                exact this)
              have HB2' : Hid (badN b n (k + 1) = false) := Lib.hid (by rw [HBS.out, hBD.out, hd2]; rfl)
              have HNE : Hid (w3.heap.size ≠ g ∧ wA.heap.size ≠ g) := Lib.hid (by
                rcases HO1.out.2 with ⟨e1, _⟩ | ⟨g', cap, cur, e1, hb1, hg', _⟩
                · cases e1
                · cases e1
                  have hT2 : wr.heap[w3.heap.size]? = _ := hT.out
                  have hM2 : wr.heap[wA.heap.size]? = _ := hM.out
                  constructor
                  · intro e; rw [e, hg'] at hT2; cases hT2
                  · intro e; rw [e, hg'] at hM2; cases hM2)
              clear hu
              go_wp2_with fail
              refine HH.out.mono ?_
              rintro e w' ⟨rfl, rfl⟩
              go_wp2_with fail
              go_roundw
              case rel => exact ⟨k + 1, by omega, by go_num, HO2, Lib.hid (hT.out.other HNE.out.1), Lib.hid (hM.out.other HNE.out.2), HB2', Lib.hid (hB.out.setCell (p := ⟨g, k, none⟩) hg1 _)⟩
              case measure => simp [intOf]; omega
            · have hd1 : decide ((n : Int) ≤ (k : Int)) = true := decide_eq_true (by omega)
              have hd2 : decide (n ≤ k) = true := decide_eq_true (by omega)
              have HE : Hid (decE l b = 6) := Lib.hid (by rw [HDE.out, badN_mono (k := k + 1) (by rw [HBS.out, hd2, hu]; simp) 768 (by omega)]; rfl)
              obtain ⟨hL0, hU0⟩ := HNO.out HE.out
              have HL0 := Lib.hid hL0
              have HU0 := Lib.hid hU0
              have HRZ := HR2.out.below hB.out HR2.out.lt
              obtain ⟨y0, y1, y2, y3⟩ := HRZ.four
              have yf := HRZ.froz
              have HDZ := Lib.hid (dec_zero HB2.out HR2.out hB.out)
              clear hu hL0 hU0 HRZ
              go_wp2_with fail
              refine HH.out.mono ?_
              rintro e w' ⟨rfl, rfl⟩
              go_wp2_with fail
              exact bodyPost_ret (bodyRet_st rfl rfl rfl HDZ.out.1 rfl) rfl ⟨_, by rw [HL0.out, HE.out]; rfl, by rw [HU0.out]; exact ownB_nil _ _, HDZ.out.2⟩
        · obtain rfl : k = 768 := by omega
          have HE : Hid (decE l b = 0) := Lib.hid (by rw [HDE.out, hBD.out]; rfl)
          have HU := Lib.hid (HDU.out HE.out)
          have HL := Lib.hid (HDL.out HE.out)
          have HO1 : Hid (OwnB wr w2.heap.size (.slice s3 n c3) (bitsN b n)) := Lib.hid (by rw [← bitsK_out b n 768 (by omega)]; exact hO.out)
          have HEN := Lib.hid (dec_end (l := l) HB2.out HR2.out hB.out (Nat.le_refl _) HO1.out)
          have HRZ := HR2.out.below hB.out HR2.out.lt
          obtain ⟨y0, y1, y2, y3⟩ := HRZ.four
          have yf := HRZ.froz
          obtain ⟨t0, t1, t2, t3⟩ := hT.out.four'
          clear HRZ
          go_wp2_with fail
          exact bodyPost_ret (bodyRet_st rfl rfl rfl HEN.out.1 rfl) rfl ⟨_, by rw [HL.out, HE.out]; rfl, by rw [HU.out]; exact HEN.out.2.1, HEN.out.2.2⟩
    · have hdl : ((b.length : Int) == 96) = false := by simp; omega
      have hdl2 : decide ((b.length : Int) = 96) = false := by simp; omega
      have HE : Hid (decE l b = 3) := Lib.hid (by unfold decE; rw [if_pos h0, if_neg h96])
      obtain ⟨hL0, hU0⟩ := decL_no HE.out (by decide)
      have HL0 := Lib.hid hL0
      have HU0 := Lib.hid hU0
      have HDZ := Lib.hid (dec_zero HB2.out HR2.out HBA.out)
      clear h0 hnE hL0 hU0 hnL hnU k0 k1 k2 k3 k4
      go_wp2_with (rw [hwA])
      exact bodyPost_ret (bodyRet_st rfl rfl rfl HDZ.out.1 rfl) rfl ⟨_, by rw [HL0.out, HE.out]; rfl, by rw [HU0.out]; exact ownB_nil _ _, HDZ.out.2⟩
  · have HE : Hid (decE l b = regE l) := Lib.hid (by unfold decE; rw [if_neg h0])
    obtain ⟨hL0, hU0⟩ := decL_no HE.out h0
    have HL0 := Lib.hid hL0
    have HU0 := Lib.hid hU0
    have HDZ := Lib.hid (dec_zero HB2.out HR2.out HBA.out)
    have hd := decB h0
    have hnE : newE l = regE l := rfl
    rw [hnE]
    clear hL0 hU0 hnE
    obtain ⟨E, hE⟩ : ∃ E, regE l = E := ⟨_, rfl⟩
    rw [hE] at hd h0 HE ⊢
    clear hE
    go_wp2_with (rw [hwA])
    exact bodyPost_ret (bodyRet_st rfl rfl rfl HDZ.out.1 rfl) rfl ⟨_, by rw [HL0.out, HE.out]; rfl, by rw [HU0.out]; exact ownB_nil _ _, HDZ.out.2⟩
end Go.Proofs.Ytkknelcolbdphaa
