/- awake. -/
import Derived.Test.YtkknelcolbdphaaAlloc
import Derived.Test.YtkknelcolbdphaaRWith
import Derived.Test.YtkknelcolbdphaaEnc
namespace Go.Proofs.Ytkknelcolbdphaa
open Go.RowKit
set_option maxRecDepth 100000

theorem example_any (w : World) : Calls Try.prog 40 #[] w fun e w' => e = .returned (.agg #[.int .i64 64, .int .i64 8, .int .i64 40]) ∧ Below w.heap.size w w' := by
  have HR := Lib.hid (Row.new w #[.int .i64 64, .int .i64 8, .int .i64 40] 23)
  have HB := Lib.hid ((Below.refl w.heap.size w).alloc (Nat.le_refl _) (.cells #[.int .i64 64, .int .i64 8, .int .i64 40] 23))
  go_enter Try.func40, Try.ntmps40
  go_wp2
  exact bodyPost_ret (results_cell_row (P := Try.prog) rfl _ _ w.heap.size 23 _ (0, 0) _ rfl HR.out Try.underlying23 rfl (by rw [szLay]; rfl)) rfl ⟨rfl, HB.out⟩
theorem alloc_any {w : World} {l : Lay} {v : Value} {U : List Bool} (near many : Int) (hv : BoolsAt w v U) (hU : U.length ≤ 1000) :
    Calls Try.prog 20 #[.agg (stA l v), .int .i64 near, .int .i64 many] w (AllocPost l (allocU l U near many) (allocL l U near many) (allocE l U near many) w) :=
  callsIn_wide.1 (alloc_in 8 (by omega) near many hv hU)
theorem count_any {w : World} {l : Lay} {v : Value} {U : List Bool} (hv : BoolsAt w v U) (hU : U.length ≤ 1000) :
    Calls Try.prog 29 #[.agg (stA l v)] w fun e w' => e = .returned (.tuple #[.int .i64 (countV l U : Nat), .int .i64 (chkE l U)]) ∧ Below w.heap.size w w' :=
  callsIn_wide.1 (count_in 8 (by omega) hv hU)
def exL : Lay := ⟨64, 8, 40⟩
def exU0 : List Bool := List.replicate 14 false
def exU1 : List Bool := [true, false, false, false, false, false, false, false, false, false, false, false, true, true]
def exU2 : List Bool := [true, true, false, false, false, false, false, false, false, false, false, false, true, true]
theorem ex_r : regE exL = 0 ∧ regA exL = #[.int .i64 1, .int .i64 9, .int .i64 10, .int .i64 50, .int .i64 14] := ⟨rfl, rfl⟩
theorem ex_n : newL exL = exL ∧ newU exL = exU0 ∧ newE exL = 0 := ⟨rfl, rfl, rfl⟩
theorem ex_a1 : allocU exL exU0 12 3 = exU1 ∧ allocL exL exU0 12 3 = [12, 13, 0] ∧ allocE exL exU0 12 3 = 0 := by decide +kernel
theorem ex_a2 : allocU exL exU1 12 1 = exU2 ∧ allocL exL exU1 12 1 = [1] ∧ allocE exL exU1 12 1 = 0 := by decide +kernel
theorem ex_c : countV exL exU2 = 10 ∧ chkE exL exU2 = 0 := by decide +kernel
theorem ex_e : (encL exL exU2).length = 96 ∧ (encL exL exU2).take 3 = [3, 48, 0] := by decide +kernel
theorem nats_new3 (a b c : Nat) (w : World) : NatsAt (w.alloc (.cells #[.int .i64 (a : Int), .int .i64 (b : Int), .int .i64 (c : Int)] 3 (0, 0))) (.slice (some ⟨w.heap.size, 0, none⟩) 3 3) [a, b, c] := by
  have h := Row.new w #[.int .i64 (a : Int), .int .i64 (b : Int), .int .i64 (c : Int)] 3
  refine .inr ⟨w.heap.size, 0, 3, rfl, h.lt, fun k hk => ?_⟩
  rw [Nat.zero_add]
  match k, hk with
  | 0, _ => exact h.cell 0 _ rfl
  | 1, _ => exact h.cell 1 _ rfl
  | 2, _ => exact h.cell 2 _ rfl
theorem nats_new1 (a : Nat) (w : World) : NatsAt (w.alloc (.cells #[.int .i64 (a : Int)] 3 (0, 0))) (.slice (some ⟨w.heap.size, 0, none⟩) 1 1) [a] := by
  have h := Row.new w #[.int .i64 (a : Int)] 3
  refine .inr ⟨w.heap.size, 0, 1, rfl, h.lt, fun k hk => ?_⟩
  rw [Nat.zero_add]
  match k, hk with
  | 0, _ => exact h.cell 0 _ rfl
theorem Row.four' {w : World} {b T : Nat} {l : Lay} {v : Value} (h : Row w b (stA l v) T) : w.cell? ⟨b, 0, none⟩ = some (.int .i64 l.s) ∧ w.cell? ⟨b, 1, none⟩ = some (.int .i64 l.j) ∧ w.cell? ⟨b, 2, none⟩ = some (.int .i64 l.n) ∧ w.cell? ⟨b, 3, none⟩ = some v :=
  ⟨h.cell 0 _ rfl, h.cell 1 _ rfl, h.cell 2 _ rfl, h.cell 3 _ rfl⟩
/-- The bytes that awake looks at. -/
theorem ex_bytes {w : World} {v : Value} (h : BytesAt w v (encL exL exU2)) : ∃ g o c, v = .slice (some ⟨g, o, none⟩) 96 c ∧ w.cell? ⟨g, o, none⟩ = some (.int .u8 3) ∧ w.cell? ⟨g, o + 1, none⟩ = some (.int .u8 48) ∧ w.cell? ⟨g, o + 2, none⟩ = some (.int .u8 0) := by
  obtain ⟨e1, e2⟩ := ex_e
  rcases h with ⟨a, c, _, h0⟩ | ⟨g, o, c, rfl, _, hc⟩
  · rw [h0] at e1; cases e1
  · have h3 : ∀ k (hk : k < 96) (x : UInt8), (encL exL exU2)[k]? = some x → w.cell? ⟨g, o + k, none⟩ = some (byV x) := fun k hk x hx => by
      have := hc k (by rw [e1]; exact hk)
      rw [List.getElem?_eq_getElem (by rw [e1]; exact hk)] at hx
      injection hx with hx
      rw [this, hx]
    have h4 : ∀ k, k < 3 → (encL exL exU2)[k]? = ([3, 48, 0] : List UInt8)[k]? := fun k hk => by rw [← e2, List.getElem?_take_of_lt hk]
    exact ⟨g, o, c, by rw [e1], h3 0 (by omega) 3 (h4 0 (by omega)), h3 1 (by omega) 48 (h4 1 (by omega)), h3 2 (by omega) 0 (h4 2 (by omega))⟩
set_option maxHeartbeats 4000000 in
theorem awake_any (w : World) : Calls Try.prog 18 #[] w fun e w' => e = .returned (.bool true) ∧ Below w.heap.size w w' := by
  have HEX := Lib.hid example_any
  have HRG := Lib.hid (fun w => regions_any exL w)
  have HNW := Lib.hid (fun w => new_any exL w)
  have HR0 := Lib.hid ex_r
  have HN0 := Lib.hid ex_n
  have HA1 := Lib.hid ex_a1
  have HA2 := Lib.hid ex_a2
  go_enter Try.func18, Try.ntmps18
  go_wp2_with fail
  refine (HEX.out _).mono ?_
  rintro e wa ⟨rfl, hba⟩
  have HBa := Lib.hid hba
  clear hba
  go_wp2_with fail
  refine (HRG.out _).mono ?_
  rintro e wb ⟨rfl, hbb⟩
  rw [HR0.out.1, HR0.out.2]
  obtain ⟨wc, hwc⟩ : ∃ wc, wb.alloc (.cells #[.int .i64 1, .int .i64 9, .int .i64 10, .int .i64 50, .int .i64 14] 25 (0, 0)) = wc := ⟨_, rfl⟩
  have HRr : Hid (Row wc wb.heap.size #[.int .i64 1, .int .i64 9, .int .i64 10, .int .i64 50, .int .i64 14] 25) := Lib.hid (by rw [← hwc]; exact Row.new _ _ _)
  have hb1 := HBa.out.trans (hbb.mono HBa.out.size)
  have HBc : Hid (Below w.heap.size w wc) := Lib.hid (by rw [← hwc]; exact hb1.alloc hb1.size _)
  clear hbb hb1
  go_wp2_with (rw [hwc])
  refine (HEX.out _).mono ?_
  rintro e wd ⟨rfl, hbd⟩
  clear hwc
  go_wp2_with fail
  refine (HNW.out _).mono ?_
  rintro e we ⟨v0, rfl, ho0, hbe⟩
  rw [HN0.out.1, HN0.out.2.2]
  rw [HN0.out.2.1] at ho0
  obtain ⟨s0, c0, rfl⟩ := ho0.at_.val
  obtain ⟨wf, hwf⟩ : ∃ wf, we.alloc (.cells (stA exL (.slice s0 exU0.length c0)) 33 (0, 0)) = wf := ⟨_, rfl⟩
  have hRs : Row wf we.heap.size (stA exL (.slice s0 exU0.length c0)) 33 := by rw [← hwf]; exact Row.new _ _ _
  have hbd2 := hbd.trans (hbe.mono hbd.size)
  have HBf : Hid (Below wc.heap.size wc wf) := Lib.hid (by rw [← hwf]; exact hbd2.alloc hbd2.size _)
  have hv0 : BoolsAt wf (.slice s0 exU0.length c0) exU0 := by rw [← hwf]; exact ho0.at_.below ((Below.refl we.heap.size we).alloc (Nat.le_refl _) _) (Nat.le_refl _)
  have HC1 := Lib.hid (alloc_any (l := exL) 12 3 hv0 (by decide))
  obtain ⟨x0, x1, x2, x3⟩ := hRs.four'
  clear hbd hbe hbd2 hRs hv0 ho0
  unfold stA at hwf HC1 ⊢
  go_wp2_with (rw [hwf])
  refine HC1.out.mono ?_
  rintro e wg ⟨v1, l1, rfl, ho1, hl1, hbg⟩
  rw [HA1.out.1] at ho1
  rw [HA1.out.2.1] at hl1
  rw [HA1.out.2.2]
  obtain ⟨s1, c1, rfl⟩ := ho1.at_.val
  obtain ⟨sl1, cl1, rfl⟩ := hl1.at_.val
  obtain ⟨wh, hwh⟩ : ∃ wh, wg.alloc (.cells (stA exL (.slice s1 exU1.length c1)) 33 (0, 0)) = wh := ⟨_, rfl⟩
  have hRt : Row wh wg.heap.size (stA exL (.slice s1 exU1.length c1)) 33 := by rw [← hwh]; exact Row.new _ _ _
  have HBh : Hid (Below wc.heap.size wc wh) := Lib.hid (by rw [← hwh]; exact (HBf.out.trans (hbg.mono HBf.out.size)).alloc (HBf.out.trans (hbg.mono HBf.out.size)).size _)
  have hgh : Below wg.heap.size wg wh := by rw [← hwh]; exact (Below.refl wg.heap.size wg).alloc (Nat.le_refl _) _
  have HL1 := Lib.hid (hl1.at_.below hgh (Nat.le_refl _))
  have HB1 : Hid (∀ b o n c, (.slice sl1 [12, 13, 0].length cl1 : Value) = .slice (some ⟨b, o, none⟩) n c → n ≠ 0 → b ≠ wg.heap.size) := Lib.hid (fun b o n c e hn => by have := hl1.at_.blk b o n c e hn; omega)
  have HC2 := Lib.hid (alloc_any (l := exL) 12 1 (ho1.at_.below hgh (Nat.le_refl _)) (by decide))
  have HRt := Lib.hid hRt
  have HGC : Hid (wc.heap.size ≤ wg.heap.size) := Lib.hid (Nat.le_trans HBf.out.size hbg.size)
  clear x0 x1 x2 x3 hbg hRt hgh ho1 hl1 hwf
  obtain ⟨x0, x1, x2, x3⟩ := HRt.out.four'
  unfold stA at hwh HC2 ⊢
  go_wp2_with (rw [hwh])
  refine HC2.out.mono ?_
  rintro e wi ⟨v2, l2, rfl, ho2, hl2, hbi⟩
  rw [HA2.out.1] at ho2
  rw [HA2.out.2.1] at hl2
  rw [HA2.out.2.2]
  obtain ⟨s2, c2, rfl⟩ := ho2.at_.val
  obtain ⟨sl2, cl2, rfl⟩ := hl2.at_.val
  have hTi := HRt.out.below hbi HRt.out.lt
  obtain ⟨wj, hwj⟩ : ∃ wj, (((wi.setCell ⟨wg.heap.size, 0, none⟩ (.int .i64 exL.s)).setCell ⟨wg.heap.size, 1, none⟩ (.int .i64 exL.j)).setCell ⟨wg.heap.size, 2, none⟩ (.int .i64 exL.n)).setCell ⟨wg.heap.size, 3, none⟩ (.slice s2 exU2.length c2) = wj := ⟨_, rfl⟩
  have hkj : Kept (fun k => k = wg.heap.size) wi wj := by
    rw [← hwj]; exact ((((Kept.refl (fun k => k = wg.heap.size) wi).setCell ⟨wg.heap.size, 0, none⟩ rfl _).setCell ⟨wg.heap.size, 1, none⟩ rfl _).setCell ⟨wg.heap.size, 2, none⟩ rfl _).setCell ⟨wg.heap.size, 3, none⟩ rfl _
  have HRj : Hid (Row wj wg.heap.size (stA exL (.slice s2 exU2.length c2)) 33) := Lib.hid (by rw [← hwj]; exact hTi.sets4 _ _ _ _)
  have HBj : Hid (Below wc.heap.size wc wj) := Lib.hid ((HBh.out.trans (hbi.mono HBh.out.size)).trans (hkj.toBelow (by have := HBh.out.size; have := hbi.size; omega) (fun k e => by have := HGC.out; omega)))
  have HLj1 : Hid (NatsAt wj (.slice sl1 [12, 13, 0].length cl1) [12, 13, 0]) := Lib.hid ((HL1.out.below hbi (Nat.le_refl _)).kept hkj (fun b o n c e hn hx => HB1.out b o n c e hn hx))
  have hlt : wg.heap.size < wh.heap.size := HRt.out.lt
  have HLj2 : Hid (NatsAt wj (.slice sl2 [1].length cl2) [1]) := Lib.hid (hl2.at_.kept hkj (fun b o n c e hn hx => by
    have e1 : sl2 = some ⟨b, o, none⟩ := by cases e; rfl
    obtain ⟨g, cap, e2⟩ := ownsRow_succ hl2
    have e3 : sl2 = some ⟨g, 0, none⟩ := by cases e2; rfl
    have h3 := (hl2.lt g (by rw [e3]; rfl)).1
    rw [e3] at e1
    cases e1
    omega))
  have hVj : BoolsAt wj (.slice s2 exU2.length c2) exU2 := ho2.at_.kept hkj (fun b o n c e hn hx => by
    have e1 : s2 = some ⟨b, o, none⟩ := by cases e; rfl
    obtain ⟨g, cap, e2⟩ := ownsRow_succ ho2
    have e3 : s2 = some ⟨g, 0, none⟩ := by cases e2; rfl
    have h3 := (ho2.lt g (by rw [e3]; rfl)).1
    rw [e3] at e1
    cases e1
    omega)
  have HENC := Lib.hid (encode_any (l := exL) hVj)
  have HVJ := Lib.hid hVj
  obtain ⟨y0, y1, y2, y3⟩ := hTi.four'
  have yf := hTi.froz
  clear x0 x1 x2 x3 hbi hTi hkj ho2 hl2 hwh hVj hlt
  obtain ⟨x0, x1, x2, x3⟩ := HRj.out.four'
  unfold stA at HENC ⊢
  go_wp2_with (rw [hwj])
  refine HENC.out.mono ?_
  rintro e wk ⟨vb, rfl, hby, hbk⟩
  have HX2 := Lib.hid ex_c
  rw [HX2.out.2]
  have HBY := Lib.hid hby
  have HCN := Lib.hid (count_any (l := exL) (HVJ.out.below hbk (Nat.le_refl _)) (by decide))
  rw [HX2.out.1, HX2.out.2] at HCN
  have HRk := Lib.hid (HRj.out.below hbk HRj.out.lt)
  have HBk := Lib.hid (HBj.out.trans (hbk.mono HBj.out.size))
  have HLk1 := Lib.hid (HLj1.out.below hbk (Nat.le_refl _))
  have HLk2 := Lib.hid (HLj2.out.below hbk (Nat.le_refl _))
  clear x0 x1 x2 x3 y0 y1 y2 y3 yf hbk hby hwj
  obtain ⟨x0, x1, x2, x3⟩ := HRk.out.four'
  unfold stA at HCN
  go_wp2_with fail
  refine HCN.out.mono ?_
  rintro e wl ⟨rfl, hbl⟩
  have HBl := Lib.hid (HBk.out.trans (hbl.mono HBk.out.size))
  have hBYl := HBY.out.below hbl (Nat.le_refl _)
  have HBYl := Lib.hid hBYl
  obtain ⟨gb, ob, cb, rfl, b0, b1, b2⟩ := ex_bytes hBYl
  have HLl1 := Lib.hid (HLk1.out.below hbl (Nat.le_refl _))
  have HLl2 := Lib.hid (HLk2.out.below hbl (Nat.le_refl _))
  obtain ⟨r0, r1, r2, r3, r4⟩ := (HRr.out.below HBl.out HRr.out.lt).five
  clear x0 x1 x2 x3 b0 b1 b2 hbl hBYl
  go_wp2_with fail
  have hb1 : Below wl.heap.size wl (wl.alloc (.cells #[.int .i64 12, .int .i64 13, .int .i64 0] 3 (0, 0))) := (Below.refl _ _).alloc (Nat.le_refl _) _
  refine (ints_same (L := [12, 13, 0]) (HLl1.out.below hb1 (Nat.le_refl _)) (nats_new3 12 13 0 wl) (by decide)).mono ?_
  rintro e wm ⟨rfl, hbm⟩
  have hbm1 := hb1.trans (hbm.mono hb1.size)
  have HBM := Lib.hid hbm1
  clear hb1 hbm hbm1 r0 r1 r2 r3 r4
  go_wp2_with fail
  have hb2 : Below wm.heap.size wm (wm.alloc (.cells #[.int .i64 1] 3 (0, 0))) := (Below.refl _ _).alloc (Nat.le_refl _) _
  refine (ints_same (L := [1]) ((HLl2.out.below HBM.out (Nat.le_refl _)).below hb2 (Nat.le_refl _)) (nats_new1 1 wm) (by decide)).mono ?_
  rintro e wn ⟨rfl, hbn⟩
  have hbn1 := HBM.out.trans ((hb2.trans (hbn.mono hb2.size)).mono HBM.out.size)
  have HBN := Lib.hid (HBc.out.trans ((HBl.out.trans (hbn1.mono HBl.out.size)).mono HBc.out.size))
  obtain ⟨g2, o2, c2', e2, b0, b1, b2⟩ := ex_bytes (HBYl.out.below hbn1 (Nat.le_refl _))
  have e3 : g2 = gb ∧ o2 = ob := by cases e2; exact ⟨rfl, rfl⟩
  obtain ⟨rfl, rfl⟩ := e3
  clear e2 hb2 hbn hbn1
  go_wp2_with fail
  go_ret
  exact ⟨rfl, HBN.out⟩
end Go.Proofs.Ytkknelcolbdphaa
