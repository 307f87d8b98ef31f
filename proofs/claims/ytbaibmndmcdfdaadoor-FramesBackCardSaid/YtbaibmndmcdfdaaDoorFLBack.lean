/- The law FramesBack. -/
import Derived.Test.YtbaibmndmcdfdaaDoorFLOpens
namespace Go.Proofs.YtbaibmndmcdfdaaDoor.F
open Go.RowKit
open D (Sec Kept loadS storeS allocS loadS_eq storeS_eq allocS_eq neqS neqS_eq eqlS eqlS_eq ElemsAt)
set_option maxRecDepth 100000
attribute [local go_sem ↓] loadS_eq storeS_eq allocS_eq boxS_eq allocF_eq storeF_eq loadF_eq convB_eq neqS_eq eqlS_eq eqlF_eq neqF_eq boxF_eq boxO_eq loadO_eq
attribute [local go_sem ↓] Go.wp_at_zero Go.wp_at_succ

theorem run_loadF_in {w : World} {b : Nat} {x : Od} (h : OAt w b x) : (loadF (.pointer (some ⟨b, 1, none⟩))).run Tryd.prog w = .ok (.agg (frA x.f)) w :=
  D.load_at (cs := (frA x.f).toList) (aggFr w) szFr rfl (fun j u hj => by
    have : (odA x)[1 + j]? = some u := by
      match j, hj with
      | 0, hj => simpa [odA, frA] using hj
      | 1, hj => simpa [odA, frA] using hj
      | 2, hj => simpa [odA, frA] using hj
      | k + 3, hj => simp [frA] at hj
    exact h.cell (1 + j) u this)
/-- Open of Seal is the frame. -/
theorem back_one (a : UInt8) (f : Fr) (hk : 1 ≤ f.kind ∧ f.kind ≤ 255) (hs : f.data.size ≤ 112) (hq : f.seq < 4294967296) :
    sealE (a.toNat : Int) f.kind f.data.data.toList.length = 0 ∧ openE (a.toNat : Int) (sealV (a.toNat : Int) f.kind f.seq f.data.data.toList) = 0 ∧ openF (a.toNat : Int) (sealV (a.toNat : Int) f.kind f.seq f.data.data.toList) = f := by
  have ha := a.toNat_lt
  have hE : sealE (a.toNat : Int) f.kind f.data.data.toList.length = 0 := sealE_ok (by unfold badS; omega) (by rw [← Lib.size_eq]; omega)
  have h := open_seal (a.toNat : Int) f (a.toNat : Int) hE hq (by omega)
  exact ⟨hE, by have := h.1; rw [if_pos rfl] at this; exact this, h.2.1 rfl⟩

def st14 : Op := Op.store 27 (Operand.tmp 14) (Operand.tmp 101)
def ld9 : Op := Op.load 27 (Operand.tmp 9)
def placeK (at_ : Int) (a k : Nat) : Int := if k = 0 then at_ else a
/-- Beside it the places. -/
structure PS (w : World) (b X Y : Nat) (x : Od) (s : Sec) (at_ : Int) (a : Nat) (W : World) : Prop where
  qs : QS w b X x s [] W
  ys : W.heap[Y]? = some (.cells #[.int .i64 at_, .int .i64 (a : Nat)] 39 (0, 0))
theorem PS.more {w : World} {b X Y : Nat} {x : Od} {s : Sec} {at_ : Int} {a : Nat} {W W' : World} (h : PS w b X Y x s at_ a W) (k : Below W.heap.size W W') : PS w b X Y x s at_ a W' :=
  ⟨h.qs.more k, (k.block Y (Array.getElem?_eq_some_iff.1 h.ys).1).trans h.ys⟩
theorem PS.cell {w : World} {b X Y : Nat} {x : Od} {s : Sec} {at_ : Int} {a : Nat} {W : World} (h : PS w b X Y x s at_ a W) (k : Nat) (hk : k < 2) : W.cell? ⟨Y, k, none⟩ = some (.int .i64 (placeK at_ a k)) := by
  unfold World.cell?
  rw [h.ys]
  have : k = 0 ∨ k = 1 := by omega
  rcases this with rfl | rfl <;> rfl
/-- A block that is new since W0 is written over. -/
theorem PS.far {w : World} {b X Y : Nat} {x : Od} {s : Sec} {at_ : Int} {a : Nat} {W0 W : World} (h : PS w b X Y x s at_ a W) (h0 : PS w b X Y x s at_ a W0) (A : Array Value) : PS w b X Y x s at_ a (W.setRow W0.heap.size A) := by
  have k := Kept.setRow (X := fun k => k = W0.heap.size) (Kept.refl _ W) W0.heap.size rfl A
  have l1 := h0.qs.ob.lt
  have l2 := h0.qs.sx.lt
  have l3 := (Array.getElem?_eq_some_iff.1 h0.ys).1
  have l4 := h0.qs.below.size
  exact ⟨⟨(k.block b h.qs.ob.lt (by omega)).trans h.qs.ob, h.qs.sx.kept k (by omega), (fun p hp => by cases hp), h.qs.below.trans (k.toBelow h.qs.below.size (fun k e => by omega))⟩, (k.block Y (Array.getElem?_eq_some_iff.1 h.ys).1 (by omega)).trans h.ys⟩
theorem run_storeFr_new (w : World) (f : Fr) : (storeF (.pointer (some ⟨w.heap.size, 0, none⟩)) (.agg (frA f))).run Tryd.prog (w.alloc (.cells (frA Fr.zero) 24 (0, 0))) = .ok () (w.alloc (.cells (frA f) 24 (0, 0))) := by
  have h := run_storeFr (f := Fr.zero) (z := w.heap.size) (heap_alloc_new w _) f
  rw [D.setRow_alloc] at h
  exact h
/-- One proof for all the ways that end alike. -/
structure Kp (p : Prop) : Prop where
  out : p
theorem cutG {T G : Prop} (r : Kp T → G) (m : T) : G := r ⟨m⟩
/-- Beside it a frame in a block of its own. -/
structure RB (w : World) (b X Y : Nat) (x : Od) (s : Sec) (at_ : Int) (a : Nat) (Z : Nat) (f : Fr) (W : World) : Prop where
  ps : PS w b X Y x s at_ a W
  fz : FAt W Z f
theorem RB.more {w : World} {b X Y : Nat} {x : Od} {s : Sec} {at_ : Int} {a : Nat} {Z : Nat} {f : Fr} {W W' : World} (h : RB w b X Y x s at_ a Z f W) (k : Below W.heap.size W W') : RB w b X Y x s at_ a Z f W' := ⟨h.ps.more k, h.fz.below k h.fz.lt⟩
theorem RB.far {w : World} {b X Y : Nat} {x : Od} {s : Sec} {at_ : Int} {a : Nat} {Z : Nat} {f : Fr} {W0 W : World} (h : RB w b X Y x s at_ a Z f W) (h0 : RB w b X Y x s at_ a Z f W0) (A : Array Value) : RB w b X Y x s at_ a Z f (W.setRow W0.heap.size A) := by
  have k := Kept.setRow (X := fun k => k = W0.heap.size) (Kept.refl _ W) W0.heap.size rfl A
  have l1 := h0.fz.lt
  exact ⟨h.ps.far h0.ps A, h.fz.kept k (by omega)⟩
theorem back_four (n : Nat) (k : Int) : ((1 ≤ k ∧ k ≤ 255) ∧ n ≤ 112) ∨ 112 < n ∨ (n ≤ 112 ∧ k < 1) ∨ (n ≤ 112 ∧ 1 ≤ k ∧ 255 < k) := by omega
set_option maxHeartbeats 4000000 in
theorem framesBack_any (at_ : Int) (x : Od) (w : World) (hE : Env w) (hw : 1 ≤ w.heap.size) (hx : OdIn w x) :
    Calls Tryd.prog 5 #[.int .i64 at_, .agg (odA x)] w (TrueP w) := by
  have HE := Lib.hid (fun (W : World) (h : Below w.heap.size w W) => hE.below h hw)
  have HW := Lib.hid (fun (W : World) (h : Below w.heap.size w W) => Nat.le_trans hw h.size)
  obtain ⟨w1, hbx, hO, hb1⟩ := run_boxO x w
  have HB1 := Lib.hid hb1
  have HO1 := Lib.hid hO
  have HA := Lib.hid (fun (W : World) (h : Below w.heap.size w W) => awake_any W (HE.out W h) (HW.out W h))
  have c0 := hO.cell 0 (.int .u8 x.at_.toNat) rfl
  have c1 := hO.cell 1 (.int .i64 x.f.kind) rfl
  have c2 := hO.cell 2 (.int .u32 x.f.seq) rfl
  have c3 := hO.cell 3 (.string x.f.data) rfl
  obtain ⟨s, hs⟩ : ∃ s, oddV x = s := ⟨_, rfl⟩
  have HOD := Lib.hid (fun (W : World) (h : Below w.heap.size w W) => odd_any x W (hx.below h))
  rw [hs] at HOD
  have hwa := wrap64_in (x.at_.toNat : Int) (by omega) (by have := x.at_.toNat_lt; omega)
  have HC0 := Lib.hid (fun (W : World) (h : OAt W w.heap.size x) => h.cell 0 (.int .u8 x.at_.toNat) rfl)
  have hseq := hx.1
  have HBK := Lib.hid (fun hk hs => back_one x.at_ x.f hk hs hseq)
  generalize x.at_.toNat = a at c0 hwa HC0 HBK
  clear hE hw hO hb1 hs hx
  rcases back_four x.f.data.size x.f.kind with hg | hg | hg | hg
  case' inl =>
    obtain ⟨k1, k2, k3⟩ := HBK.out hg.1 hg.2
    have d1 : decide ((x.f.data.size : Int) ≤ 112) = true := decide_eq_true (by omega)
    have d2 : decide (1 ≤ x.f.kind) = true := decide_eq_true (by omega)
    have d3 : decide (x.f.kind ≤ 255) = true := decide_eq_true (by omega)
    obtain ⟨q, hqV⟩ : ∃ q, sealV (a : Int) x.f.kind x.f.seq x.f.data.data.toList = q := ⟨_, rfl⟩
    rw [hqV] at k2 k3
    have HS1 := Lib.hid (seal_as hqV k1 w1 (HE.out _ HB1.out) (HW.out _ HB1.out) hseq)
    have HS2 := Lib.hid (fun (W : World) (h : Below w.heap.size w W) => open_as k3 k2 W (HE.out W h) (HW.out W h))
    clear hg k1 k2 k3 hqV
    go_enter Tryd.func5, Tryd.ntmps5
    go_wp2_with fail
    refine HS1.out.mono ?_
    rintro e w2 ⟨rfl, hb2⟩
    obtain ⟨w3, ha3, hst3, hB3, hb3⟩ := lay_sec w2 q
    have HB3 := Lib.hid ((HB1.out.trans (hb2.mono HB1.out.size)).trans (hb3.mono (Nat.le_trans HB1.out.size hb2.size)))
    have HO3 := Lib.hid ((HO1.out.below hb2 HO1.out.lt).below hb3 (Nat.lt_of_lt_of_le HO1.out.lt hb2.size))
    have hl3 := hB3.load
    have cc := HC0.out _ HO3.out
    have HK := Lib.hid (HS2.out w3 HB3.out)
    clear hb2 hb3 hB3 HS1 HS2 c0 c1 c2 c3
    go_wp2_with fail
    refine HK.out.mono ?_
    rintro e w4 ⟨rfl, hb4⟩
    obtain ⟨w5, ha5, hst5, hF5, hb5⟩ := lay_fr w4 x.f
    have HB5 := Lib.hid ((HB3.out.trans (hb4.mono HB3.out.size)).trans (hb5.mono (Nat.le_trans HB3.out.size hb4.size)))
    have HO5 := Lib.hid ((HO3.out.below hb4 HO3.out.lt).below hb5 (Nat.lt_of_lt_of_le HO3.out.lt hb4.size))
    have hlf := run_loadF hF5
    have hli := run_loadF_in HO5.out
    have hnf := run_neqF w5 x.f x.f
    rw [decide_eq_true rfl] at hnf
    have hlo := run_loadO HO5.out
    have HKO := Lib.hid (HOD.out w5 HB5.out)
    clear hb4 hb5 hF5 HK cc ha3 hst3 hl3 HB1 HO1 HB3 HO3 hbx
    go_wp2_with fail
    clear ha5 hst5 hlf hli hnf d1 d2 d3 hlo
  case' inr.inl =>
    have d1 : decide ((x.f.data.size : Int) ≤ 112) = false := decide_eq_false (by omega)
    have HB5 := Lib.hid HB1.out
    have HO5 := Lib.hid HO1.out
    have hlo := run_loadO HO5.out
    have HKO := Lib.hid (HOD.out w1 HB1.out)
    clear hg HB1 HO1
    go_enter Tryd.func5, Tryd.ntmps5
    go_wp2_with fail
    clear hbx c0 c1 c2 c3 hlo d1
    generalize w1 = w5 at *
  case' inr.inr.inl =>
    have d1 : decide ((x.f.data.size : Int) ≤ 112) = true := decide_eq_true (by omega)
    have d2 : decide (1 ≤ x.f.kind) = false := decide_eq_false (by omega)
    have HB5 := Lib.hid HB1.out
    have HO5 := Lib.hid HO1.out
    have hlo := run_loadO HO5.out
    have HKO := Lib.hid (HOD.out w1 HB1.out)
    clear hg HB1 HO1
    go_enter Tryd.func5, Tryd.ntmps5
    go_wp2_with fail
    clear hbx c0 c1 c2 c3 hlo d1 d2
    generalize w1 = w5 at *
  case' inr.inr.inr =>
    have d1 : decide ((x.f.data.size : Int) ≤ 112) = true := decide_eq_true (by omega)
    have d2 : decide (1 ≤ x.f.kind) = true := decide_eq_true (by omega)
    have d3 : decide (x.f.kind ≤ 255) = false := decide_eq_false (by omega)
    have HB5 := Lib.hid HB1.out
    have HO5 := Lib.hid HO1.out
    have hlo := run_loadO HO5.out
    have HKO := Lib.hid (HOD.out w1 HB1.out)
    clear hg HB1 HO1
    go_enter Tryd.func5, Tryd.ntmps5
    go_wp2_with fail
    clear hbx c0 c1 c2 c3 hlo d1 d2 d3
    generalize w1 = w5 at *
  all_goals
    refine HKO.out.mono ?_
    rintro e w6 ⟨rfl, hb6⟩
    obtain ⟨w7, ha, hst, hB, hb7⟩ := lay_sec w6 s
    have HQ7 := Lib.hid (show QS w w.heap.size w6.heap.size x s [] w7 from ⟨(HO5.out.below hb6 HO5.out.lt).below hb7 (Nat.lt_of_lt_of_le HO5.out.lt hb6.size), hB, (fun p hp => by cases hp), (HB5.out.trans (hb6.mono HB5.out.size)).trans (hb7.mono (Nat.le_trans HB5.out.size hb6.size))⟩)
    have cc := HC0.out _ HQ7.out.ob
    clear hb6 hb7 hB HKO
    obtain ⟨w8, hw8⟩ : ∃ w8, w7.alloc (.cells #[.int .i64 at_, .int .i64 (a : Nat)] 39) = w8 := ⟨_, rfl⟩
    have HP8 : Hid (PS w w.heap.size w6.heap.size w7.heap.size x s at_ a w8) := Lib.hid ⟨by rw [← hw8]; exact HQ7.out.more ((Below.refl _ _).alloc (Nat.le_refl _) _), by rw [← hw8]; exact heap_alloc_new w7 _⟩
    have HW8 := Lib.hid hw8
    clear hw8
    go_wp2_with fail
    rw [HW8.out]
    clear ha hst cc HQ7 HW8 HB5 HO5
    go_loopw [11] (fun i wr => ∃ k : Nat, k ≤ 2 ∧ i = .int .i64 k ∧ Hid (PS w w.heap.size w6.heap.size w7.heap.size x s at_ a wr)) (fun i _ => 2 - (intOf i).toNat)
    case atStart => exact ⟨0, by omega, rfl, HP8⟩
    case round =>
      obtain ⟨k, hk, rfl, hP⟩ := hrel
      clear HP8 hwa
      by_cases hlt : k < 2
      · obtain ⟨pl, hpl⟩ : ∃ pl, placeK at_ a k = pl := ⟨_, rfl⟩
        have HPL := Lib.hid hpl
        obtain ⟨f, hf⟩ : ∃ f, openF pl s = f := ⟨_, rfl⟩
        obtain ⟨ee, hee⟩ : ∃ ee, openE pl s = ee := ⟨_, rfl⟩
        have HFF := Lib.hid hf
        have HEE := Lib.hid hee
        have HC := Lib.hid (fun (W : World) (h : PS w w.heap.size w6.heap.size w7.heap.size x s at_ a W) => (show W.cell? ⟨w7.heap.size, k, none⟩ = some (.int .i64 pl) by rw [← HPL.out]; exact h.cell k hlt))
        have HOP := Lib.hid (fun (W : World) (h : PS w w.heap.size w6.heap.size w7.heap.size x s at_ a W) => open_as hf hee W (HE.out W h.qs.below) (HW.out W h.qs.below))
        have HSL := Lib.hid (fun (W : World) (h : PS w w.heap.size w6.heap.size w7.heap.size x s at_ a W) => (show W.cell? ⟨w7.heap.size, k, none⟩ = some (.int .i64 pl) ∧ (loadS (.pointer (some ⟨w6.heap.size, 0, none⟩))).run Tryd.prog W = .ok (.agg s.A) W ∧ Hid (PS w w.heap.size w6.heap.size w7.heap.size x s at_ a W) from ⟨HC.out W h, h.qs.sx.load, Lib.hid h⟩))
        have HSA := Lib.hid (fun (W : World) (o : Obj) (h : PS w w.heap.size w6.heap.size w7.heap.size x s at_ a W) => HSL.out _ (h.more ((Below.refl _ _).alloc (Nat.le_refl _) o)))
        have HSD := Lib.hid (fun (W : World) (h : PS w w.heap.size w6.heap.size w7.heap.size x s at_ a W) => HSL.out _ (h.more (Below.refl _ _).drew))
        have HSR := Lib.hid (fun (W : World) (A : Array Value) (hW : wr.heap.size ≤ W.heap.size) (h : PS w w.heap.size w6.heap.size w7.heap.size x s at_ a W) => HSL.out (W.setRow wr.heap.size A) (h.far hP.out A))
        have HS0 := Lib.hid (HSL.out _ hP.out)
        have HS1 := Lib.hid (HSD.out _ hP.out)
        have haf := run_allocF
        have hsn := fun W => run_storeFr_new W f
        have i1 : (0 : Int) ≤ k := by omega
        have i2 : (k : Int) < 2 := by omega
        clear hpl hf hee
        go_wp2_with fail
        rw [show Op.load 27 (Operand.tmp 9) = ld9 from rfl]
        have hld9 : ld9 = Op.load 27 (Operand.tmp 9) := rfl
        apply cutG
        case r =>
          intro MAIN
          go_region_held3 (fun W => W.cell? ⟨w7.heap.size, k, none⟩ = some (.int .i64 pl) ∧ (loadS (.pointer (some ⟨w6.heap.size, 0, none⟩))).run Tryd.prog W = .ok (.agg s.A) W ∧ Hid (PS w w.heap.size w6.heap.size w7.heap.size x s at_ a W)) (first | assumption | exact HS0.out | exact HS1.out | exact HSA.out _ _ hP.out | exact HSA.out _ _ HS1.out.2.2.out | exact HSA.out _ _ hSz.2.2.out | exact HSD.out _ hSz.2.2.out | exact HSR.out _ _ hZz hSz.2.2.out) ((first | (go_at_call 14; (with_reducible refine (HOP.out _ ?hs).mono ?_); (case hs => first | exact hP.out | exact HS1.out.2.2.out | exact (HSA.out _ _ hP.out).2.2.out | exact (HSA.out _ _ HS1.out.2.2.out).2.2.out); rintro e wz ⟨rfl, hbz⟩; have hSz := HSL.out _ (by first | exact hP.out.more hbz | exact HS1.out.2.2.out.more hbz | exact (HSA.out _ _ hP.out).2.2.out.more hbz | exact (HSA.out _ _ HS1.out.2.2.out).2.2.out.more hbz); have hZz : wr.heap.size ≤ wz.heap.size := (by first | exact hbz.size | exact Nat.le_trans (by simp) hbz.size); (first | (have hst2 := run_storeFr (FAt.below (z := wr.heap.size) (f := Fr.zero) (heap_alloc_new wr _) hbz (by simp)) f; have HFZ := Lib.hid (FAt.below (z := wr.heap.size) (f := Fr.zero) (heap_alloc_new wr _) hbz (by simp))) | (have hst2 := run_storeFr (FAt.below (z := wr.heap.size) (f := Fr.zero) (heap_alloc_new wr.drew _) hbz (by simp)) f; have HFZ := Lib.hid (FAt.below (z := wr.heap.size) (f := Fr.zero) (heap_alloc_new wr.drew _) hbz (by simp))) | skip); clear hbz) | fail))
          all_goals first
            | (obtain ⟨W1, hW1⟩ : ∃ W1, wz.alloc (.cells (frA f) 24 (0, 0)) = W1 := ⟨_, rfl⟩
               rw [hW1]
               have HR := Lib.hid (show RB w w.heap.size w6.heap.size w7.heap.size x s at_ a wz.heap.size f W1 from ⟨by rw [← hW1]; exact hSz.2.2.out.more ((Below.refl _ _).alloc (Nat.le_refl _) _), by unfold FAt; rw [← hW1]; exact heap_alloc_new wz _⟩)
               clear hW1
               generalize wz.heap.size = Z at HR ⊢)
            | (have HR0 := (show RB w w.heap.size w6.heap.size w7.heap.size x s at_ a wr.heap.size f (wz.setRow wr.heap.size (frA f)) from ⟨(HSR.out _ _ hZz hSz.2.2.out).2.2.out, HFZ.out.row _⟩)
               obtain ⟨W1, hW1⟩ : ∃ W1, wz.setRow wr.heap.size (frA f) = W1 := ⟨_, rfl⟩
               rw [hW1] at HR0 ⊢
               have HR := Lib.hid HR0
               clear hW1 HR0
               obtain ⟨Z, hZ⟩ : ∃ Z, wr.heap.size = Z := ⟨_, rfl⟩
               rw [hZ] at HR ⊢
               clear hZ)
          all_goals
            revert HR
            revert W1
            revert Z
            exact MAIN.out
        case m =>
          intro Z W1 HR
          clear HSL HSA HSD HSR HS0 HS1 haf hsn hld9 HOP HC
          by_cases h0 : ee = 0
          · subst h0
            obtain ⟨v1, v2, v3⟩ := seal_open pl s HEE.out
            rw [HFF.out] at v1 v2 v3
            have HSE := Lib.hid (fun (W : World) (h : RB w w.heap.size w6.heap.size w7.heap.size x s at_ a Z f W) => seal_as v2 v1 W (HE.out W h.ps.qs.below) (HW.out W h.ps.qs.below) v3)
            have HSL := Lib.hid (fun (W : World) (h : RB w w.heap.size w6.heap.size w7.heap.size x s at_ a Z f W) => (show W.cell? ⟨w7.heap.size, k, none⟩ = some (.int .i64 pl) ∧ W.cell? ⟨Z, 0, none⟩ = some (.int .i64 f.kind) ∧ W.cell? ⟨Z, 1, none⟩ = some (.int .u32 f.seq) ∧ W.cell? ⟨Z, 2, none⟩ = some (.string f.data) ∧ Hid (RB w w.heap.size w6.heap.size w7.heap.size x s at_ a Z f W) from ⟨by rw [← HPL.out]; exact h.ps.cell k hlt, h.fz.cell 0 _ rfl, h.fz.cell 1 _ rfl, h.fz.cell 2 _ rfl, Lib.hid h⟩))
            have HSA := Lib.hid (fun (W : World) (o : Obj) (h : RB w w.heap.size w6.heap.size w7.heap.size x s at_ a Z f W) => HSL.out _ (h.more ((Below.refl _ _).alloc (Nat.le_refl _) o)))
            have HSD := Lib.hid (fun (W : World) (h : RB w w.heap.size w6.heap.size w7.heap.size x s at_ a Z f W) => HSL.out _ (h.more (Below.refl _ _).drew))
            have HSR := Lib.hid (fun (W : World) (A : Array Value) (h : RB w w.heap.size w6.heap.size w7.heap.size x s at_ a Z f W) => HSL.out (W.setRow W1.heap.size A) (h.far HR.out A))
            have HS0 := Lib.hid (HSL.out _ HR.out)
            have HS1 := Lib.hid (HSD.out _ HR.out)
            have has := D.run_allocS
            have hsn := fun W => D.run_storeS_new W Sec.zero 27 s
            clear v1 v2 v3
            go_wp2_with fail
            rw [show Op.store 27 (Operand.tmp 14) (Operand.tmp 101) = st14 from rfl]
            have hst14 : st14 = Op.store 27 (Operand.tmp 14) (Operand.tmp 101) := rfl
            apply cutG
            case r =>
              intro MAIN
              go_region_held3 (fun W => W.cell? ⟨w7.heap.size, k, none⟩ = some (.int .i64 pl) ∧ W.cell? ⟨Z, 0, none⟩ = some (.int .i64 f.kind) ∧ W.cell? ⟨Z, 1, none⟩ = some (.int .u32 f.seq) ∧ W.cell? ⟨Z, 2, none⟩ = some (.string f.data) ∧ Hid (RB w w.heap.size w6.heap.size w7.heap.size x s at_ a Z f W)) (first | assumption | exact HS0.out | exact HS1.out | exact HSA.out _ _ HR.out | exact HSA.out _ _ HS1.out.2.2.2.2.out | exact HSA.out _ _ hSz.2.2.2.2.out | exact HSD.out _ hSz.2.2.2.2.out | exact HSR.out _ _ hSz.2.2.2.2.out) ((first | (go_at_call 11; (with_reducible refine (HSE.out _ ?hs).mono ?_); (case hs => first | exact HR.out | exact HS1.out.2.2.2.2.out | exact (HSA.out _ _ HR.out).2.2.2.2.out | exact (HSA.out _ _ HS1.out.2.2.2.2.out).2.2.2.2.out); rintro e wz ⟨rfl, hbz⟩; have hSz := HSL.out _ (by first | exact HR.out.more hbz | exact HS1.out.2.2.2.2.out.more hbz | exact (HSA.out _ _ HR.out).2.2.2.2.out.more hbz | exact (HSA.out _ _ HS1.out.2.2.2.2.out).2.2.2.2.out.more hbz); (first | (have hzz := Lib.hid ((hbz.block W1.heap.size (by simp)).trans (heap_alloc_new W1 _)); have hst2 := D.run_storeS_block hzz.out s) | (have hzz := Lib.hid ((hbz.block W1.heap.size (by simp)).trans (heap_alloc_new W1.drew _)); have hst2 := D.run_storeS_block hzz.out s) | skip); clear hbz) | fail))
              all_goals first
                | (obtain ⟨W2, hW2⟩ : ∃ W2, wz.alloc (.cells s.A 27 (0, 0)) = W2 := ⟨_, rfl⟩
                   rw [hW2]
                   have HX := Lib.hid (show RB w w.heap.size w6.heap.size w7.heap.size x s at_ a Z f W2 ∧ BAt W2 wz.heap.size s.l from ⟨by rw [← hW2]; exact hSz.2.2.2.2.out.more ((Below.refl _ _).alloc (Nat.le_refl _) _), by rw [← hW2]; exact BAt.new wz s⟩)
                   clear hW2
                   generalize wz.heap.size = V at HX ⊢)
                | (have HX0 := (show RB w w.heap.size w6.heap.size w7.heap.size x s at_ a Z f (wz.setRow W1.heap.size s.A) ∧ BAt (wz.setRow W1.heap.size s.A) W1.heap.size s.l from ⟨(HSR.out _ _ hSz.2.2.2.2.out).2.2.2.2.out, setRow_heap wz W1.heap.size _ s.A _ _ hzz.out⟩)
                   obtain ⟨W2, hW2⟩ : ∃ W2, wz.setRow W1.heap.size s.A = W2 := ⟨_, rfl⟩
                   rw [hW2] at HX0 ⊢
                   have HX := Lib.hid HX0
                   clear hW2 HX0
                   obtain ⟨V, hV⟩ : ∃ V, W1.heap.size = V := ⟨_, rfl⟩
                   rw [hV] at HX ⊢
                   clear hV)
              all_goals
                revert HX
                revert W2
                revert V
                exact MAIN.out
            case m =>
              intro V W2 HX
              have hl1 := HX.out.2.load
              have hl2 := HX.out.1.ps.qs.sx.load
              have hnq := D.run_neqS W2 s s
              rw [decide_eq_true rfl] at hnq
              clear HSL HSA HSD HSR HS0 HS1 has hsn hst14 HSE
              go_wp2_with fail
              go_roundw
              case rel => exact ⟨k + 1, by omega, by go_num, Lib.hid HX.out.1.ps⟩
              case measure => simp [intOf]; omega
          · go_wp2_with fail
            go_roundw
            case rel => exact ⟨k + 1, by omega, by go_num, Lib.hid HR.out.ps⟩
            case measure => simp [intOf]; omega
      · obtain rfl : k = 2 := by omega
        have HAA := Lib.hid (HA.out wr hP.out.qs.below)
        have HBW := Lib.hid hP.out.qs.below
        clear hP
        go_wp2_with fail
        refine HAA.out.mono ?_
        rintro e w9 ⟨rfl, hb9⟩
        have HB9 := Lib.hid (HBW.out.trans (hb9.mono HBW.out.size))
        clear hb9
        go_wp2_with fail
        go_ret
        exact ⟨rfl, HB9.out⟩
end Go.Proofs.YtbaibmndmcdfdaaDoor.F
