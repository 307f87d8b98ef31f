/- The law FramesOpens. -/
import Derived.Test.YtbaibmndmcdfdaaDoorFOdd
namespace Go.Proofs.YtbaibmndmcdfdaaDoor.F
open Go.RowKit
open D (Sec Kept loadS storeS allocS loadS_eq storeS_eq allocS_eq neqS neqS_eq eqlS eqlS_eq ElemsAt)
set_option maxRecDepth 100000
attribute [local go_sem ↓] loadS_eq storeS_eq allocS_eq boxS_eq allocF_eq storeF_eq loadF_eq convB_eq neqS_eq eqlS_eq eqlF_eq neqF_eq boxF_eq boxO_eq loadO_eq

/-- The box of the argument at b, the sector at X, frames at their places. -/
structure QS (w : World) (b X : Nat) (x : Od) (s : Sec) (F : List (Nat × Fr)) (W : World) : Prop where
  ob : OAt W b x
  sx : BAt W X s.l
  fs : ∀ p ∈ F, FAt W p.1 p.2
  below : Below w.heap.size w W
theorem QS.more {w : World} {b X : Nat} {x : Od} {s : Sec} {F : List (Nat × Fr)} {W W' : World} (h : QS w b X x s F W) (k : Below W.heap.size W W') : QS w b X x s F W' :=
  ⟨h.ob.below k h.ob.lt, h.sx.below k h.sx.lt, fun p hp => (h.fs p hp).below k (h.fs p hp).lt, h.below.trans (k.mono h.below.size)⟩
theorem QS.fr {w : World} {b X : Nat} {x : Od} {s : Sec} {F : List (Nat × Fr)} {W W' : World} (h : QS w b X x s F W) (k : Below W.heap.size W W') {z : Nat} {f : Fr} (hz : FAt W' z f) : QS w b X x s ((z, f) :: F) W' :=
  ⟨(h.more k).ob, (h.more k).sx, fun p hp => by
    rcases List.mem_cons.1 hp with rfl | hp
    · exact hz
    · exact (h.more k).fs p hp, (h.more k).below⟩
theorem eqlF_same (f : Fr) (w : World) : (eqlF (.agg (frA f)) (.agg (frA f))).run Tryd.prog w = .ok (.bool true) w := by
  have := run_eqlF w f f
  rwa [decide_eq_true rfl] at this
theorem OdIn.below {w W : World} {x : Od} (h : OdIn w x) (k : Below w.heap.size w W) : OdIn W x := ⟨h.1, h.2.1.below k (Nat.le_refl _), h.2.2⟩

set_option maxHeartbeats 4000000 in
theorem framesOpens_any (at_ : Int) (x : Od) (w : World) (hE : Env w) (hw : 1 ≤ w.heap.size) (hx : OdIn w x) :
    Calls Tryd.prog 4 #[.int .i64 at_, .agg (odA x)] w (TrueP w) := by
  have HE := Lib.hid (fun (W : World) (h : Below w.heap.size w W) => hE.below h hw)
  have HW := Lib.hid (fun (W : World) (h : Below w.heap.size w W) => Nat.le_trans hw h.size)
  obtain ⟨w1, hbx, hO, hb1⟩ := run_boxO x w
  have HB1 := Lib.hid hb1
  have HO1 := Lib.hid hO
  have HA := Lib.hid (fun (W : World) (h : Below w.heap.size w W) => awake_any W (HE.out W h) (HW.out W h))
  have hlo := run_loadO hO
  obtain ⟨s, hs⟩ : ∃ s, oddV x = s := ⟨_, rfl⟩
  have HOD := Lib.hid (odd_any x w1 (hx.below hb1))
  rw [hs] at HOD
  obtain ⟨f1, hf1⟩ : ∃ f, openF at_ s = f := ⟨_, rfl⟩
  obtain ⟨e1, he1⟩ : ∃ e, openE at_ s = e := ⟨_, rfl⟩
  obtain ⟨f2, hf2⟩ : ∃ f, openF (x.at_.toNat : Int) s = f := ⟨_, rfl⟩
  obtain ⟨e2, he2⟩ : ∃ e, openE (x.at_.toNat : Int) s = e := ⟨_, rfl⟩
  have H1 := Lib.hid (fun (W : World) (h : Below w.heap.size w W) => open_as hf1 he1 W (HE.out W h) (HW.out W h))
  have H2 := Lib.hid (fun (W : World) (h : Below w.heap.size w W) => refOpen_as hf1 he1 W (HW.out W h))
  have H3 := Lib.hid (fun (W : World) (h : Below w.heap.size w W) => open_as hf2 he2 W (HE.out W h) (HW.out W h))
  have H4 := Lib.hid (fun (W : World) (h : Below w.heap.size w W) => refOpen_as hf2 he2 W (HW.out W h))
  have hwa := wrap64_in (x.at_.toNat : Int) (by omega) (by have := x.at_.toNat_lt; omega)
  have HC0 := Lib.hid (fun (W : World) (h : OAt W w.heap.size x) => h.cell 0 (.int .u8 x.at_.toNat) rfl)
  generalize x.at_.toNat = a at H3 H4 hwa HC0
  clear hE hw hO hb1 hs hf1 he1 hf2 he2 hx
  go_enter Tryd.func4, Tryd.ntmps4
  go_wp2_with fail
  refine HOD.out.mono ?_
  rintro e w2 ⟨rfl, hb2⟩
  obtain ⟨w3, ha, hst, hB, hb3⟩ := lay_sec w2 s
  have HQ3 := Lib.hid (show QS w w.heap.size w2.heap.size x s [] w3 from ⟨(HO1.out.below hb2 HO1.out.lt).below hb3 (Nat.lt_of_lt_of_le HO1.out.lt hb2.size), hB, (fun p hp => by cases hp), (HB1.out.trans (hb2.mono HB1.out.size)).trans (hb3.mono (Nat.le_trans HB1.out.size hb2.size))⟩)
  have hl := HQ3.out.sx.load
  have HK := Lib.hid (H1.out w3 HQ3.out.below)
  clear hb2 hb3 hB HOD hlo hbx
  go_wp2_with fail
  refine HK.out.mono ?_
  rintro e w4 ⟨rfl, hb4⟩
  obtain ⟨w5, ha5, hst5, hF5, hb5⟩ := lay_fr w4 f1
  have HQ5 := Lib.hid ((HQ3.out.more hb4).fr hb5 hF5)
  have hl5 := HQ5.out.sx.load
  have HK2 := Lib.hid (H2.out w5 HQ5.out.below)
  clear hb4 hb5 hF5 HK H1 hl ha hst
  go_wp2_with fail
  refine HK2.out.mono ?_
  rintro e w6 ⟨rfl, hb6⟩
  obtain ⟨w7, ha7, hst7, hF7, hb7⟩ := lay_fr w6 f1
  have HQ7 := Lib.hid ((HQ5.out.more hb6).fr hb7 hF7)
  have hl7 := HQ7.out.sx.load
  have c7 := HC0.out w7 HQ7.out.ob
  have HK3 := Lib.hid (H3.out w7 HQ7.out.below)
  clear hb6 hb7 hF7 HK2 H2 hl5 ha5 hst5
  go_wp2_with fail
  refine HK3.out.mono ?_
  rintro e w8 ⟨rfl, hb8⟩
  obtain ⟨w9, ha9, hst9, hF9, hb9⟩ := lay_fr w8 f2
  have HQ9 := Lib.hid ((HQ7.out.more hb8).fr hb9 hF9)
  have hl9 := HQ9.out.sx.load
  have c9 := HC0.out w9 HQ9.out.ob
  have HK4 := Lib.hid (H4.out w9 HQ9.out.below)
  clear hb8 hb9 hF9 HK3 H3 hl7 ha7 hst7 c7
  go_wp2_with fail
  refine HK4.out.mono ?_
  rintro e w10 ⟨rfl, hb10⟩
  obtain ⟨w11, ha11, hst11, hF11, hb11⟩ := lay_fr w10 f2
  have HQ11 := Lib.hid ((HQ9.out.more hb10).fr hb11 hF11)
  have g1 := run_loadF (HQ11.out.fs (w4.heap.size, f1) (by simp))
  have g2 := run_loadF (HQ11.out.fs (w6.heap.size, f1) (by simp))
  have g3 := run_loadF (HQ11.out.fs (w8.heap.size, f2) (by simp))
  have g4 := run_loadF (HQ11.out.fs (w10.heap.size, f2) (by simp))
  have q1 := eqlF_same f1 w11
  have q2 := eqlF_same f2 w11
  have HA11 := Lib.hid (HA.out w11 HQ11.out.below)
  have HB11 := Lib.hid HQ11.out.below
  clear hb10 hb11 hF11 HK4 H4 hl9 ha9 hst9 c9 hwa
  go_wp2_with fail
  refine HA11.out.mono ?_
  rintro e w12 ⟨rfl, hb12⟩
  have HB12 := Lib.hid (HB11.out.trans (hb12.mono HB11.out.size))
  clear hb12
  go_wp2_with fail
  go_ret
  exact ⟨rfl, HB12.out⟩
end Go.Proofs.YtbaibmndmcdfdaaDoor.F
