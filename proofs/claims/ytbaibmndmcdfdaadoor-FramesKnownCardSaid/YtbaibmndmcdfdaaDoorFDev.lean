/- Get, Put. -/
import Derived.Test.YtbaibmndmcdfdaaDoorFLSeals
import Derived.Test.YtbaibmndmcdfdaaDoorDNew
namespace Go.Proofs.YtbaibmndmcdfdaaDoor.F
open Go.RowKit
open D (Sec Kept Dv DevAt Step loadS storeS allocS loadS_eq storeS_eq allocS_eq neqS neqS_eq eqlS eqlS_eq)
set_option maxRecDepth 100000
attribute [local go_sem ↓] loadS_eq storeS_eq allocS_eq boxS_eq allocF_eq storeF_eq loadF_eq convB_eq neqS_eq eqlS_eq eqlF_eq neqF_eq boxF_eq

def getE (at_ : Int) (q : Sec) (re : Int) : Int := if re = 0 then openE at_ q else re
def getF (at_ : Int) (q : Sec) (re : Int) : Fr := if re = 0 then openF at_ q else Fr.zero
set_option maxHeartbeats 2000000 in
/-- Get, of whatever Read returns. -/
theorem get_of (v : Value) (at_ : Int) (q : Sec) (re : Int) (w : World) (hE : Env w) (hw : 1 ≤ w.heap.size)
    (hR : ∀ w1, Below w.heap.size w w1 → Calls Tryd.prog 39 #[v, .int .i64 at_] w1 fun e w' => e = .returned (.tuple #[.agg q.A, .int .i64 re]) ∧ Below w1.heap.size w1 w') :
    Calls Tryd.prog 20 #[v, .int .i64 at_] w fun e w' => e = .returned (.tuple #[.agg (frA (getF at_ q re)), .int .i64 (getE at_ q re)]) ∧ Below w.heap.size w w' := by
  have HE := Lib.hid (fun (W : World) (h : Below w.heap.size w W) => hE.below h hw)
  have HW := Lib.hid (fun (W : World) (h : Below w.heap.size w W) => Nat.le_trans hw h.size)
  obtain ⟨w1, hw1⟩ : ∃ w1, w.alloc (.cells (frA Fr.zero) 24 (0, 0)) = w1 := ⟨_, rfl⟩
  have haf : allocF.run Tryd.prog w = .ok (.pointer (some ⟨w.heap.size, 0, none⟩)) w1 := by rw [← hw1]; exact run_allocF w
  have hF1 : FAt w1 w.heap.size Fr.zero := by unfold FAt; rw [← hw1]; exact heap_alloc_new w _
  have hb1 : Below w.heap.size w w1 := by rw [← hw1]; exact (Below.refl _ _).alloc (Nat.le_refl _) _
  have HF1 := Lib.hid hF1
  have HB1 := Lib.hid hb1
  have HR := Lib.hid (hR w1 hb1)
  clear hE hw hw1 hF1 hb1 hR
  go_enter Tryd.func20, Tryd.ntmps20
  go_wp2_with fail
  refine HR.out.mono ?_
  rintro e w2 ⟨rfl, hb2⟩
  obtain ⟨w3, ha, hst, hB, hb3⟩ := lay_sec w2 q
  have HB3 := Lib.hid ((HB1.out.trans (hb2.mono HB1.out.size)).trans (hb3.mono (Nat.le_trans HB1.out.size hb2.size)))
  have HF3 := Lib.hid ((HF1.out.below hb2 HF1.out.lt).below hb3 (Nat.lt_of_lt_of_le HF1.out.lt hb2.size))
  have hl := hB.load
  clear hb2 hb3 hB HR haf
  by_cases h0 : re = 0
  · subst h0
    have HO := Lib.hid (open_any at_ q w3 (HE.out _ HB3.out) (HW.out _ HB3.out))
    go_wp2_with fail
    refine HO.out.mono ?_
    rintro e w4 ⟨rfl, hb4⟩
    have hf4 := HF3.out.below hb4 HF3.out.lt
    have hsf := run_storeFr hf4 (openF at_ q)
    have HD := Lib.hid (hf4.row (openF at_ q))
    have HB4 := Lib.hid ((HB3.out.trans (hb4.mono HB3.out.size)).trans ((Kept.setRow (X := fun k => k = w.heap.size) (Kept.refl _ w4) w.heap.size rfl (frA (openF at_ q))).toBelow (Nat.le_trans HB3.out.size hb4.size) (fun k e => by omega)))
    clear hb4 hf4 HO
    go_wp2
    exact bodyPost_ret (bodyRet_fr2 rfl rfl rfl HD.out) rfl ⟨rfl, HB4.out⟩
  · have hsz := run_storeZ HF3.out
    have HD := Lib.hid (HF3.out.row Fr.zero)
    have HG := Lib.hid (show getF at_ q re = Fr.zero ∧ getE at_ q re = re by unfold getF getE; rw [if_neg h0, if_neg h0]; exact ⟨rfl, rfl⟩)
    have HB4 := Lib.hid (HB3.out.trans ((Kept.setRow (X := fun k => k = w.heap.size) (Kept.refl _ w3) w.heap.size rfl (frA Fr.zero)).toBelow HB3.out.size (fun k e => by omega)))
    go_wp2
    exact bodyPost_ret (bodyRet_fr2 rfl rfl rfl HD.out) rfl ⟨by rw [HG.out.1, HG.out.2]; rfl, HB4.out⟩
theorem get_any {w : World} {b : Nat} {X : Nat → Prop} {V : Dv} (h : DevAt w b X V) (at_ : Int) (hE : Env w) (hw : 1 ≤ w.heap.size) :
    Calls Tryd.prog 20 #[.pointer (some ⟨b, 0, none⟩), .int .i64 at_] w fun e w' => e = .returned (.tuple #[.agg (frA (getF at_ (D.readD V at_) (D.readE V at_))), .int .i64 (getE at_ (D.readD V at_) (D.readE V at_))]) ∧ Below w.heap.size w w' :=
  get_of _ at_ _ _ w hE hw (fun w1 hb => D.read_any (h.below hb (Nat.le_refl _)) at_)
theorem get_nil (at_ : Int) (w : World) (hE : Env w) (hw : 1 ≤ w.heap.size) :
    Calls Tryd.prog 20 #[.pointer none, .int .i64 at_] w fun e w' => e = .returned (.tuple #[.agg (frA Fr.zero), .int .i64 1]) ∧ Below w.heap.size w w' :=
  get_of _ at_ Sec.zero 1 w hE hw (fun w1 _ => D.read_none at_ (fun w2 _ => D.isMade_nil w2))

/-- Put, of whatever Write does. -/
theorem Step.after {w w1 w' : World} {b : Nat} {X : Nat → Prop} {V : Dv} (hb : Below w.heap.size w w1) (h : Step b X V w1 w') : Step b X V w w' := by
  obtain ⟨⟨X', h1, h2⟩, hk⟩ := h
  refine ⟨⟨X', h1, fun k hk => (h2 k hk).imp id (fun q => Nat.le_trans hb.size q)⟩, ?_⟩
  exact ⟨hk.os.trans hb.os, hk.tape.trans hb.tape, hk.output.trans hb.output, Nat.le_trans hb.size hk.size, fun k hk1 hx => (hk.block k (Nat.lt_of_lt_of_le hk1 hb.size) hx).trans (hb.block k hk1)⟩
def putE (V : Dv) (at_ kind : Int) (n : Nat) : Int := if sealE at_ kind n = 0 then D.writeE V at_ else sealE at_ kind n
def putD (V : Dv) (at_ kind : Int) (seq : Nat) (d : List UInt8) : Dv := if sealE at_ kind d.length = 0 then D.writeD V at_ (sealV at_ kind seq d) else V
set_option maxHeartbeats 2000000 in
theorem put_of (v : Value) (at_ kind : Int) (seq : Nat) (s : ByteArray) (w : World) (hE : Env w) (hw : 1 ≤ w.heap.size) (hq : seq < 4294967296) (we : Int) (R : World → Prop) (hR0 : ∀ w1, Below w.heap.size w w1 → sealE at_ kind s.data.toList.length ≠ 0 → R w1)
    (hR : ∀ w1, Below w.heap.size w w1 → sealE at_ kind s.data.toList.length = 0 → Calls Tryd.prog 42 #[v, .int .i64 at_, .agg (sealV at_ kind seq s.data.toList).A] w1 fun e w' => e = .returned (.int .i64 we) ∧ R w') :
    Calls Tryd.prog 23 #[v, .int .i64 at_, .int .i64 kind, .int .u32 seq, .string s] w fun e w' => e = .returned (.int .i64 (if sealE at_ kind s.data.toList.length = 0 then we else sealE at_ kind s.data.toList.length)) ∧ R w' := by
  obtain ⟨q, hqV⟩ : ∃ q, sealV at_ kind seq s.data.toList = q := ⟨_, rfl⟩
  obtain ⟨ee, heE⟩ : ∃ ee, sealE at_ kind s.data.toList.length = ee := ⟨_, rfl⟩
  have HS := Lib.hid (seal_as hqV heE w hE hw hq)
  rw [hqV, heE] at hR
  rw [heE] at hR0
  rw [heE]
  have HR := Lib.hid hR
  have HR0 := Lib.hid hR0
  clear hqV heE hR hR0 hE hw
  by_cases h0 : ee = 0
  · subst h0
    rw [if_pos rfl]
    have HRZ := Lib.hid (fun w1 hb => HR.out w1 hb rfl)
    clear HR HR0
    go_enter Tryd.func23, Tryd.ntmps23
    go_wp2_with fail
    refine HS.out.mono ?_
    rintro e w2 ⟨rfl, hb2⟩
    obtain ⟨w3, ha, hst, hB, hb3⟩ := lay_sec w2 q
    have HC := Lib.hid (HRZ.out w3 (hb2.trans (hb3.mono hb2.size)))
    have hl := hB.load
    clear hb2 hb3 hB HS
    go_wp2_with fail
    refine HC.out.mono ?_
    rintro e w4 ⟨rfl, hr⟩
    have HRR := Lib.hid hr
    clear hr
    go_wp2_with fail
    go_ret
    exact ⟨rfl, HRR.out⟩
  · rw [if_neg h0]
    go_enter Tryd.func23, Tryd.ntmps23
    go_wp2_with fail
    refine HS.out.mono ?_
    rintro e w2 ⟨rfl, hb2⟩
    obtain ⟨w3, ha, hst, hB, hb3⟩ := lay_sec w2 q
    have HRR := Lib.hid (HR0.out w3 (hb2.trans (hb3.mono hb2.size)) h0)
    clear hb2 hb3 hB HS
    go_wp2_with fail
    go_ret
    exact ⟨rfl, HRR.out⟩
theorem put_any {w : World} {b : Nat} {X : Nat → Prop} {V : Dv} (h : DevAt w b X V) (at_ kind : Int) (seq : Nat) (s : ByteArray) (hE : Env w) (hw : 1 ≤ w.heap.size) (hq : seq < 4294967296) :
    Calls Tryd.prog 23 #[.pointer (some ⟨b, 0, none⟩), .int .i64 at_, .int .i64 kind, .int .u32 seq, .string s] w fun e w' => e = .returned (.int .i64 (putE V at_ kind s.data.toList.length)) ∧ Step b X (putD V at_ kind seq s.data.toList) w w' := by
  refine (put_of _ at_ kind seq s w hE hw hq (D.writeE V at_) (fun w' => Step b X (putD V at_ kind seq s.data.toList) w w') (fun w1 hb h0 => ?_) (fun w1 hb h0 => ?_)).mono (fun e w' hq => ⟨by rw [hq.1]; rfl, hq.2⟩)
  · unfold putD; rw [if_neg h0]; exact Step.same h hb
  · refine (D.write_any (h.below hb (Nat.le_refl _)) at_ _).mono (fun e w' hq => ⟨hq.1, ?_⟩)
    unfold putD; rw [if_pos h0]; exact Step.after hb hq.2
theorem put_nil (at_ kind : Int) (seq : Nat) (s : ByteArray) (w : World) (hE : Env w) (hw : 1 ≤ w.heap.size) (hq : seq < 4294967296) :
    Calls Tryd.prog 23 #[.pointer none, .int .i64 at_, .int .i64 kind, .int .u32 seq, .string s] w fun e w' => e = .returned (.int .i64 (if sealE at_ kind s.data.toList.length = 0 then 1 else sealE at_ kind s.data.toList.length)) ∧ Below w.heap.size w w' :=
  put_of _ at_ kind seq s w hE hw hq 1 (fun w' => Below w.heap.size w w') (fun w1 hb _ => hb) (fun w1 hb _ => (D.write_none at_ _ (fun w2 _ => D.isMade_nil w2)).mono (fun e w' hq => ⟨hq.1, hb.trans (hq.2.mono hb.size)⟩))
end Go.Proofs.YtbaibmndmcdfdaaDoor.F
