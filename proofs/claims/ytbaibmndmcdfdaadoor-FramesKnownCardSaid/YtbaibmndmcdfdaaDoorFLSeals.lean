/- The law FramesSeals; FramesPlace. -/
import Derived.Test.YtbaibmndmcdfdaaDoorFAwake
namespace Go.Proofs.YtbaibmndmcdfdaaDoor.F
open Go.RowKit
open D (Sec Kept loadS storeS allocS loadS_eq storeS_eq allocS_eq neqS neqS_eq eqlS eqlS_eq)
set_option maxRecDepth 100000
noncomputable def boxF (x : Value) : Sem Value := Instr.box 24 x
theorem boxF_eq (x : Value) : Instr.box 24 x = boxF x := rfl
theorem run_boxF (f : Fr) (w : World) : ∃ w', (boxF (.agg (frA f))).run Tryd.prog w = .ok (.pointer (some ⟨w.heap.size, 0, none⟩)) w' ∧ FAt w' w.heap.size f ∧ Below w.heap.size w w' :=
  ⟨w.alloc (.cells (frA f) 24 (0, 0)), by simp [boxF, Instr.box, newVar, newRow, Value.cells], heap_alloc_new w _, (Below.refl _ _).alloc (Nat.le_refl _) _⟩
attribute [local go_sem ↓] loadS_eq storeS_eq allocS_eq boxS_eq allocF_eq storeF_eq loadF_eq convB_eq neqS_eq eqlS_eq eqlF_eq neqF_eq boxF_eq

/-! ### the contracts with letters -/
def SealsTo (w : World) (q : Sec) (ee : Int) (e : Ending) (w' : World) : Prop := e = .returned (.tuple #[.agg q.A, .int .i64 ee]) ∧ Below w.heap.size w w'
def OpensTo (w : World) (f : Fr) (ee : Int) (e : Ending) (w' : World) : Prop := e = .returned (.tuple #[.agg (frA f), .int .i64 ee]) ∧ Below w.heap.size w w'
theorem seal_as {at_ kind : Int} {seq : Nat} {s : ByteArray} {q : Sec} {ee : Int} (hV : sealV at_ kind seq s.data.toList = q) (hE' : sealE at_ kind s.data.toList.length = ee) (w : World) (hE : Env w) (hw : 1 ≤ w.heap.size) (hq : seq < 4294967296) :
    Calls Tryd.prog 11 #[.int .i64 at_, .int .i64 kind, .int .u32 seq, .string s] w (SealsTo w q ee) := by subst hV; subst hE'; exact seal_any _ _ _ _ _ hE hw hq
theorem refSeal_as {at_ kind : Int} {seq : Nat} {s : ByteArray} {q : Sec} {ee : Int} (hV : sealV at_ kind seq s.data.toList = q) (hE' : sealE at_ kind s.data.toList.length = ee) (w : World) (hq : seq < 4294967296) :
    Calls Tryd.prog 12 #[.int .i64 at_, .int .i64 kind, .int .u32 seq, .string s] w (SealsTo w q ee) := by subst hV; subst hE'; exact refSeal_any _ _ _ _ _ hq
theorem open_as {at_ : Int} {s : Sec} {f : Fr} {ee : Int} (hV : openF at_ s = f) (hE' : openE at_ s = ee) (w : World) (hE : Env w) (hw : 1 ≤ w.heap.size) :
    Calls Tryd.prog 14 #[.int .i64 at_, .agg s.A] w (OpensTo w f ee) := by subst hV; subst hE'; exact open_any _ _ _ hE hw
theorem refOpen_as {at_ : Int} {s : Sec} {f : Fr} {ee : Int} (hV : openF at_ s = f) (hE' : openE at_ s = ee) (w : World) (hw : 1 ≤ w.heap.size) :
    Calls Tryd.prog 15 #[.int .i64 at_, .agg s.A] w (OpensTo w f ee) := by subst hV; subst hE'; exact refOpen_any _ _ _ hw
/-- What every law here leaves. -/
def TrueP (w : World) (e : Ending) (w' : World) : Prop := e = .returned (.bool true) ∧ Below w.heap.size w w'

set_option maxHeartbeats 2000000 in
theorem framesSeals_any (at_ kind : Int) (x : Fr) (w : World) (hE : Env w) (hw : 1 ≤ w.heap.size) (hq : x.seq < 4294967296) :
    Calls Tryd.prog 3 #[.int .i64 at_, .int .i64 kind, .agg (frA x)] w (TrueP w) := by
  have HE := Lib.hid (fun (W : World) (h : Below w.heap.size w W) => hE.below h hw)
  have HW := Lib.hid (fun (W : World) (h : Below w.heap.size w W) => Nat.le_trans hw h.size)
  obtain ⟨w1, hbx, hF, hb1⟩ := run_boxF x w
  have HF1 := Lib.hid hF
  have HB1 := Lib.hid hb1
  have HA := Lib.hid (fun (W : World) (h : Below w.heap.size w W) => awake_any W (HE.out W h) (HW.out W h))
  have c1 := hF.cell 1 (.int .u32 x.seq) rfl
  have c2 := hF.cell 2 (.string x.data) rfl
  clear hE hw hF hb1
  by_cases h300 : 300 < x.data.size
  · have d1 : decide ((300 : Int) < x.data.size) = true := decide_eq_true (by omega)
    have HA1 := Lib.hid (HA.out w1 HB1.out)
    clear h300
    go_enter Tryd.func3, Tryd.ntmps3
    go_wp2_with fail
    refine HA1.out.mono ?_
    rintro e w2 ⟨rfl, hb2⟩
    have HB2 := Lib.hid (HB1.out.trans (hb2.mono HB1.out.size))
    clear hb2
    go_wp2_with fail
    go_ret
    exact ⟨rfl, HB2.out⟩
  · have d1 : decide ((300 : Int) < x.data.size) = false := decide_eq_false (by omega)
    obtain ⟨q, hqV⟩ : ∃ q, sealV at_ kind x.seq x.data.data.toList = q := ⟨_, rfl⟩
    obtain ⟨ee, heE⟩ : ∃ ee, sealE at_ kind x.data.data.toList.length = ee := ⟨_, rfl⟩
    have HS1 := Lib.hid (seal_as hqV heE w1 (HE.out _ HB1.out) (HW.out _ HB1.out) hq)
    have HS2 := Lib.hid (fun W => refSeal_as hqV heE W hq)
    clear h300 hqV heE
    go_enter Tryd.func3, Tryd.ntmps3
    go_wp2_with fail
    refine HS1.out.mono ?_
    rintro e w2 ⟨rfl, hb2⟩
    obtain ⟨w3, ha, hs, hB, hb3⟩ := lay_sec w2 q
    have HB3 := Lib.hid ((HB1.out.trans (hb2.mono HB1.out.size)).trans (hb3.mono (Nat.le_trans HB1.out.size hb2.size)))
    have HF3 := Lib.hid ((HF1.out.below hb2 HF1.out.lt).below hb3 (Nat.lt_of_lt_of_le HF1.out.lt hb2.size))
    have HA3 := Lib.hid hB
    have c3 := HF3.out.cell 1 (.int .u32 x.seq) rfl
    have c4 := HF3.out.cell 2 (.string x.data) rfl
    clear hb2 hb3 hB HS1 hbx c1 c2
    go_wp2_with fail
    refine (HS2.out _).mono ?_
    rintro e w4 ⟨rfl, hb4⟩
    obtain ⟨w5, ha', hs', hB', hb5⟩ := lay_sec w4 q
    have HB5 := Lib.hid ((HB3.out.trans (hb4.mono HB3.out.size)).trans (hb5.mono (Nat.le_trans HB3.out.size hb4.size)))
    have h5 := (HA3.out.below hb4 HA3.out.lt).below hb5 (Nat.lt_of_lt_of_le HA3.out.lt hb4.size)
    have hl1 := h5.load
    have hl2 := hB'.load
    have heq := D.run_eqlS w5 q q
    rw [decide_eq_true rfl] at heq
    have HA5 := Lib.hid (HA.out w5 HB5.out)
    clear hb4 hb5 hB' h5 HS2 c3 c4
    go_wp2_with fail
    refine HA5.out.mono ?_
    rintro e w6 ⟨rfl, hb6⟩
    have HB6 := Lib.hid (HB5.out.trans (hb6.mono HB5.out.size))
    clear hb6
    go_wp2_with fail
    go_ret
    exact ⟨rfl, HB6.out⟩
end Go.Proofs.YtbaibmndmcdfdaaDoor.F
