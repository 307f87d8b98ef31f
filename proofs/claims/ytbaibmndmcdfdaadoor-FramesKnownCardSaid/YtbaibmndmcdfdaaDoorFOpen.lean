/- Open. -/
import Derived.Test.YtbaibmndmcdfdaaDoorFFrame
namespace Go.Proofs.YtbaibmndmcdfdaaDoor.F
open Go.RowKit
open D (Sec Kept loadS storeS allocS loadS_eq storeS_eq allocS_eq neqS neqS_eq eqlS eqlS_eq)
set_option maxRecDepth 100000
attribute [local go_sem ↓] loadS_eq storeS_eq allocS_eq boxS_eq allocF_eq storeF_eq loadF_eq convB_eq neqS_eq eqlS_eq

structure OS (w : World) (b z : Nat) (l : List UInt8) (f : Fr) (W : World) : Prop where
  at_ : BAt W b l
  fr : FAt W z f
  below : Below w.heap.size w W
  wz : w.heap.size ≤ z
theorem OS.more {w : World} {b z : Nat} {l : List UInt8} {f : Fr} {W W' : World} (h : OS w b z l f W) (k : Below W.heap.size W W') : OS w b z l f W' :=
  ⟨h.at_.below k h.at_.lt, h.fr.below k h.fr.lt, h.below.trans (k.mono h.below.size), h.wz⟩
theorem OS.row {w : World} {b z : Nat} {l : List UInt8} {f : Fr} {W : World} (h : OS w b z l f W) (f' : Fr) : OS w b z l f' (W.setRow z (frA f')) := by
  have k := Kept.setRow (X := fun k => k = z) (Kept.refl _ W) z rfl (frA f')
  exact ⟨h.at_.kept k (h.fr.ne_b h.at_), h.fr.row f', h.below.trans (k.toBelow h.below.size (fun k e => by have := h.wz; omega)), h.wz⟩
/-- A sector in a box, and a frame. -/
theorem box_frame (s : Sec) (w : World) : ∃ w1 w2, (boxS (.agg s.A)).run Tryd.prog w = .ok (.pointer (some ⟨w.heap.size, 0, none⟩)) w1 ∧ allocF.run Tryd.prog w1 = .ok (.pointer (some ⟨w1.heap.size, 0, none⟩)) w2 ∧ OS w w.heap.size w1.heap.size s.l Fr.zero w2 := by
  refine ⟨_, _, run_boxS s w, run_allocF _, ?_⟩
  have hb2 : Below (w.alloc (.cells s.A 27 (0, 0))).heap.size (w.alloc (.cells s.A 27 (0, 0))) ((w.alloc (.cells s.A 27 (0, 0))).alloc (.cells (frA Fr.zero) 24 (0, 0))) := (Below.refl _ _).alloc (Nat.le_refl _) _
  have hB1 := BAt.new w s
  exact ⟨hB1.below hb2 hB1.lt, heap_alloc_new _ _, ((Below.refl w.heap.size w).alloc (Nat.le_refl _) _).trans (hb2.mono (by simp)), by simp⟩
def OpenP (at_ : Int) (s : Sec) (w : World) (e : Ending) (w' : World) : Prop := e = .returned (.tuple #[.agg (frA (openF at_ s)), .int .i64 (openE at_ s)]) ∧ Below w.heap.size w w'
theorem openF_no {at_ : Int} {s : Sec} {q : Int} (h : openE at_ s = q) (hq : q ≠ 0) : openF at_ s = Fr.zero := by unfold openF; rw [if_neg (by rw [h]; exact hq)]
theorem openE_7 {at_ : Int} {s : Sec} (h : at_ < 0 ∨ 255 < at_) : openE at_ s = 7 := by unfold openE; rw [if_pos h]
theorem openE_70 {at_ : Int} {s : Sec} (h : ¬ (at_ < 0 ∨ 255 < at_)) (h0 : s = Sec.zero) : openE at_ s = 70 := by unfold openE; rw [if_neg h, if_pos h0]
theorem openE_71 {at_ : Int} {s : Sec} (h : ¬ (at_ < 0 ∨ 255 < at_)) (h0 : ¬ s = Sec.zero) (h1 : rd s.l 124 4 ≠ crcV (s.l.take 124)) : openE at_ s = 71 := by unfold openE; rw [if_neg h, if_neg h0, if_pos h1]
theorem openE_6 {at_ : Int} {s : Sec} (h : ¬ (at_ < 0 ∨ 255 < at_)) (h0 : ¬ s = Sec.zero) (h1 : rd s.l 124 4 = crcV (s.l.take 124)) (h2 : ¬ formOK s) : openE at_ s = 6 := by unfold openE; rw [if_neg h, if_neg h0, if_neg (fun e => e h1), if_pos h2]
theorem openE_72 {at_ : Int} {s : Sec} (h : ¬ (at_ < 0 ∨ 255 < at_)) (h0 : ¬ s = Sec.zero) (h1 : rd s.l 124 4 = crcV (s.l.take 124)) (h2 : formOK s) (h3 : (rd s.l 120 4 : Int) ≠ at_) : openE at_ s = 72 := by unfold openE; rw [if_neg h, if_neg h0, if_neg (fun e => e h1), if_neg (fun e => e h2), if_pos h3]
theorem openE_0 {at_ : Int} {s : Sec} (h : ¬ (at_ < 0 ∨ 255 < at_)) (h0 : ¬ s = Sec.zero) (h1 : rd s.l 124 4 = crcV (s.l.take 124)) (h2 : formOK s) (h3 : (rd s.l 120 4 : Int) = at_) : openE at_ s = 0 := by unfold openE; rw [if_neg h, if_neg h0, if_neg (fun e => e h1), if_neg (fun e => e h2), if_neg (fun e => e h3)]

theorem fld5 (p0 p1 p2 p3 p4 p5 : Nat) (w : World) : (Instr.field 72 (.agg (numsA p0 p1 p2 p3 p4 p5)) 5).run Tryd.prog w = .ok (.agg #[wrF p5, rdF p5]) w := by kernel_rfl
theorem fld1 (p : Nat) (w : World) : (Instr.field 70 (.agg #[wrF p, rdF p]) 1).run Tryd.prog w = .ok (.func (.func 56) #[] #[.pointer (some ⟨p, 0, none⟩)]) w := by kernel_rfl
set_option maxHeartbeats 2000000 in
theorem open_any (at_ : Int) (s : Sec) (w : World) (hE : Env w) (hw : 1 ≤ w.heap.size) :
    Calls Tryd.prog 14 #[.int .i64 at_, .agg s.A] w (OpenP at_ s w) := by
  obtain ⟨w1, w2, hbx, haf, h2⟩ := box_frame s w
  have hz := zeroC
  by_cases hp : at_ < 0 ∨ 255 < at_
  · have HEr := Lib.hid (openE_7 (s := s) hp)
    have HP := Lib.hid (isPlace_no at_ w2 hp)
    have hst := run_storeZ h2.fr
    have HD := Lib.hid (h2.row Fr.zero)
    clear h2 hp
    go_enter Tryd.func14, Tryd.ntmps14
    go_wp2_with fail
    refine HP.out.mono ?_
    rintro e w3 ⟨rfl, rfl⟩
    go_wp2
    exact bodyPost_ret (bodyRet_fr2 rfl rfl rfl HD.out.fr) rfl ⟨by rw [openF_no HEr.out (by omega), HEr.out]; rfl, HD.out.below⟩
  have HP := Lib.hid (isPlace_yes at_ w2 (by omega) (by omega))
  have hl := D.run_loadS_block (w := w2) (T := 27) (s := s) h2.at_
  have heq := D.run_eqlS w2 s Sec.zero
  by_cases h0 : s = Sec.zero
  · have HEr := Lib.hid (openE_70 hp h0)
    have hst := run_storeZ h2.fr
    have HD := Lib.hid (h2.row Fr.zero)
    rw [decide_eq_true h0] at heq
    clear h2 hp h0
    go_enter Tryd.func14, Tryd.ntmps14
    go_wp2_with fail
    refine HP.out.mono ?_
    rintro e w3 ⟨rfl, rfl⟩
    go_wp2
    exact bodyPost_ret (bodyRet_fr2 rfl rfl rfl HD.out.fr) rfl ⟨by rw [openF_no HEr.out (by omega), HEr.out]; rfl, HD.out.below⟩
  rw [decide_eq_false h0] at heq
  have HN := Lib.hid (numbersOf_any w.heap.size w2)
  have H2 := Lib.hid h2
  have HPN := Lib.hid hp
  have H0 := Lib.hid h0
  have HLEN := Lib.hid s.len
  clear h2 hp h0
  go_enter Tryd.func14, Tryd.ntmps14
  go_wp2_with fail
  refine HP.out.mono ?_
  rintro e w3 ⟨rfl, rfl⟩
  go_wp2_with fail
  refine HN.out.mono ?_
  rintro e w3 ⟨p0, p1, p2, p3, p4, p5, rfl, hn, hb3⟩
  have H3 := Lib.hid (H2.out.more hb3)
  have HR := Lib.hid (read_any w.heap.size 124 4 4 s.l p5 w3 (by omega) H3.out.at_ (by rw [HLEN.out]; omega) hn.s5)
  have HSm := Lib.hid (sumOf_any w.heap.size s.l w3 (hE.below H3.out.below hw) H3.out.at_ HLEN.out)
  clear hn hb3 hl heq hbx haf hz
  have hf5 := fld5 p0 p1 p2 p3 p4 p5
  have hf1 := fld1 p5
  go_wp2_with fail
  refine HR.out.mono ?_
  rintro e w4 ⟨rfl, rfl⟩
  go_wp2_with fail
  refine HSm.out.mono ?_
  rintro e w4 ⟨rfl, hb4⟩
  have H4 := Lib.hid (H3.out.more hb4)
  obtain ⟨a, ha⟩ : ∃ a, rd s.l 124 4 = a := ⟨_, rfl⟩
  obtain ⟨c, hc⟩ : ∃ c, crcV (s.l.take 124) = c := ⟨_, rfl⟩
  have HAA := Lib.hid ha
  have HCC := Lib.hid hc
  simp only [ha, hc]
  clear ha hc hb4 HR HSm
  by_cases h1 : a = c
  · subst h1
    have H1 := Lib.hid (show rd s.l 124 4 = crcV (s.l.take 124) by rw [HAA.out, HCC.out])
    have hl := D.run_loadS_block (w := w4) (T := 27) (s := s) H4.out.at_
    have HFO := Lib.hid (frameOf_any s w4 (hE.below H4.out.below hw) (Nat.le_trans hw H4.out.below.size))
    go_wp2_with fail
    refine HFO.out.mono ?_
    rintro e w5 ⟨rfl, hb5⟩
    have H5 := Lib.hid (H4.out.more hb5)
    obtain ⟨w6, hw6⟩ : ∃ w6, w5.alloc (.cells (frA (foF s)) 24 (0, 0)) = w6 := ⟨_, rfl⟩
    have h6 := H5.out.more (W' := w6) (by rw [← hw6]; exact (Below.refl _ _).alloc (Nat.le_refl _) _)
    have haf := run_allocF w5
    have hsf : (storeF (.pointer (some ⟨w5.heap.size, 0, none⟩)) (.agg (frA (foF s)))).run Tryd.prog (w5.alloc (.cells (frA Fr.zero) 24 (0, 0))) = .ok () w6 := by
      have := run_storeFr (w := w5.alloc (.cells (frA Fr.zero) 24 (0, 0))) (z := w5.heap.size) (f := Fr.zero) (heap_alloc_new w5 _) (foF s)
      rw [D.setRow_alloc, hw6] at this
      exact this
    have hlf := run_loadF (w := w6) (z := w5.heap.size) (f := foF s) (by unfold FAt; rw [← hw6]; exact heap_alloc_new w5 _)
    have hst := run_storeZ h6.fr
    have hsf2 := run_storeFr h6.fr (foF s)
    have HDZ := Lib.hid (h6.row Fr.zero)
    have HDF := Lib.hid (h6.row (foF s))
    clear hb5 hw6 h6 hl
    by_cases h2 : formOK s
    · obtain ⟨f1, f2, f3⟩ := fo_ok h2
      rw [f1, f3]
      by_cases h3 : (rd s.l 120 4 : Int) = at_
      · have HEr := Lib.hid (openE_0 HPN.out H0.out H1.out h2 h3)
        have HF := Lib.hid (show openF at_ s = foF s by unfold openF; rw [if_pos HEr.out, f2])
        clear h2 f1 f2 f3
        go_wp2
        exact bodyPost_ret (bodyRet_fr2 rfl rfl rfl HDF.out.fr) rfl ⟨by rw [HF.out, HEr.out]; rfl, HDF.out.below⟩
      · have HEr := Lib.hid (openE_72 HPN.out H0.out H1.out h2 h3)
        clear h2 f1 f2 f3
        go_wp2
        exact bodyPost_ret (bodyRet_fr2 rfl rfl rfl HDZ.out.fr) rfl ⟨by rw [openF_no HEr.out (by omega), HEr.out]; rfl, HDZ.out.below⟩
    · obtain ⟨f1, f2, f3⟩ := fo_no h2
      rw [f1, f3]
      have HEr := Lib.hid (openE_6 HPN.out H0.out H1.out h2)
      clear h2 f1 f2 f3
      go_wp2
      exact bodyPost_ret (bodyRet_fr2 rfl rfl rfl HDZ.out.fr) rfl ⟨by rw [openF_no HEr.out (by omega), HEr.out]; rfl, HDZ.out.below⟩
  · have HEr := Lib.hid (openE_71 HPN.out H0.out (by rw [HAA.out, HCC.out]; exact h1))
    have hst := run_storeZ H4.out.fr
    have HD := Lib.hid (H4.out.row Fr.zero)
    go_wp2
    exact bodyPost_ret (bodyRet_fr2 rfl rfl rfl HD.out.fr) rfl ⟨by rw [openF_no HEr.out (by omega), HEr.out]; rfl, HD.out.below⟩
end Go.Proofs.YtbaibmndmcdfdaaDoor.F
