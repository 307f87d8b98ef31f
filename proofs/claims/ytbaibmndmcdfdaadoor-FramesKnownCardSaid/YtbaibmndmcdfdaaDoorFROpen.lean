/- The reference's Open. -/
import Derived.Test.YtbaibmndmcdfdaaDoorFOpen
namespace Go.Proofs.YtbaibmndmcdfdaaDoor.F
open Go.RowKit
open D (Sec Kept loadS storeS allocS loadS_eq storeS_eq allocS_eq neqS neqS_eq eqlS eqlS_eq)
set_option maxRecDepth 100000
attribute [local go_sem ↓] loadS_eq storeS_eq allocS_eq boxS_eq allocF_eq storeF_eq loadF_eq convB_eq neqS_eq eqlS_eq
attribute [local go_sem ↓] Go.wp_at_zero Go.wp_at_succ
def ld3 : Op := Op.load 27 (Operand.tmp 3)

theorem OS.load {w : World} {b z : Nat} {s : Sec} {f : Fr} {W : World} (h : OS w b z s.l f W) : (loadS (.pointer (some ⟨b, 0, none⟩))).run Tryd.prog W = .ok (.agg s.A) W := D.run_loadS_block (w := W) (T := 27) (s := s) h.at_
theorem slice_sum (b : Nat) (W : World) : (Instr.sliceAt 27 (.pointer (some ⟨b, 0, none⟩)) none (some (.int .i64 124)) none).run Tryd.prog W = .ok (.slice (some ⟨b, 0, none⟩) 124 128) W := by
  rw [run_sliceAt_array_h W 27 ⟨b, 0, none⟩ arrSec .i64 124 (by omega) (by rw [lenSec]; omega), elemSec, lenSec]
  simp [Result.andThen, slicedAt, addr_add]
theorem slice_dat2 (b m : Nat) (hm : m ≤ 112) (W : World) : (Instr.sliceAt 27 (.pointer (some ⟨b, 0, none⟩)) (some (.int .i64 8)) (some (.int .i64 (8 + (m : Int)))) none).run Tryd.prog W = .ok (.slice (some ⟨b, 8, none⟩) m 120) W := by
  rw [run_sliceAt_array_lh W 27 ⟨b, 0, none⟩ arrSec .i64 .i64 8 (8 + (m : Int)) (by omega) (by omega) (by rw [lenSec]; omega), elemSec, lenSec]
  have e : (8 + (m : Int)).toNat = 8 + m := by omega
  simp [Result.andThen, slicedAt, e, addr_add]

theorem BAt.byte {W : World} {b : Nat} {l : List UInt8} (h : BAt W b l) (k : Nat) (hk : k < l.length) : W.cell? ⟨b, k, none⟩ = some (.int .u8 (byteAt l k : Nat)) := by
  rw [h.cell k hk]; unfold byteAt; simp [hk]
theorem OS.far {w : World} {b z : Nat} {l : List UInt8} {f : Fr} {W : World} (h : OS w b z l f W) (g : Nat) (A : Array Value) (hb : b ≠ g) (hz : z ≠ g) (hg : w.heap.size ≤ g) : OS w b z l f (W.setRow g A) := by
  have k := Kept.setRow (X := fun k => k = g) (Kept.refl _ W) g rfl A
  exact ⟨h.at_.kept k hb, h.fr.kept k hz, h.below.trans (k.toBelow h.below.size (fun k e => by omega)), h.wz⟩
theorem run_storeF_new (w : World) (k q : Nat) : (storeF (.pointer (some ⟨w.heap.size, 0, none⟩)) (.agg #[.int .i64 k, .int .u32 q, .string ⟨#[]⟩])).run Tryd.prog (w.alloc (.cells (frA Fr.zero) 24 (0, 0))) = .ok () (w.alloc (.cells (frA ⟨k, q, ⟨#[]⟩⟩) 24 (0, 0))) := by
  have h := run_storeF (f := Fr.zero) (heap_alloc_new w _) k q ⟨#[]⟩
  rw [D.setRow_alloc] at h
  exact h
theorem run_storeFk {w : World} {z : Nat} {f : Fr} (hg : FAt w z f) (k q : Nat) :
    (storeF (.pointer (some ⟨z, 0, none⟩)) (.agg #[.int .i64 k, .int .u32 q, .string ⟨#[]⟩])).run Tryd.prog w = .ok () (w.setRow z (frA ⟨k, q, ⟨#[]⟩⟩)) := run_storeF hg k q ⟨#[]⟩
/-- Beside it a frame in a block of its own. -/
structure TS (w : World) (b z Z : Nat) (l : List UInt8) (f g : Fr) (W : World) : Prop where
  os : OS w b z l f W
  fz : FAt W Z g
  hZ : w.heap.size ≤ Z
  zZ : z ≠ Z
  bZ : b ≠ Z
theorem TS.more {w : World} {b z Z : Nat} {l : List UInt8} {f g : Fr} {W W' : World} (h : TS w b z Z l f g W) (k : Below W.heap.size W W') : TS w b z Z l f g W' := ⟨h.os.more k, h.fz.below k h.fz.lt, h.hZ, h.zZ, h.bZ⟩
theorem TS.str {w : World} {b z Z : Nat} {l : List UInt8} {f g : Fr} {W : World} (h : TS w b z Z l f g W) (d : ByteArray) : TS w b z Z l f ⟨g.kind, g.seq, d⟩ (W.setCell ⟨Z, 2, none⟩ (.string d)) := by
  have k := Kept.setCell (X := fun k => k = Z) (Kept.refl _ W) ⟨Z, 2, none⟩ rfl (.string d)
  have hb := (Put.one Z 2 (.string d) W).block h.fz
  exact ⟨⟨h.os.at_.kept k h.bZ, h.os.fr.kept k h.zZ, h.os.below.trans (k.toBelow h.os.below.size (fun k e => by have := h.hZ; omega)), h.os.wz⟩, hb, h.hZ, h.zZ, h.bZ⟩
theorem TS.row {w : World} {b z Z : Nat} {l : List UInt8} {f g : Fr} {W : World} (h : TS w b z Z l f g W) (f' : Fr) : TS w b z Z l f' g (W.setRow z (frA f')) := by
  have k := Kept.setRow (X := fun k => k = z) (Kept.refl _ W) z rfl (frA f')
  exact ⟨h.os.row f', h.fz.kept k (fun e => h.zZ e.symm), h.hZ, h.zZ, h.bZ⟩
theorem refNum124 (s : Sec) (a : Nat) (h : rd s.l 124 4 = a) (W : World) : Calls Tryd.prog 34 #[.agg s.A, .int .i64 124] W fun e w' => e = .returned (.int .u32 (a : Nat)) ∧ Below W.heap.size W w' := by subst h; exact refNumbered_any s 124 W (by omega)
theorem refNum120 (s : Sec) (a : Nat) (h : rd s.l 120 4 = a) (W : World) : Calls Tryd.prog 34 #[.agg s.A, .int .i64 120] W fun e w' => e = .returned (.int .u32 (a : Nat)) ∧ Below W.heap.size W w' := by subst h; exact refNumbered_any s 120 W (by omega)
theorem refNum4 (s : Sec) (a : Nat) (h : rd s.l 4 4 = a) (W : World) : Calls Tryd.prog 34 #[.agg s.A, .int .i64 4] W fun e w' => e = .returned (.int .u32 (a : Nat)) ∧ Below W.heap.size W w' := by subst h; exact refNumbered_any s 4 W (by omega)
set_option maxHeartbeats 2000000 in
theorem refOpen_any (at_ : Int) (s : Sec) (w : World) (hw : 1 ≤ w.heap.size) :
    Calls Tryd.prog 15 #[.int .i64 at_, .agg s.A] w (OpenP at_ s w) := by
  obtain ⟨w1, w2, hbx, haf, h2⟩ := box_frame s w
  have hz := zeroC
  by_cases hp : at_ < 0 ∨ 255 < at_
  · have HEr := Lib.hid (openE_7 (s := s) hp)
    have hst := run_storeZ h2.fr
    have HD := Lib.hid (h2.row Fr.zero)
    by_cases hp0 : at_ < 0
    · have d1 : decide (at_ < 0) = true := decide_eq_true hp0
      clear h2 hp hp0
      go_enter Tryd.func15, Tryd.ntmps15
      go_wp2
      exact bodyPost_ret (bodyRet_fr2 rfl rfl rfl HD.out.fr) rfl ⟨by rw [openF_no HEr.out (by omega), HEr.out]; rfl, HD.out.below⟩
    · have d1 : decide (at_ < 0) = false := decide_eq_false hp0
      have d2 : decide ((256 : Int) ≤ at_) = true := decide_eq_true (by omega)
      clear h2 hp hp0
      go_enter Tryd.func15, Tryd.ntmps15
      go_wp2
      exact bodyPost_ret (bodyRet_fr2 rfl rfl rfl HD.out.fr) rfl ⟨by rw [openF_no HEr.out (by omega), HEr.out]; rfl, HD.out.below⟩
  have d1 : decide (at_ < 0) = false := decide_eq_false (by omega)
  have d2 : decide ((256 : Int) ≤ at_) = false := decide_eq_false (by omega)
  have hl := h2.load
  have heq := D.run_eqlS w2 s Sec.zero
  by_cases h0 : s = Sec.zero
  · have HEr := Lib.hid (openE_70 hp h0)
    have hst := run_storeZ h2.fr
    have HD := Lib.hid (h2.row Fr.zero)
    rw [decide_eq_true h0] at heq
    clear h2 hp h0
    go_enter Tryd.func15, Tryd.ntmps15
    go_wp2
    exact bodyPost_ret (bodyRet_fr2 rfl rfl rfl HD.out.fr) rfl ⟨by rw [openF_no HEr.out (by omega), HEr.out]; rfl, HD.out.below⟩
  rw [decide_eq_false h0] at heq
  have H2 := Lib.hid h2
  have HPN := Lib.hid hp
  have H0 := Lib.hid h0
  have HLEN := Lib.hid s.len
  have hs1 := slice_sum w.heap.size
  clear h2 hp h0
  have HCr := Lib.hid (fun (W : World) (h : OS w w.heap.size w1.heap.size s.l Fr.zero W) => crcRef (.slice (some ⟨w.heap.size, 0, none⟩) 124 128) (s.l.take 124) W (by have := h.at_.part 0 124 128 (by rw [HLEN.out]; omega); rwa [List.drop_zero] at this) (by rw [List.length_take]; unfold maxLen; omega))
  have HSM := Lib.hid (fun (W W' : World) (h : OS w w.heap.size w1.heap.size s.l Fr.zero W) (hb : Below W.heap.size W W') => h.more hb)
  have HSL := Lib.hid (fun (W : World) (h : OS w w.heap.size w1.heap.size s.l Fr.zero W) => (show (loadS (.pointer (some ⟨w.heap.size, 0, none⟩))).run Tryd.prog W = .ok (.agg s.A) W ∧ Hid (OS w w.heap.size w1.heap.size s.l Fr.zero W) from ⟨h.load, Lib.hid h⟩))
  have HSD := Lib.hid (fun (W : World) (h : (loadS (.pointer (some ⟨w.heap.size, 0, none⟩))).run Tryd.prog W = .ok (.agg s.A) W ∧ Hid (OS w w.heap.size w1.heap.size s.l Fr.zero W)) => HSL.out _ (h.2.out.more (Below.refl _ _).drew))
  have HS0 := Lib.hid (HSL.out _ H2.out)
  go_enter Tryd.func15, Tryd.ntmps15
  go_wp2_with fail
  rw [show Op.load 27 (Operand.tmp 3) = ld3 from rfl]
  have hld3 : ld3 = Op.load 27 (Operand.tmp 3) := rfl
  obtain ⟨a, ha⟩ : ∃ a, rd s.l 124 4 = a := ⟨_, rfl⟩
  obtain ⟨c, hc⟩ : ∃ c, crcV (s.l.take 124) = c := ⟨_, rfl⟩
  have HAA := Lib.hid ha
  have HCC := Lib.hid hc
  have HN1 := Lib.hid (refNum124 s a ha)
  rw [hc] at HCr
  clear ha hc
  go_region_held3 (fun W => (loadS (.pointer (some ⟨w.heap.size, 0, none⟩))).run Tryd.prog W = .ok (.agg s.A) W ∧ Hid (OS w w.heap.size w1.heap.size s.l Fr.zero W)) (first | assumption | exact HS0.out | exact HSD.out _ (by assumption) | exact HSD.out _ HS0.out) ((first | (go_at_call 34; (with_reducible refine (HN1.out _).mono ?_); rintro e wz ⟨rfl, hbz⟩; have hSz := HSL.out _ (HSM.out _ _ (by first | exact (HSD.out _ HS0.out).2.out | exact HS0.out.2.out) hbz); clear hbz) | (go_at_call 31; (with_reducible refine (HCr.out _ ?hs).mono ?_); (case hs => first | exact hSz.2.out | exact (HSD.out _ hSz).2.out); rintro e wy ⟨rfl, rfl⟩) | fail))
  have H3 := hSz.2
  clear hSz HS0 HSD HSL HN1 HCr hld3 hl heq hbx haf hz H2 hs1
  by_cases h1 : a = c
  rotate_left
  · have HEr := Lib.hid (openE_71 HPN.out H0.out (by rw [HAA.out, HCC.out]; exact h1))
    have hst := run_storeZ H3.out.fr
    have HD := Lib.hid (H3.out.row Fr.zero)
    go_wp2
    exact bodyPost_ret (bodyRet_fr2 rfl rfl rfl HD.out.fr) rfl ⟨by rw [openF_no HEr.out (by omega), HEr.out]; rfl, HD.out.below⟩
  subst h1
  have H1 := Lib.hid (show rd s.l 124 4 = crcV (s.l.take 124) by rw [HAA.out, HCC.out])
  obtain ⟨pl, hpl⟩ : ∃ a, rd s.l 120 4 = a := ⟨_, rfl⟩
  obtain ⟨sq, hsq⟩ : ∃ a, rd s.l 4 4 = a := ⟨_, rfl⟩
  obtain ⟨kd, hkd⟩ : ∃ a, byteAt s.l 1 = a := ⟨_, rfl⟩
  have HPL := Lib.hid hpl
  have HSQ := Lib.hid hsq
  have HKD := Lib.hid hkd
  have HN2 := Lib.hid (refNum120 s pl hpl)
  have HN3 := Lib.hid (refNum4 s sq hsq)
  have hl := H3.out.load
  have HK256 := Lib.hid (show kd < 256 by rw [← hkd]; exact byteAt_lt _ _)
  clear hpl hsq hkd
  go_wp2_with fail
  refine (HN2.out _).mono ?_
  rintro e w3 ⟨rfl, hb3⟩
  have HO := Lib.hid (H3.out.more hb3)
  clear hl hb3 HN2
  go_wp2_with fail
  rw [show Op.load 27 (Operand.tmp 3) = ld3 from rfl]
  have hld3 : ld3 = Op.load 27 (Operand.tmp 3) := rfl
  have HSL := Lib.hid (fun (W : World) (h : OS w w.heap.size w1.heap.size s.l Fr.zero W) => (show (loadS (.pointer (some ⟨w.heap.size, 0, none⟩))).run Tryd.prog W = .ok (.agg s.A) W ∧ W.cell? ⟨w.heap.size, 1, none⟩ = some (.int .u8 (kd : Nat)) ∧ Hid (OS w w.heap.size w1.heap.size s.l Fr.zero W) from ⟨h.load, by rw [← HKD.out]; exact h.at_.byte 1 (by rw [HLEN.out]; omega), Lib.hid h⟩))
  have HSA := Lib.hid (fun (W : World) (o : Obj) (h : OS w w.heap.size w1.heap.size s.l Fr.zero W) => HSL.out _ (h.more ((Below.refl _ _).alloc (Nat.le_refl _) o)))
  have HSD := Lib.hid (fun (W : World) (h : OS w w.heap.size w1.heap.size s.l Fr.zero W) => HSL.out _ (h.more (Below.refl _ _).drew))
  have HSR := Lib.hid (fun (W : World) (z : Nat) (A : Array Value) (hz : w3.heap.size ≤ z) (hW : w3.heap.size ≤ W.heap.size) (h : OS w w.heap.size w1.heap.size s.l Fr.zero W) => HSL.out (W.setRow z A) (h.far z A (by have := HO.out.at_.lt; omega) (by have := HO.out.fr.lt; omega) (by have := HO.out.below.size; omega)))
  have HS0 := Lib.hid (HSL.out _ HO.out)
  have HS1 := Lib.hid (HSD.out _ HO.out)
  have haf := run_allocF
  have hsn := run_storeF_new
  have hwr : IntKind.i64.wrap ((kd : Nat) : Int) = ((kd : Nat) : Int) := by
    have := HK256.out
    rw [IntKind.wrap_i64]; omega
  go_region_held3 (fun W => (loadS (.pointer (some ⟨w.heap.size, 0, none⟩))).run Tryd.prog W = .ok (.agg s.A) W ∧ W.cell? ⟨w.heap.size, 1, none⟩ = some (.int .u8 (kd : Nat)) ∧ Hid (OS w w.heap.size w1.heap.size s.l Fr.zero W)) (first | assumption | exact HS0.out | exact HS1.out | exact HSA.out _ _ HO.out | exact HSA.out _ _ HS1.out.2.2.out | exact HSA.out _ _ hSz.2.2.out | exact HSD.out _ hSz.2.2.out | exact HSR.out _ _ _ (Nat.le_refl _) hZz hSz.2.2.out) ((first | (go_at_call 34; (with_reducible refine (HN3.out _).mono ?_); rintro e wz ⟨rfl, hbz⟩; have hSz := HSL.out _ (by first | exact HO.out.more hbz | exact HS1.out.2.2.out.more hbz | exact (HSA.out _ _ HO.out).2.2.out.more hbz | exact (HSA.out _ _ HS1.out.2.2.out).2.2.out.more hbz); have hZz : w3.heap.size ≤ wz.heap.size := (by first | exact hbz.size | exact Nat.le_trans (by simp) hbz.size); (first | (have hst2 := run_storeFk (FAt.below (z := w3.heap.size) (f := Fr.zero) (heap_alloc_new w3 _) hbz (by simp)); have HFZ := Lib.hid (FAt.below (z := w3.heap.size) (f := Fr.zero) (heap_alloc_new w3 _) hbz (by simp))) | (have hst2 := run_storeFk (FAt.below (z := w3.heap.size) (f := Fr.zero) (heap_alloc_new w3.drew _) hbz (by simp)); have HFZ := Lib.hid (FAt.below (z := w3.heap.size) (f := Fr.zero) (heap_alloc_new w3.drew _) hbz (by simp))) | skip); clear hbz) | fail))
  all_goals first
    | (obtain ⟨W1, hW1⟩ : ∃ W1, wz.alloc (.cells (frA ⟨kd, sq, ⟨#[]⟩⟩) 24 (0, 0)) = W1 := ⟨_, rfl⟩
       rw [hW1]
       have HT := Lib.hid (show TS w w.heap.size w1.heap.size wz.heap.size s.l Fr.zero ⟨kd, sq, ⟨#[]⟩⟩ W1 from ⟨by rw [← hW1]; exact hSz.2.2.out.more ((Below.refl _ _).alloc (Nat.le_refl _) _), by unfold FAt; rw [← hW1]; exact heap_alloc_new wz _, hSz.2.2.out.below.size, by have := hSz.2.2.out.fr.lt; omega, by have := hSz.2.2.out.at_.lt; omega⟩)
       clear hW1
       generalize wz.heap.size = Z at HT ⊢)
    | (have HT0 := (show TS w w.heap.size w1.heap.size w3.heap.size s.l Fr.zero ⟨kd, sq, ⟨#[]⟩⟩ (wz.setRow w3.heap.size (frA ⟨kd, sq, ⟨#[]⟩⟩)) from ⟨(HSR.out _ _ _ (Nat.le_refl _) hZz hSz.2.2.out).2.2.out, HFZ.out.row _, HO.out.below.size, by have := HO.out.fr.lt; omega, by have := HO.out.at_.lt; omega⟩)
       obtain ⟨W1, hW1⟩ : ∃ W1, wz.setRow w3.heap.size (frA ⟨kd, sq, ⟨#[]⟩⟩) = W1 := ⟨_, rfl⟩
       rw [hW1] at HT0 ⊢
       have HT := Lib.hid HT0
       clear hW1 HT0
       obtain ⟨Z, hZ⟩ : ∃ Z, w3.heap.size = Z := ⟨_, rfl⟩
       rw [hZ] at HT ⊢
       clear hZ)
  all_goals
    clear haf hsn hwr hSz HSL HSA HSD HSR HS0 HS1 hld3
    obtain ⟨m, hm⟩ : ∃ m, byteAt s.l 2 = m := ⟨_, rfl⟩
    have HMM := Lib.hid hm
    have hcb : W1.cell? ⟨w.heap.size, 2, none⟩ = some (.int .u8 (m : Nat)) := by rw [← hm]; exact HT.out.os.at_.byte 2 (by rw [HLEN.out]; omega)
    have hm256 := Lib.hid (show m < 256 by rw [← hm]; exact byteAt_lt _ _)
    have hstz := run_storeZ HT.out.os.fr
    have HDZ1 := Lib.hid (HT.out.row Fr.zero)
    clear hm
    have hwm : IntKind.i64.wrap ((m : Nat) : Int) = ((m : Nat) : Int) := by
      have := hm256.out
      rw [IntKind.wrap_i64]; omega
    by_cases hpl : 256 ≤ pl
    · have d3 : decide ((256 : Int) ≤ (pl : Nat)) = true := decide_eq_true (by omega)
      have HEr := Lib.hid (openE_6 HPN.out H0.out H1.out (fun hf => by
        have := (sealE_zero hf.2.1).1
        rw [HPL.out] at this
        unfold badS at this; omega))
      clear hpl
      go_wp2
      exact bodyPost_ret (bodyRet_fr2 rfl rfl rfl HDZ1.out.os.fr) rfl ⟨by rw [openF_no HEr.out (by omega), HEr.out]; rfl, HDZ1.out.os.below⟩
    have d3 : decide ((256 : Int) ≤ (pl : Nat)) = false := decide_eq_false (by omega)
    by_cases hm : 112 < m
    · have d4 : decide ((112 : Int) < (m : Nat)) = true := decide_eq_true (by omega)
      have HEr := Lib.hid (openE_6 HPN.out H0.out H1.out (fun hf => by
        have := hf.1
        rw [HMM.out] at this
        omega))
      clear hm hpl
      go_wp2
      exact bodyPost_ret (bodyRet_fr2 rfl rfl rfl HDZ1.out.os.fr) rfl ⟨by rw [openF_no HEr.out (by omega), HEr.out]; rfl, HDZ1.out.os.below⟩
    have d4 : decide ((112 : Int) < (m : Nat)) = false := decide_eq_false (by omega)
    have hsl := slice_dat2 w.heap.size m (by omega)
    have hcv := run_convB HT.out.os.at_ 8 m 120 (by rw [HLEN.out]; omega)
    have hz2 := HT.out.fz.cell 2 (.string ⟨#[]⟩) rfl
    have hzf : W1.frozen? ⟨Z, 2, none⟩ = false := by unfold World.frozen?; rw [show W1.heap[Z]? = _ from HT.out.fz]; simp
    have hw8 : IntKind.i64.wrap (8 + (m : Int)) = 8 + (m : Int) := by rw [IntKind.wrap_i64]; omega
    have HPLT := Lib.hid hpl
    have HMLE := Lib.hid hm
    clear hstz HDZ1 hpl hm
    obtain ⟨f, hf⟩ : ∃ f, frOf s.l = f := ⟨_, rfl⟩
    have HF := Lib.hid hf
    have hfk : ((kd : Nat) : Int) = f.kind := by rw [← hf, ← HKD.out]; rfl
    have hfs : sq = f.seq := by rw [← hf, ← HSQ.out]; rfl
    have hfd : (⟨((s.l.drop 8).take m).toArray⟩ : ByteArray) = f.data := by rw [← hf]; unfold frOf; rw [HMM.out]
    have HT2 := Lib.hid (HT.out.str ⟨((s.l.drop 8).take m).toArray⟩)
    obtain ⟨W2, hW2⟩ : ∃ W2, W1.setCell ⟨Z, 2, none⟩ (.string ⟨((s.l.drop 8).take m).toArray⟩) = W2 := ⟨_, rfl⟩
    have HT3 : Hid (TS w w.heap.size w1.heap.size Z s.l Fr.zero f W2) := Lib.hid (by
      have := HT2.out
      rw [hW2] at this
      have e : (⟨(⟨(kd : Nat), sq, ⟨#[]⟩⟩ : Fr).kind, (⟨(kd : Nat), sq, ⟨#[]⟩⟩ : Fr).seq, ⟨((s.l.drop 8).take m).toArray⟩⟩ : Fr) = f := by
        show (⟨((kd : Nat) : Int), sq, ⟨((s.l.drop 8).take m).toArray⟩⟩ : Fr) = f
        rw [hfk, hfs, hfd]
      rwa [e] at this)
    have HW2 := Lib.hid hW2
    have hwr : IntKind.i64.wrap ((pl : Nat) : Int) = ((pl : Nat) : Int) := by
      have := HPLT.out
      rw [IntKind.wrap_i64]; omega
    have c0 := HT3.out.fz.cell 0 (.int .i64 f.kind) rfl
    have c1 := HT3.out.fz.cell 1 (.int .u32 f.seq) rfl
    have c2 := HT3.out.fz.cell 2 (.string f.data) rfl
    have HSE := Lib.hid (refSeal_any pl f.kind f.seq f.data W2 (by rw [← hfs, ← HSQ.out]; exact rd_lt s.l 4 4))
    clear hf hfk hfs hfd HT2 hW2
    go_wp2_with (rw [HW2.out])
    refine HSE.out.mono ?_
    rintro e w6 ⟨rfl, hb6⟩
    have HS6 := Lib.hid (HT3.out.more hb6)
    obtain ⟨w7, hw7⟩ : ∃ w7, w6.alloc (.cells (sealV pl f.kind f.seq f.data.data.toList).A 27 (0, 0)) = w7 := ⟨_, rfl⟩
    have has := D.run_allocS w6
    have hss := D.run_storeS_new w6 Sec.zero 27 (sealV pl f.kind f.seq f.data.data.toList)
    rw [hw7] at hss
    have h7 := HS6.out.more (W' := w7) (by rw [← hw7]; exact (Below.refl _ _).alloc (Nat.le_refl _) _)
    have hl7 := D.run_loadS_block (w := w7) (g := w6.heap.size) (T := 27) (s := sealV pl f.kind f.seq f.data.data.toList) (by rw [← hw7]; exact heap_alloc_new w6 _)
    have hl1 := D.run_loadS_block (w := w7) (g := w.heap.size) (T := 27) (s := s) h7.os.at_
    have hstz := run_storeZ h7.os.fr
    have hstf := run_storeFr h7.os.fr f
    have hldf := run_loadF h7.fz
    have HDZ := Lib.hid (h7.row Fr.zero)
    have HDF := Lib.hid (h7.row f)
    have hform : formOK s ↔ sealE pl f.kind f.data.data.toList.length = 0 ∧ sealV pl f.kind f.seq f.data.data.toList = s := by
      rw [← HF.out]
      unfold formOK
      rw [HPL.out]
      exact ⟨fun h => h.2, fun h => ⟨by rw [HMM.out]; have := HMLE.out; omega, h⟩⟩
    have HFORM := Lib.hid hform
    have hnq := D.run_neqS w7 (sealV pl f.kind f.seq f.data.data.toList) s
    clear hw7 h7 hb6 hform c0 c1 c2 hwr HW2 hsl hcv hz2 hzf hw8 hcb
    generalize sealV pl f.kind f.seq f.data.data.toList = q at *
    generalize sealE pl f.kind f.data.data.toList.length = ee at *
    by_cases h0 : ee = 0
    · subst h0
      by_cases hq : q = s
      · have hok := HFORM.out.2 ⟨rfl, hq⟩
        rw [decide_eq_true hq] at hnq
        by_cases h3 : ((pl : Nat) : Int) = at_
        · have HEr := Lib.hid (openE_0 HPN.out H0.out H1.out hok (by rw [HPL.out]; exact h3))
          have HFF := Lib.hid (show openF at_ s = f by unfold openF; rw [if_pos HEr.out, HF.out])
          have hwr : IntKind.i64.wrap ((pl : Nat) : Int) = ((pl : Nat) : Int) := by
            have := HPLT.out
            rw [IntKind.wrap_i64]; omega
          clear hq HFORM hok
          subst h3
          go_wp2
          exact bodyPost_ret (bodyRet_fr2 rfl rfl rfl HDF.out.os.fr) rfl ⟨by rw [HFF.out, HEr.out]; rfl, HDF.out.os.below⟩
        · have HEr := Lib.hid (openE_72 HPN.out H0.out H1.out hok (by rw [HPL.out]; exact h3))
          have hwr : IntKind.i64.wrap ((pl : Nat) : Int) = ((pl : Nat) : Int) := by
            have := HPLT.out
            rw [IntKind.wrap_i64]; omega
          clear hq HFORM hok
          go_wp2
          exact bodyPost_ret (bodyRet_fr2 rfl rfl rfl HDZ.out.os.fr) rfl ⟨by rw [openF_no HEr.out (by omega), HEr.out]; rfl, HDZ.out.os.below⟩
      · have HEr := Lib.hid (openE_6 HPN.out H0.out H1.out (fun h => hq (HFORM.out.1 h).2))
        rw [decide_eq_false hq] at hnq
        clear hq HFORM
        go_wp2
        exact bodyPost_ret (bodyRet_fr2 rfl rfl rfl HDZ.out.os.fr) rfl ⟨by rw [openF_no HEr.out (by omega), HEr.out]; rfl, HDZ.out.os.below⟩
    · have HEr := Lib.hid (openE_6 HPN.out H0.out H1.out (fun h => h0 (HFORM.out.1 h).1))
      clear HFORM hnq
      go_wp2
      exact bodyPost_ret (bodyRet_fr2 rfl rfl rfl HDZ.out.os.fr) rfl ⟨by rw [openF_no HEr.out (by omega), HEr.out]; rfl, HDZ.out.os.below⟩
end Go.Proofs.YtbaibmndmcdfdaaDoor.F
