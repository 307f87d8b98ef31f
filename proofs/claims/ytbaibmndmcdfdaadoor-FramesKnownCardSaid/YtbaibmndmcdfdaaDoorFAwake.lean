/- Comparisons of frames; the law's awake. -/
import Derived.Test.YtbaibmndmcdfdaaDoorFROpen
import Derived.Laws.StructEq
namespace Go.Proofs.YtbaibmndmcdfdaaDoor.F
open Go.RowKit
open D (Sec Kept loadS storeS allocS loadS_eq storeS_eq allocS_eq neqS neqS_eq eqlS eqlS_eq)
set_option maxRecDepth 100000

theorem bytes_ext {a b : ByteArray} (h : a.toList = b.toList) : a = b := by
  rw [ByteArray.toList_eq, ByteArray.toList_eq] at h
  cases a; cases b
  exact congrArg _ (Array.ext' h)
noncomputable def eqlF (x y : Value) : Sem Value := binOp .eql 24 x y
theorem eqlF_eq (x y : Value) : binOp .eql 24 x y = eqlF x y := rfl
noncomputable def neqF (x y : Value) : Sem Value := binOp .neq 24 x y
theorem neqF_eq (x y : Value) : binOp .neq 24 x y = neqF x y := rfl
theorem run_eqlF (w : World) (f g : Fr) : (eqlF (.agg (frA f)) (.agg (frA g))).run Tryd.prog w = .ok (.bool (decide (f = g))) w := by
  obtain ⟨a, b, c⟩ := f
  obtain ⟨a', b', c'⟩ := g
  show (binOp .eql 24 (.agg #[.int .i64 a, .int .u32 b, .string c]) (.agg #[.int .i64 a', .int .u32 b', .string c'])).run Tryd.prog w = _
  go_simp
  by_cases h1 : a = a'
  · by_cases h2 : b = b'
    · by_cases h3 : c.toList = c'.toList
      · have := bytes_ext h3
        subst h1; subst h2; subst this; simp
      · have h4 : c ≠ c' := fun e => h3 (by rw [e])
        subst h1; subst h2; simp [h3, h4]
    · have h5 : ¬ ((b : Int) = b') := by omega
      subst h1; simp [h2, h5]
  · simp [h1]
theorem run_neqF (w : World) (f g : Fr) : (neqF (.agg (frA f)) (.agg (frA g))).run Tryd.prog w = .ok (.bool (!decide (f = g))) w := by
  have h := run_eqlF w f g
  unfold eqlF at h
  unfold neqF
  rw [run_eql_struct] at h
  rw [run_neq_struct]
  cases hr : (Op.equalIn 10000 24 (.agg (frA f)) (.agg (frA g))).run Tryd.prog w with
  | ok b w' =>
    rw [hr] at h
    simp only [Result.andThen, Result.ok.injEq, Value.bool.injEq] at h ⊢
    obtain ⟨rfl, rfl⟩ := h
    exact ⟨rfl, rfl⟩
  | halt x w' => rw [hr] at h; simp [Result.andThen] at h
attribute [local go_sem ↓] loadS_eq storeS_eq allocS_eq boxS_eq allocF_eq storeF_eq loadF_eq convB_eq neqS_eq eqlS_eq eqlF_eq neqF_eq

/-- A sector laid into a new block. -/
theorem lay_sec (w : World) (s : Sec) : ∃ w', allocS.run Tryd.prog w = .ok (.pointer (some ⟨w.heap.size, 0, none⟩)) (w.alloc (.cells Sec.zero.A 27 (0, 0))) ∧ (storeS (.pointer (some ⟨w.heap.size, 0, none⟩)) (.agg s.A)).run Tryd.prog (w.alloc (.cells Sec.zero.A 27 (0, 0))) = .ok () w' ∧ BAt w' w.heap.size s.l ∧ Below w.heap.size w w' :=
  ⟨_, D.run_allocS w, D.run_storeS_new w Sec.zero 27 s, BAt.new w s, (Below.refl _ _).alloc (Nat.le_refl _) _⟩
theorem lay_fr (w : World) (f : Fr) : ∃ w', allocF.run Tryd.prog w = .ok (.pointer (some ⟨w.heap.size, 0, none⟩)) (w.alloc (.cells (frA Fr.zero) 24 (0, 0))) ∧ (storeF (.pointer (some ⟨w.heap.size, 0, none⟩)) (.agg (frA f))).run Tryd.prog (w.alloc (.cells (frA Fr.zero) 24 (0, 0))) = .ok () w' ∧ FAt w' w.heap.size f ∧ Below w.heap.size w w' := by
  refine ⟨w.alloc (.cells (frA f) 24 (0, 0)), run_allocF w, ?_, heap_alloc_new w _, (Below.refl _ _).alloc (Nat.le_refl _) _⟩
  have := run_storeFr (w := w.alloc (.cells (frA Fr.zero) 24 (0, 0))) (z := w.heap.size) (f := Fr.zero) (heap_alloc_new w _) f
  rw [D.setRow_alloc] at this
  exact this
theorem BAt.load {W : World} {b : Nat} {s : Sec} (h : BAt W b s.l) : (loadS (.pointer (some ⟨b, 0, none⟩))).run Tryd.prog W = .ok (.agg s.A) W := D.run_loadS_block (w := W) (T := 27) (s := s) h

/-- The frame of the examples. -/
def exF : Fr := ⟨2, 258, ⟨#[97, 98]⟩⟩
def exS : Sec := sealV 3 2 258 [97, 98]
theorem ex_seal : sealE 3 2 2 = 0 := by decide
theorem ex_open : openE 3 exS = 0 ∧ openF 3 exS = exF ∧ openE 4 exS = 72 ∧ openF 4 exS = Fr.zero := by
  have h3 := open_seal 3 exF 3 (by decide) (by decide) (by decide)
  have h4 := open_seal 3 exF 4 (by decide) (by decide) (by decide)
  exact ⟨by have := h3.1; rw [if_pos rfl] at this; exact this, h3.2.1 rfl, by have := h4.1; rw [if_neg (by decide)] at this; exact this, h4.2.2 (by decide)⟩
theorem ex_zero : openE 3 Sec.zero = 70 ∧ openF 3 Sec.zero = Fr.zero := ⟨openE_70 (by omega) rfl, openF_no (openE_70 (by omega) rfl) (by omega)⟩
theorem ex_l : exS.l = bodyL 3 2 258 [97, 98] ++ le4 (crcV (bodyL 3 2 258 [97, 98])) := by
  unfold exS; rw [sealV_l (by decide)]; exact row7_eq 3 2 258 [97, 98] (by decide)
theorem ex_12 : (exS.l.drop 0).take 12 = [76, 2, 2, 0, 2, 1, 0, 0, 97, 98, 0, 0] := by
  rw [ex_l, List.drop_zero, List.take_append_of_le_length (by rw [bodyL_len _ _ _ _ (by decide)]; omega)]; decide
theorem ex_120 : byteAt exS.l 120 = 3 ∧ byteAt exS.l 121 = 0 := by
  unfold byteAt
  rw [ex_l, List.getD_eq_getElem?_getD, List.getD_eq_getElem?_getD, List.getElem?_append_left (by rw [bodyL_len _ _ _ _ (by decide)]; omega), List.getElem?_append_left (by rw [bodyL_len _ _ _ _ (by decide)]; omega)]; decide
theorem slice_12 (b : Nat) (W : World) : (Instr.sliceAt 27 (.pointer (some ⟨b, 0, none⟩)) none (some (.int .i64 12)) none).run Tryd.prog W = .ok (.slice (some ⟨b, 0, none⟩) 12 128) W := by
  rw [run_sliceAt_array_h W 27 ⟨b, 0, none⟩ arrSec .i64 12 (by omega) (by rw [lenSec]; omega), elemSec, lenSec]
  simp [Result.andThen, slicedAt, addr_add]

theorem ex_sealP (w : World) (hE : Env w) (hw : 1 ≤ w.heap.size) : Calls Tryd.prog 11 #[.int .i64 3, .int .i64 2, .int .u32 258, .string ⟨#[97, 98]⟩] w fun e w' => e = .returned (.tuple #[.agg exS.A, .int .i64 0]) ∧ Below w.heap.size w w' :=
  (seal_any 3 2 258 ⟨#[97, 98]⟩ w hE hw (by decide)).mono fun _ _ h => ⟨by rw [h.1]; rfl, h.2⟩
theorem ex_open3 (w : World) (hE : Env w) (hw : 1 ≤ w.heap.size) : Calls Tryd.prog 14 #[.int .i64 3, .agg exS.A] w fun e w' => e = .returned (.tuple #[.agg (frA exF), .int .i64 0]) ∧ Below w.heap.size w w' :=
  (open_any 3 exS w hE hw).mono fun _ _ h => ⟨by rw [h.1, ex_open.1, ex_open.2.1], h.2⟩
theorem ex_open4 (w : World) (hE : Env w) (hw : 1 ≤ w.heap.size) : Calls Tryd.prog 14 #[.int .i64 4, .agg exS.A] w fun e w' => e = .returned (.tuple #[.agg (frA Fr.zero), .int .i64 72]) ∧ Below w.heap.size w w' :=
  (open_any 4 exS w hE hw).mono fun _ _ h => ⟨by rw [h.1, ex_open.2.2.1, ex_open.2.2.2], h.2⟩
theorem ex_open0 (w : World) (hE : Env w) (hw : 1 ≤ w.heap.size) : Calls Tryd.prog 14 #[.int .i64 3, .agg Sec.zero.A] w fun e w' => e = .returned (.tuple #[.agg (frA Fr.zero), .int .i64 70]) ∧ Below w.heap.size w w' :=
  (open_any 3 Sec.zero w hE hw).mono fun _ _ h => ⟨by rw [h.1, ex_zero.1, ex_zero.2], h.2⟩

set_option maxHeartbeats 2000000 in
theorem awake_any (w : World) (hE : Env w) (hw : 1 ≤ w.heap.size) :
    Calls Tryd.prog 10 #[] w fun e w' => e = .returned (.bool true) ∧ Below w.heap.size w w' := by
  have HE := Lib.hid (fun (W : World) (h : Below w.heap.size w W) => hE.below h hw)
  have HW := Lib.hid (fun (W : World) (h : Below w.heap.size w W) => Nat.le_trans hw h.size)
  have H1 := Lib.hid (ex_sealP w hE hw)
  have hz := zeroC
  clear hE hw
  go_enter Tryd.func10, Tryd.ntmps10
  go_wp2_with fail
  refine H1.out.mono ?_
  rintro e w1 ⟨rfl, hb1⟩
  obtain ⟨w2, ha, hs, hB, hb2⟩ := lay_sec w1 exS
  have HB2 := Lib.hid (hb1.trans (hb2.mono hb1.size))
  have HA2 := Lib.hid hB
  have hl := hB.load
  have H2 := Lib.hid (ex_open3 w2 (HE.out _ HB2.out) (HW.out _ HB2.out))
  clear hb1 hb2 hB
  go_wp2_with fail
  refine H2.out.mono ?_
  rintro e w3 ⟨rfl, hb3⟩
  obtain ⟨w4, ha, hs, hF, hb4⟩ := lay_fr w3 exF
  have HB4 := Lib.hid ((HB2.out.trans (hb3.mono HB2.out.size)).trans (hb4.mono (Nat.le_trans HB2.out.size hb3.size)))
  have HA4 := Lib.hid ((HA2.out.below hb3 HA2.out.lt).below hb4 (Nat.lt_of_lt_of_le HA2.out.lt hb3.size))
  have HF4 := Lib.hid hF
  have hl := HA4.out.load
  have H3 := Lib.hid (ex_open4 w4 (HE.out _ HB4.out) (HW.out _ HB4.out))
  clear hb3 hb4 hF H1 H2
  go_wp2_with fail
  refine H3.out.mono ?_
  rintro e w5 ⟨rfl, hb5⟩
  obtain ⟨w6, ha, hs, -, hb6⟩ := lay_fr w5 Fr.zero
  have HB6 := Lib.hid ((HB4.out.trans (hb5.mono HB4.out.size)).trans (hb6.mono (Nat.le_trans HB4.out.size hb5.size)))
  have HA6 := Lib.hid ((HA4.out.below hb5 HA4.out.lt).below hb6 (Nat.lt_of_lt_of_le HA4.out.lt hb5.size))
  have HF6 := Lib.hid ((HF4.out.below hb5 HF4.out.lt).below hb6 (Nat.lt_of_lt_of_le HF4.out.lt hb5.size))
  have H4 := Lib.hid (ex_open0 w6 (HE.out _ HB6.out) (HW.out _ HB6.out))
  clear hb5 hb6 H3
  go_wp2_with fail
  refine H4.out.mono ?_
  rintro e w7 ⟨rfl, hb7⟩
  obtain ⟨w8, ha, hs, -, hb8⟩ := lay_fr w7 Fr.zero
  have HB8 := Lib.hid ((HB6.out.trans (hb7.mono HB6.out.size)).trans (hb8.mono (Nat.le_trans HB6.out.size hb7.size)))
  have HA8 := Lib.hid ((HA6.out.below hb7 HA6.out.lt).below hb8 (Nat.lt_of_lt_of_le HA6.out.lt hb7.size))
  have HF8 := Lib.hid ((HF6.out.below hb7 HF6.out.lt).below hb8 (Nat.lt_of_lt_of_le HF6.out.lt hb7.size))
  have hlf := run_loadF HF8.out
  have heq : (eqlF (.agg (frA exF)) (.agg #[.int .i64 2, .int .u32 258, .string ⟨#[97, 98]⟩])).run Tryd.prog w8 = .ok (.bool true) w8 := by
    have := run_eqlF w8 exF exF
    rw [decide_eq_true rfl] at this
    exact this
  have hsl := slice_12 w1.heap.size
  have hcv := run_convB HA8.out 0 12 128 (by rw [exS.len]; omega)
  rw [ex_12] at hcv
  have c0 := HA8.out.byte 120 (by rw [exS.len]; omega)
  have c1 := HA8.out.byte 121 (by rw [exS.len]; omega)
  rw [ex_120.1] at c0
  rw [ex_120.2] at c1
  clear hb7 hb8 H4
  go_wp2
  go_ret
  exact ⟨rfl, HB8.out⟩
end Go.Proofs.YtbaibmndmcdfdaaDoor.F
