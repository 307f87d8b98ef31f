/- The law FramesKnown. -/
import Derived.Test.YtbaibmndmcdfdaaDoorFDev
import Derived.Laws.MakeOwn
namespace Go.Proofs.YtbaibmndmcdfdaaDoor.F
open Go.RowKit
open D (Sec Kept Dv DevAt Step loadS storeS allocS loadS_eq storeS_eq allocS_eq neqS neqS_eq eqlS eqlS_eq)
set_option maxRecDepth 100000
attribute [local go_sem ↓] loadS_eq storeS_eq allocS_eq boxS_eq allocF_eq storeF_eq loadF_eq convB_eq neqS_eq eqlS_eq eqlF_eq neqF_eq boxF_eq

theorem infoByte : (Tryd.prog.info? 5).map (fun i => (i.zero, i.size, i.bytes)) = some (some (.int .u8 0), 1, 1) := by kernel_rfl
theorem make113 (W : World) : ∃ W', (Instr.makeSlice 65 (.int .i64 113) (.int .i64 113)).run Tryd.prog W = .ok (.slice (some ⟨W.heap.size, 0, none⟩) 113 113) W' ∧ BytesAt W' (.slice (some ⟨W.heap.size, 0, none⟩) 113 113) (List.replicate 113 0) ∧ Below W.heap.size W W' := by
  obtain ⟨i0, hi, hz0, hz1, hz2⟩ := info_parts infoByte
  have h := run_make (P := Tryd.prog) (w := W) 65 5 i0 (.int .u8 0) Tryd.underlying65 hi hz0 .i64 .i64 113 113 (by omega) (by omega) (by rw [hz2]; omega) (by omega)
  have e : madeCells (Value.int .u8 0).cells 113 = (Lib.byteCells (List.replicate 113 0)).toArray := by
    apply Array.ext'
    show (madeCells #[.int .u8 0] 113).toList = _
    rw [toList_madeCells_one]
    simp [Lib.byteCells]
  refine ⟨_, h, ?_, (Below.refl _ _).alloc (Nat.le_refl _) _⟩
  rw [hz1]
  refine .inr ⟨W.heap.size, 0, 113, by simp, by simp, fun k hk => ?_⟩
  show World.cell? (W.alloc (.cells (madeCells (Value.int .u8 0).cells (Int.toNat 113 * 1)) 5)) _ = _
  rw [show Int.toNat 113 * 1 = 113 from rfl, e]
  unfold World.cell?
  rw [heap_alloc_new]
  show (Lib.byteCells (List.replicate 113 0)).toArray[0 + k]? = _
  unfold Lib.byteCells
  rw [Nat.zero_add, List.getElem?_toArray, List.getElem?_map, List.getElem?_eq_getElem hk]
  rfl
theorem convB_bytes {W : World} {g o n c : Nat} {l : List UInt8} (h : BytesAt W (.slice (some ⟨g, o, none⟩) n c) l) (hn : l.length = n) (h0 : 0 < n) : (convB (.slice (some ⟨g, o, none⟩) n c)).run Tryd.prog W = .ok (.string ⟨l.toArray⟩) W := by
  subst hn
  rcases h with ⟨a, d, hv, hl⟩ | ⟨b, o', d, hv, _, hc⟩
  · rw [hl] at h0; simp at h0
  · cases hv
    exact run_convert_bytes_back (P := Tryd.prog) W 65 9 5 ⟨g, o, none⟩ c l Tryd.underlying65 Tryd.underlying5 Tryd.underlying9 (fun j hj => by
      rw [addr_add, hc j hj])
/-- The sector of the examples with one byte more at i. -/
def bump (i : Nat) : Sec := ⟨exS.l.set i (exS.l.getD i 0 + 1), by rw [List.length_set, exS.len]⟩
theorem bump_open (i : Nat) (hi : i < 128) : openE 3 (bump i) ≠ 0 := by
  intro h
  have h1 := sec_res _ (open_sum h)
  have h2 := sec_res _ (open_sum ex_open.1)
  have hl : i < exS.l.length := by rw [exS.len]; exact hi
  have hc := crc_set 0 exS.l i (exS.l.getD i 0 + 1) hl
  have e1 : crcOn 0 exS.l = resV := h2
  have e2 : crcOn 0 (exS.l.set i (exS.l.getD i 0 + 1)) = resV := h1
  rw [e1, e2, Nat.xor_self] at hc
  have hb := exS.l[i].toNat_lt
  have hv := (exS.l.getD i 0 + 1).toNat_lt
  have h3 := xor_eq_zero (halfN_inj0 (xor_lt (by omega) (by omega)) hc.symm)
  have h4 : exS.l.getD i 0 = exS.l[i] := by rw [List.getD_eq_getElem?_getD, List.getElem?_eq_getElem hl]; rfl
  rw [h4, UInt8.toNat_add] at h3
  have h5 : (1 : UInt8).toNat = 1 := rfl
  rw [h5] at h3
  omega
structure KS (w : World) (X : Nat) (W : World) : Prop where
  sx : BAt W X exS.l
  below : Below w.heap.size w W
theorem KS.more {w : World} {X : Nat} {W W' : World} (h : KS w X W) (k : Below W.heap.size W W') : KS w X W' := ⟨h.sx.below k h.sx.lt, h.below.trans (k.mono h.below.size)⟩
theorem long_bad : sealE 3 2 (ByteArray.mk (List.replicate 113 (0 : UInt8)).toArray).data.toList.length = 3 := by decide
theorem kind_bad : sealE 3 0 (ByteArray.mk #[]).data.toList.length = 7 := by decide
theorem get_new : getE 5 (D.readD (D.newD 64) 5) (D.readE (D.newD 64) 5) = 70 := by
  have h1 : D.readE (D.newD 64) 5 = 0 := by decide
  have h2 : D.readD (D.newD 64) 5 = Sec.zero := by
    unfold D.readD D.newD D.readsV
    rfl
  rw [h1, h2]
  show openE 5 Sec.zero = 70
  exact openE_70 (by decide) rfl

set_option maxHeartbeats 4000000 in
theorem framesKnown_any (w : World) (hE : Env w) (hw : 1 ≤ w.heap.size) :
    Calls Tryd.prog 9 #[] w (TrueP w) := by
  have HE := Lib.hid (fun (W : World) (h : Below w.heap.size w W) => hE.below h hw)
  have HW := Lib.hid (fun (W : World) (h : Below w.heap.size w W) => Nat.le_trans hw h.size)
  have HA := Lib.hid (fun (W : World) (h : Below w.heap.size w W) => awake_any W (HE.out W h) (HW.out W h))
  have H1 := Lib.hid (ex_sealP w hE hw)
  clear hE hw
  go_enter Tryd.func9, Tryd.ntmps9
  go_wp2_with fail
  refine H1.out.mono ?_
  rintro e w1 ⟨rfl, hb1⟩
  obtain ⟨w2, ha, hst, hB, hb2⟩ := lay_sec w1 exS
  have HK := Lib.hid (show KS w w1.heap.size w2 from ⟨hB, hb1.trans (hb2.mono hb1.size)⟩)
  clear hb1 hb2 hB H1
  go_wp2_with fail
  clear ha hst
  go_loopw [3] (fun i wr => ∃ k : Nat, k ≤ 128 ∧ i = .int .i64 k ∧ Hid (KS w w1.heap.size wr)) (fun i _ => 128 - (intOf i).toNat)
  case atStart => exact ⟨0, by omega, rfl, HK⟩
  case round =>
    obtain ⟨k, hk, rfl, hP⟩ := hrel
    clear HK
    by_cases hlt : k < 128
    · obtain ⟨w3, ha, hst, hB, hb3⟩ := lay_sec wr exS
      have hl := hP.out.sx.load
      have hkl : k < exS.l.length := by rw [exS.len]; exact hlt
      have hcell := hB.cell k hkl
      have hfz := hB.frozen k
      have hset := hB.set k (exS.l.getD k 0 + 1)
      have hval : ((exS.l.getD k 0 + 1).toNat : Int) = ((exS.l[k].toNat : Int) + 1) % 256 := by
        rw [UInt8.toNat_add, List.getD_eq_getElem?_getD, List.getElem?_eq_getElem hkl]
        have h5 : (1 : UInt8).toNat = 1 := rfl
        rw [h5]; simp
      rw [hval] at hset
      have hk3 := hP.out.more hb3
      have hK4 : KS w w1.heap.size (w3.setCell ⟨wr.heap.size, k, none⟩ (.int .u8 (((exS.l[k].toNat : Int) + 1) % 256))) := by
        have q := Kept.setCell (X := fun k => k = wr.heap.size) (Kept.refl _ w3) ⟨wr.heap.size, k, none⟩ rfl (.int .u8 (((exS.l[k].toNat : Int) + 1) % 256))
        exact ⟨hk3.sx.kept q (by have := hP.out.sx.lt; omega), hk3.below.trans (q.toBelow hk3.below.size (fun k e => by have := hP.out.below.size; omega))⟩
      obtain ⟨w4, hw4⟩ : ∃ w4, w3.setCell ⟨wr.heap.size, k, none⟩ (.int .u8 (((exS.l[k].toNat : Int) + 1) % 256)) = w4 := ⟨_, rfl⟩
      rw [hw4] at hset hK4
      have hl4 : (loadS (.pointer (some ⟨wr.heap.size, 0, none⟩))).run Tryd.prog w4 = .ok (.agg (bump k).A) w4 := BAt.load (s := bump k) hset
      obtain ⟨ee, hee⟩ : ∃ ee, openE 3 (bump k) = ee := ⟨_, rfl⟩
      have h0 : ¬ ee = 0 := by rw [← hee]; exact bump_open k hlt
      have HO := Lib.hid (open_as rfl hee w4 (HE.out _ hK4.below) (HW.out _ hK4.below))
      have HK4 := Lib.hid hK4
      have HW4 := Lib.hid hw4
      generalize exS.l[k].toNat = z at hcell HW4
      generalize bump k = bk at *
      clear hb3 hB hkl hset hval hk3 hK4 hw4 hee hP
      go_wp2_with (rw [HW4.out])
      clear ha hst hcell hfz hl HW4
      refine HO.out.mono ?_
      rintro e w5 ⟨rfl, hb5⟩
      obtain ⟨w6, ha6, hst6, -, hb6⟩ := lay_fr w5 (openF 3 bk)
      have HK6 := Lib.hid ((HK4.out.more hb5).more (hb6.mono (Nat.le_refl _)))
      clear hb5 hb6 HO hl4
      go_wp2_with fail
      go_roundw
      case rel => exact ⟨k + 1, by omega, by go_num, HK6⟩
      case measure => simp [intOf]; omega
    · obtain rfl : k = 128 := by omega
      have HB2 := Lib.hid hP.out.below
      obtain ⟨w3, hmk, hby, hb3⟩ := make113 wr
      have hcv := convB_bytes hby List.length_replicate (by decide)
      have HB3 := Lib.hid (HB2.out.trans (hb3.mono HB2.out.size))
      obtain ⟨bs, hbs⟩ : ∃ bs : ByteArray, ByteArray.mk (List.replicate 113 (0 : UInt8)).toArray = bs := ⟨_, rfl⟩
      rw [hbs] at hcv
      have HS3 := Lib.hid (seal_as (at_ := 3) (kind := 2) (seq := 258) (s := bs) rfl (show sealE 3 2 bs.data.toList.length = 3 from hbs ▸ long_bad) w3 (HE.out _ HB3.out) (HW.out _ HB3.out) (by decide))
      obtain ⟨q3, hq3⟩ : ∃ q, sealV 3 2 258 bs.data.toList = q := ⟨_, rfl⟩
      rw [hq3] at HS3
      clear hby hb3 hbs hP hq3
      go_wp2_with fail
      refine HS3.out.mono ?_
      rintro e w4 ⟨rfl, hb4⟩
      obtain ⟨w5, ha5, hst5, -, hb5⟩ := lay_sec w4 q3
      have HB5 := Lib.hid ((HB3.out.trans (hb4.mono HB3.out.size)).trans (hb5.mono (Nat.le_trans HB3.out.size hb4.size)))
      obtain ⟨q4, hq4⟩ : ∃ q, sealV 3 0 258 (ByteArray.mk #[]).data.toList = q := ⟨_, rfl⟩
      have HS4 := Lib.hid (seal_as (at_ := 3) (kind := 0) (seq := 258) (s := ⟨#[]⟩) hq4 kind_bad w5 (HE.out _ HB5.out) (HW.out _ HB5.out) (by omega))
      clear hb4 hb5 HS3 hq4 hmk hcv
      go_wp2_with fail
      refine HS4.out.mono ?_
      rintro e w6 ⟨rfl, hb6⟩
      obtain ⟨w7, ha7, hst7, -, hb7⟩ := lay_sec w6 q4
      have HB7 := Lib.hid ((HB5.out.trans (hb6.mono HB5.out.size)).trans (hb7.mono (Nat.le_trans HB5.out.size hb6.size)))
      have HN := Lib.hid (D.new_any 64 w7 (by omega) (by omega))
      clear hb6 hb7 HS4 ha5 hst5
      go_wp2_with fail
      refine HN.out.mono ?_
      rintro e w8 ⟨b, X, rfl, hdev, hb8, -⟩
      have HB8 := Lib.hid (HB7.out.trans (hb8.mono HB7.out.size))
      have HG := Lib.hid (get_any hdev 5 (HE.out _ HB8.out) (HW.out _ HB8.out))
      rw [get_new] at HG
      obtain ⟨f5, hf5⟩ : ∃ f, getF 5 (D.readD (D.newD 64) 5) (D.readE (D.newD 64) 5) = f := ⟨_, rfl⟩
      rw [hf5] at HG
      clear hb8 hdev HN ha7 hst7 hf5
      go_wp2_with fail
      refine HG.out.mono ?_
      rintro e w9 ⟨rfl, hb9⟩
      obtain ⟨w10, ha10, hst10, -, hb10⟩ := lay_fr w9 f5
      have HB10 := Lib.hid ((HB8.out.trans (hb9.mono HB8.out.size)).trans (hb10.mono (Nat.le_trans HB8.out.size hb9.size)))
      have HAA := Lib.hid (HA.out w10 HB10.out)
      clear hb9 hb10 HG
      go_wp2_with fail
      refine HAA.out.mono ?_
      rintro e w11 ⟨rfl, hb11⟩
      have HB11 := Lib.hid (HB10.out.trans (hb11.mono HB10.out.size))
      clear hb11
      go_wp2_with fail
      go_ret
      exact ⟨rfl, HB11.out⟩
end Go.Proofs.YtbaibmndmcdfdaaDoor.F
