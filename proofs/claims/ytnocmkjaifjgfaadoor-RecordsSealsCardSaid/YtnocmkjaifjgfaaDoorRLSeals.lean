/- The law RecordsSeals: the walk. (The seat with cards.) -/
import Derived.Test.YtnocmkjaifjgfaaDoorRRefU
import Derived.Test.YtnocmkjaifjgfaaDoorRShown
namespace Go.Proofs.YtnocmkjaifjgfaaDoor.R
open Go.RowKit

theorem pads (a : Option Addr) (d : Nat) (l : List UInt8) (z : Int) (w : World) (hv : BytesAt w (.slice a l.length d) l) (hl : l.length ≤ 800000) :
    ∃ (pe : Nat) (pl : List UInt8), pl.length ≤ 900000 ∧ (∀ W, Below w.heap.size w W → Calls Tryd.prog 9 #[.slice a l.length d, .int .i64 z] W fun e w' => ∃ v, e = .returned (.tuple #[v, .int .i64 pe]) ∧ BytesAt w' v pl ∧ Below W.heap.size W w') ∧
      (∀ W, Below w.heap.size w W → Calls Tryd.prog 10 #[.slice a l.length d, .int .i64 z] W fun e w' => ∃ v, e = .returned (.tuple #[v, .int .i64 pe]) ∧ BytesAt w' v pl ∧ Below W.heap.size W w') := by
  by_cases h : z < 1 ∨ 4000 < z
  · refine ⟨7, [], by simp, fun W _ => (pad_out a d l z W h).mono ?_, fun W _ => (refPad_out a d l z W h).mono ?_⟩
    · rintro e w' ⟨rfl, rfl⟩
      exact ⟨_, rfl, BytesAt.none_ _ _, Below.refl _ _⟩
    · rintro e w' ⟨rfl, rfl⟩
      exact ⟨_, rfl, BytesAt.none_ _ _, Below.refl _ _⟩
  · obtain ⟨n, rfl⟩ : ∃ n : Nat, z = n := ⟨z.toNat, by omega⟩
    refine ⟨padE l n, padL l n, ?_, fun W hW => pad_any a d l n W (hv.below hW (Nat.le_refl _)) (by omega) (by omega), fun W hW => refPad_any a d l n W (hv.below hW (Nat.le_refl _)) hl (by omega) (by omega)⟩
    unfold padL
    split
    · simp; omega
    · simp

set_option maxHeartbeats 4000000 in
set_option maxRecDepth 100000 in
theorem recordsSeals_any (a : Option Addr) (d : Nat) (l : List UInt8) (z : Int) (w : World) (hE : Env w) (hd : l.length ≤ d) (hv : BytesAt w (.slice a l.length d) l) (hl : l.length ≤ maxLen) :
    Calls Tryd.prog 3 #[.slice a l.length d, .int .i64 z] w fun e w' => e = .returned (.bool true) ∧ Below w.heap.size w w' := by
  have HSW := Lib.hid (show ∀ W, Below w.heap.size w W → Calls Tryd.prog 6 #[] W fun e w' => e = .returned (.bool true) ∧ Below w.heap.size w w' from fun W hW => (shown_any W).mono fun e w' ⟨h1, h2⟩ => ⟨h1, hW.trans (h2.mono hW.size)⟩)
  have HR := Lib.hid (Below.refl w.heap.size w)
  unfold maxLen at hl
  by_cases h1 : 4100 < l.length
  · have d1 : decide ((4100 : Int) < l.length) = true := decide_eq_true (by omega)
    clear h1
    go_enter Tryd.func3, Tryd.ntmps3
    go_wp2_with fail
    refine (HSW.out _ HR.out).mono ?_
    rintro e w2 ⟨rfl, hB⟩
    go_wp2_with fail
    go_ret
    exact ⟨rfl, hB⟩
  have d1 : decide ((4100 : Int) < l.length) = false := decide_eq_false (by omega)
  obtain ⟨pe, pl, hpl, hp1, hp2⟩ := pads a d l z w hv (by omega)
  have HP1 := Lib.hid hp1
  have HP2 := Lib.hid hp2
  have HO1 := Lib.hid (open_any a d l w hE hv hd (by omega))
  have HO2 := Lib.hid (fun W (hW : Below w.heap.size w W) => refOpen_any a d l W (hv.below hW (Nat.le_refl _)) hd (by omega))
  have HU1 := Lib.hid (fun W (hW : Below w.heap.size w W) => unpad_any a d l W (hv.below hW (Nat.le_refl _)) hd (by omega))
  have HU2 := Lib.hid (fun W (hW : Below w.heap.size w W) => refUnpad_any a d l W (hv.below hW (Nat.le_refl _)) hd (by omega))
  have HS1 := Lib.hid (fun W (hW : Below w.heap.size w W) => seal_any (.slice a l.length d) l W (hE.below hW hE.one) (hv.below hW (Nat.le_refl _)) (by omega))
  have HS2 := Lib.hid (fun W (hW : Below w.heap.size w W) => refSeal_any (.slice a l.length d) l W (hv.below hW (Nat.le_refl _)) (by omega))
  have hol : (openL l).length ≤ 900000 := by unfold openL; split; rw [List.length_take]; omega; simp
  have hul : (unpadL l).length ≤ 900000 := by unfold unpadL; split; rw [List.length_take]; omega; simp
  have hsl : (sealL l).length ≤ 900000 := by unfold sealL; rw [List.length_append, lowL_len]; omega
  have HSM := Lib.hid (fun (W : World) (x y : Value) (q : List UInt8) (hq : q.length ≤ 900000) (h1 : BytesAt W x q) (h2 : BytesAt W y q) => same_any x y q W h1 h2 (by unfold maxLen; omega))
  have HPL := Lib.hid hpl
  have HOL := Lib.hid hol
  have HUL := Lib.hid hul
  have HSL := Lib.hid hsl
  clear hE hv h1 hp1 hp2 hpl hol hul hsl
  generalize openL l = ol at *
  generalize openE l = oe at *
  generalize unpadL l = ul at *
  generalize unpadE l = ue at *
  generalize sealL l = sl at *
  go_enter Tryd.func3, Tryd.ntmps3
  go_wp2_with fail
  refine HO1.out.mono ?_
  rintro e w1 ⟨u1, rfl, hu, hb⟩
  have HB1 := Lib.hid hb
  have HU_1 := Lib.hid hu
  clear hb hu HO1
  go_wp2_with fail
  refine (HO2.out _ HB1.out).mono ?_
  rintro e w2 ⟨u2, rfl, hu, hb⟩
  have HB12 := Lib.hid hb
  have HB2 := Lib.hid (HB1.out.trans (hb.mono HB1.out.size))
  have HU_2 := Lib.hid hu
  clear hb hu HO2
  go_wp2_with fail
  refine (HP1.out _ HB2.out).mono ?_
  rintro e w3 ⟨u3, rfl, hu, hb⟩
  have HB23 := Lib.hid hb
  have HB3 := Lib.hid (HB2.out.trans (hb.mono HB2.out.size))
  have HU_3 := Lib.hid hu
  clear hb hu HP1
  go_wp2_with fail
  refine (HP2.out _ HB3.out).mono ?_
  rintro e w4 ⟨u4, rfl, hu, hb⟩
  have HB34 := Lib.hid hb
  have HB4 := Lib.hid (HB3.out.trans (hb.mono HB3.out.size))
  have HU_4 := Lib.hid hu
  clear hb hu HP2
  go_wp2_with fail
  refine (HU1.out _ HB4.out).mono ?_
  rintro e w5 ⟨u5, rfl, hu, hb⟩
  have HB45 := Lib.hid hb
  have HB5 := Lib.hid (HB4.out.trans (hb.mono HB4.out.size))
  have HU_5 := Lib.hid hu
  clear hb hu HU1
  go_wp2_with fail
  refine (HU2.out _ HB5.out).mono ?_
  rintro e w6 ⟨u6, rfl, hu, hb⟩
  have HB56 := Lib.hid hb
  have HB6 := Lib.hid (HB5.out.trans (hb.mono HB5.out.size))
  have HU_6 := Lib.hid hu
  clear hb hu HU2
  go_wp2_with fail
  refine (HS1.out _ HB6.out).mono ?_
  rintro e w7 ⟨u7, rfl, hu, hb⟩
  have HB67 := Lib.hid hb
  have HB7 := Lib.hid (HB6.out.trans (hb.mono HB6.out.size))
  have HU_7 := Lib.hid hu
  clear hb hu HS1
  go_wp2_with fail
  refine (HS2.out _ HB7.out).mono ?_
  rintro e w8 ⟨u8, rfl, hu, hb⟩
  have HB78 := Lib.hid hb
  have HB8 := Lib.hid (HB7.out.trans (hb.mono HB7.out.size))
  have HU_8 := Lib.hid hu
  have b68 := HB67.out.trans (HB78.out.mono HB67.out.size)
  have b58 := HB56.out.trans (b68.mono HB56.out.size)
  have b48 := HB45.out.trans (b58.mono HB45.out.size)
  have b38 := HB34.out.trans (b48.mono HB34.out.size)
  have b28 := HB23.out.trans (b38.mono HB23.out.size)
  have b18 := HB12.out.trans (b28.mono HB12.out.size)
  have X1 := Lib.hid (HU_1.out.below b18 (Nat.le_refl _))
  have X2 := Lib.hid (HU_2.out.below b28 (Nat.le_refl _))
  have X3 := Lib.hid (HU_3.out.below b38 (Nat.le_refl _))
  have X4 := Lib.hid (HU_4.out.below b48 (Nat.le_refl _))
  have X5 := Lib.hid (HU_5.out.below b58 (Nat.le_refl _))
  have X6 := Lib.hid (HU_6.out.below b68 (Nat.le_refl _))
  have X7 := Lib.hid (HU_7.out.below HB78.out (Nat.le_refl _))
  clear hb hu HS2 b18 b28 b38 b48 b58 b68 HB12 HB23 HB34 HB45 HB56 HB67 HB78 HU_1 HU_2 HU_3 HU_4 HU_5 HU_6 HU_7
  have Y8 := Lib.hid (HSM.out w8 u7 u8 sl HSL.out X7.out HU_8.out)
  go_wp2_with fail
  refine Y8.out.mono ?_
  rintro e w9 ⟨rfl, hb⟩
  have HB9 := Lib.hid (HB8.out.trans (hb.mono HB8.out.size))
  have C9 := Lib.hid hb
  have Y9 := Lib.hid (HSM.out w9 u1 u2 ol HOL.out (X1.out.below hb (Nat.le_refl _)) (X2.out.below hb (Nat.le_refl _)))
  clear hb Y8
  go_wp2_with fail
  refine Y9.out.mono ?_
  rintro e w10 ⟨rfl, hb⟩
  have HB10 := Lib.hid (HB9.out.trans (hb.mono HB9.out.size))
  have C10 := Lib.hid (C9.out.trans (hb.mono C9.out.size))
  have Y10 := Lib.hid (HSM.out w10 u3 u4 pl HPL.out (X3.out.below C10.out (Nat.le_refl _)) (X4.out.below C10.out (Nat.le_refl _)))
  clear hb Y9
  go_wp2_with fail
  refine Y10.out.mono ?_
  rintro e w11 ⟨rfl, hb⟩
  have HB11 := Lib.hid (HB10.out.trans (hb.mono HB10.out.size))
  have C11 := Lib.hid (C10.out.trans (hb.mono C10.out.size))
  have Y11 := Lib.hid (HSM.out w11 u5 u6 ul HUL.out (X5.out.below C11.out (Nat.le_refl _)) (X6.out.below C11.out (Nat.le_refl _)))
  clear hb Y10
  go_wp2_with fail
  refine Y11.out.mono ?_
  rintro e w12 ⟨rfl, hb⟩
  have HB12 := Lib.hid (HB11.out.trans (hb.mono HB11.out.size))
  clear hb Y11
  go_wp2_with fail
  refine (HSW.out _ HB12.out).mono ?_
  rintro e w13 ⟨rfl, hb⟩
  go_wp2_with fail
  go_ret
  exact ⟨rfl, hb⟩
end Go.Proofs.YtnocmkjaifjgfaaDoor.R
