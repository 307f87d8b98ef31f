/- The law's awake. -/
import Derived.Test.YtbgfeonlnhlbfaaParse
import Derived.Test.YtbgfeonlnhlbfaaPrint
import Derived.Test.YtbgfeonlnhlbfaaMove
namespace Go.Proofs.Ytbgfeonlnhlbfaa
open Go.RowKit

theorem strs_block {W : World} {b : Nat} (ss : List ByteArray) {t : TypeId} (h : W.heap[b]? = some (.cells (cellsL ss).toArray t (0, 0))) : StrsAt W (.slice (some ⟨b, 0, none⟩) ss.length ss.length) ss := by
  refine .inr ⟨b, 0, ss.length, rfl, Nat.le_refl _, (Array.getElem?_eq_some_iff.1 h).1, fun k hk => ?_⟩
  rw [Nat.zero_add, Lib.cell_of_heap h k]
  simp [cellsL, List.getElem?_eq_getElem hk]

def sA : ByteArray := ⟨#[97]⟩
def sB : ByteArray := ⟨#[98]⟩
def sC : ByteArray := ⟨#[99]⟩
def sX : ByteArray := ⟨#[120]⟩
def sY : ByteArray := ⟨#[121]⟩
def sAB : ByteArray := ⟨#[97, 98]⟩
def sBC : ByteArray := ⟨#[98, 99]⟩
def sAm : ByteArray := ⟨#[97, 45]⟩
def s1 : ByteArray := ⟨#[47, 97, 47, 98, 99]⟩
def s2 : ByteArray := ⟨#[47, 97, 47]⟩

/-- Two lists laid one behind the other. -/
theorem two_lists (W : World) (xs ys : List ByteArray) : StrsAt ((W.alloc (.cells (cellsL xs).toArray 9)).alloc (.cells (cellsL ys).toArray 9)) (.slice (some ⟨W.heap.size, 0, none⟩) xs.length xs.length) xs ∧
    StrsAt ((W.alloc (.cells (cellsL xs).toArray 9)).alloc (.cells (cellsL ys).toArray 9)) (.slice (some ⟨W.heap.size + 1, 0, none⟩) ys.length ys.length) ys := by
  constructor
  · exact strs_block xs ((Below.heap_alloc _ _ _ (by simp)).trans (World.alloc_heap_new W _))
  · exact strs_block ys (by have := World.alloc_heap_new (W.alloc (.cells (cellsL xs).toArray 9)) (.cells (cellsL ys).toArray 9); rwa [World.size_alloc] at this)
theorem three_lists (W : World) (xs ys zs : List ByteArray) : StrsAt (((W.alloc (.cells (cellsL xs).toArray 9)).alloc (.cells (cellsL ys).toArray 9)).alloc (.cells (cellsL zs).toArray 9)) (.slice (some ⟨W.heap.size, 0, none⟩) xs.length xs.length) xs ∧
    StrsAt (((W.alloc (.cells (cellsL xs).toArray 9)).alloc (.cells (cellsL ys).toArray 9)).alloc (.cells (cellsL zs).toArray 9)) (.slice (some ⟨W.heap.size + 1, 0, none⟩) ys.length ys.length) ys ∧
    StrsAt (((W.alloc (.cells (cellsL xs).toArray 9)).alloc (.cells (cellsL ys).toArray 9)).alloc (.cells (cellsL zs).toArray 9)) (.slice (some ⟨W.heap.size + 1 + 1, 0, none⟩) zs.length zs.length) zs := by
  obtain ⟨h1, h2⟩ := two_lists W xs ys
  have hb : Below ((W.alloc (.cells (cellsL xs).toArray 9)).alloc (.cells (cellsL ys).toArray 9)).heap.size ((W.alloc (.cells (cellsL xs).toArray 9)).alloc (.cells (cellsL ys).toArray 9)) (((W.alloc (.cells (cellsL xs).toArray 9)).alloc (.cells (cellsL ys).toArray 9)).alloc (.cells (cellsL zs).toArray 9)) := (Below.refl _ _).alloc (Nat.le_refl _) _
  refine ⟨h1.below hb, h2.below hb, strs_block (t := 9) zs ?_⟩
  have := World.alloc_heap_new ((W.alloc (.cells (cellsL xs).toArray 9)).alloc (.cells (cellsL ys).toArray 9)) (.cells (cellsL zs).toArray 9)
  rwa [World.size_alloc, World.size_alloc] at this
theorem modestD {ss : List ByteArray} (h : ss.length ≤ 10) (h2 : ∀ s ∈ ss, s.size ≤ 1000) : Modest ss := ⟨by omega, fun s hs => by have := h2 s hs; omega⟩

set_option maxHeartbeats 4000000 in
set_option maxRecDepth 100000 in
theorem awake_any (w : World) (hE : EnvM w) : Calls Try.prog 12 #[] w fun e w' => e = .returned (.bool true) ∧ Below w.heap.size w w' := by
  have hpos := hE.pos
  have H1 := Lib.hid (Parse_any s1 w hE (by decide))
  rw [show parseE s1.data.toList = 0 by decide +kernel, show parseA s1 = [sA, sBC] by decide +kernel] at H1
  unfold s1 at H1
  have M1 : Modest [sA, sBC] := modestD (by decide) (by decide)
  go_enter Try.func12, Try.ntmps12
  go_wp2_with fail
  refine H1.out.mono ?_
  rintro e w1 ⟨v1, rfl, hv1, hb1⟩
  have HE1 := Lib.hid (hE.below hpos hb1)
  have HV1 := Lib.hid hv1
  have h1s := hb1.size
  have H2 := Lib.hid (Print_any v1 [sA, sBC] w1 hv1 M1)
  rw [show checkE (bsL [sA, sBC]) = 0 by decide +kernel, show printT (bsL [sA, sBC]) = [47, 97, 47, 98, 99] by decide +kernel] at H2
  obtain ⟨a1, c1, rfl⟩ := hv1.shape
  clear hv1 hE
  go_wp2_with fail
  refine H2.out.mono ?_
  rintro e w2 ⟨rfl, hb2⟩
  have HB2 := Lib.hid (hb1.trans (hb2.mono h1s))
  have h2s := HB2.out.size
  have H3 := Lib.hid (Parse_any s2 w2 (HE1.out.below (by omega) hb2) (by decide))
  rw [show parseE s2.data.toList = 6 by decide +kernel] at H3
  unfold s2 at H3
  clear hb1 hb2
  go_wp2_with fail
  refine H3.out.mono ?_
  rintro e w3 ⟨v3, rfl, hv3, hb3⟩
  have HB3 := Lib.hid (HB2.out.trans (hb3.mono h2s))
  have h3s := HB3.out.size
  obtain ⟨a3, c3, rfl⟩ := hv3.shape
  clear hv3 hb3
  have L4 := two_lists w3 [sA, sB] [sAm]
  have H4 := Lib.hid (Compare_any _ _ _ _ _ L4.1 L4.2 (modestD (by decide) (by decide)) (modestD (by decide) (by decide)))
  rw [show compareV [sA, sB] [sAm] = -1 by decide +kernel, show bothE [sA, sB] [sAm] = 0 by decide +kernel] at H4
  simp only [cellsL, sA, sB, sAm, List.map_cons, List.map_nil, List.length_cons, List.length_nil, Nat.zero_add] at H4
  clear L4
  go_wp2_with fail
  refine H4.out.mono ?_
  rintro e w4 ⟨rfl, hb4⟩
  have HB4 := Lib.hid (HB3.out.trans (((Below.refl _ w3).alloc (Nat.le_refl _) _ |>.alloc (by simp) _).trans (hb4.mono (by simp; omega)) |>.mono h3s))
  have h4s := HB4.out.size
  clear hb4
  have L5 := two_lists w4 [sAB] [sA]
  have H5 := Lib.hid (Under_any _ _ _ _ _ L5.1 L5.2 (modestD (by decide) (by decide)) (modestD (by decide) (by decide)))
  rw [show UnderV [sAB] [sA] = false by decide +kernel, show bothE [sAB] [sA] = 0 by decide +kernel] at H5
  simp only [cellsL, sA, sAB, List.map_cons, List.map_nil, List.length_cons, List.length_nil, Nat.zero_add] at H5
  clear L5
  go_wp2_with fail
  refine H5.out.mono ?_
  rintro e w5 ⟨rfl, hb5⟩
  have HB5 := Lib.hid (HB4.out.trans (((Below.refl _ w4).alloc (Nat.le_refl _) _ |>.alloc (by simp) _).trans (hb5.mono (by simp; omega)) |>.mono h4s))
  have h5s := HB5.out.size
  clear hb5
  have L6 := three_lists w5 [sA, sB] [sA] [sX, sY]
  have H6 := Lib.hid (Move_any _ _ _ _ _ _ _ L6.1 L6.2.1 L6.2.2 (modestD (by decide) (by decide)) (modestD (by decide) (by decide)) (modestD (by decide) (by decide)))
  rw [show MoveE [sA, sB] [sA] [sX, sY] = 0 by decide +kernel, show MoveP [sA, sB] [sA] [sX, sY] = [sX, sY, sB] by decide +kernel] at H6
  simp only [cellsL, List.map_cons, List.map_nil, List.length_cons, List.length_nil, Nat.zero_add] at H6
  clear L6
  unfold sA sB sX sY at H6
  go_wp2_with fail
  refine H6.out.mono ?_
  rintro e w6 ⟨v6, rfl, hv6, hb6⟩
  have HB6 := Lib.hid (HB5.out.trans (((Below.refl _ w5).alloc (Nat.le_refl _) _ |>.alloc (by simp) _ |>.alloc (by simp; omega) _).trans (hb6.mono (by simp; omega)) |>.mono h5s))
  have h6s := HB6.out.size
  have HV6 := Lib.hid hv6
  obtain ⟨a6, c6, rfl⟩ := hv6.shape
  clear hv6 hb6
  have L7 := two_lists w6 [sA, sB] [sA, sC]
  have H7 := Lib.hid (Common_any _ _ _ _ _ L7.1 L7.2 (modestD (by decide) (by decide)) (modestD (by decide) (by decide)))
  rw [show bothE [sA, sB] [sA, sC] = 0 by decide +kernel, show CommonP [sA, sB] [sA, sC] = [sA] by decide +kernel] at H7
  simp only [cellsL, List.map_cons, List.map_nil, List.length_cons, List.length_nil, Nat.zero_add] at H7
  clear L7
  unfold sA sB sC at H7
  go_wp2_with fail
  refine H7.out.mono ?_
  rintro e w7 ⟨v7, rfl, hv7, hb7⟩
  have hb7' := ((Below.refl _ w6).alloc (Nat.le_refl _) (.cells #[.string ⟨#[97]⟩, .string ⟨#[98]⟩] 9) |>.alloc (by simp) (.cells #[.string ⟨#[97]⟩, .string ⟨#[99]⟩] 9)).trans (hb7.mono (by simp; omega))
  have HB7 := Lib.hid (HB6.out.trans (hb7'.mono h6s))
  have h7s := HB7.out.size
  have HV6' := Lib.hid (HV6.out.below hb7')
  have HV7 := Lib.hid hv7
  obtain ⟨a7, c7, rfl⟩ := hv7.shape
  clear hv7 hb7 hb7' HV6
  go_wp2_with fail
  have hB8 : Below w7.heap.size w7 (w7.alloc (.cells #[.string ⟨#[120]⟩, .string ⟨#[121]⟩, .string ⟨#[98]⟩] 9)) := (Below.refl _ w7).alloc (Nat.le_refl _) _
  have H8 := sameR_any _ _ [sX, sY, sB] [sX, sY, sB] _ (HV6'.out.below hB8) (strs_block (t := 9) [sX, sY, sB] (World.alloc_heap_new w7 _)) (by simp) (by simp)
  rw [show sameB [sX, sY, sB] [sX, sY, sB] = true by decide +kernel] at H8
  refine H8.mono ?_
  rintro e w8 ⟨rfl, hb8⟩
  have HB8 := Lib.hid (HB7.out.trans ((hB8.trans (hb8.mono (by simp))).mono h7s))
  have h8s := HB8.out.size
  have HV7' := Lib.hid (HV7.out.below (hB8.trans (hb8.mono (by simp))))
  clear H8 hb8 hB8
  go_wp2_with fail
  have hB9 : Below w8.heap.size w8 (w8.alloc (.cells #[.string ⟨#[97]⟩] 9)) := (Below.refl _ w8).alloc (Nat.le_refl _) _
  have H9 := sameR_any _ _ [sA] [sA] _ (HV7'.out.below hB9) (strs_block (t := 9) [sA] (World.alloc_heap_new w8 _)) (by simp) (by simp)
  rw [show sameB [sA] [sA] = true by decide +kernel] at H9
  refine H9.mono ?_
  rintro e w9 ⟨rfl, hb9⟩
  have HB9 := Lib.hid (HB8.out.trans ((hB9.trans (hb9.mono (by simp))).mono h8s))
  clear H9 hb9 hB9
  have H10 := Lib.hid (name_any ⟨#[46, 46]⟩ w9 (by decide))
  rw [show nameE (⟨#[46, 46]⟩ : ByteArray).data.toList = 6 by decide +kernel] at H10
  go_wp2_with fail
  refine H10.out.mono ?_
  rintro e w10 ⟨rfl, rfl⟩
  go_wp2_with fail
  go_ret
  exact ⟨rfl, HB9.out⟩
end Go.Proofs.Ytbgfeonlnhlbfaa
