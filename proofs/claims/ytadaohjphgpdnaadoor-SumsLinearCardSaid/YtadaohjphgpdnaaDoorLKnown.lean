/- The law SumsKnown: the walk. -/
import Derived.Test.YtadaohjphgpdnaaDoorShown
namespace Go.Proofs.YtadaohjphgpdnaaDoor
open Go.RowKit

set_option maxHeartbeats 400000 in
/-- Patch where there are no four bytes. -/
theorem patch_no (v : Value) (l : List UInt8) (at_ : Int) (want : Nat) (w : World) (hv : BytesAt w v l) (hl : l.length ≤ maxLen) (h : at_ < 0 ∨ (l.length : Int) - 4 < at_) :
    Calls Tryd.prog 22 #[v, .int .i64 at_, .int .u32 want] w fun e w' => e = .returned (.tuple #[.slice none 0 0, .int .i64 7]) ∧ Below w.heap.size w w' := by
  unfold maxLen at hl
  obtain ⟨s, d, rfl⟩ := hv.shape
  clear hv
  by_cases h0 : at_ < 0
  · have d1 : decide (at_ < 0) = true := decide_eq_true h0
    clear h h0
    go_enter Tryd.func22, Tryd.ntmps22
    go_wp2_with fail
    go_ret2
    exact ⟨rfl, Below.refl _ _⟩
  · have d1 : decide (at_ < 0) = false := decide_eq_false h0
    have d2 : decide ((l.length : Int) - 4 < at_) = true := decide_eq_true (by omega)
    clear h h0
    go_enter Tryd.func22, Tryd.ntmps22
    go_wp2_with fail
    go_ret2
    exact ⟨rfl, Below.refl _ _⟩

theorem kLocA : locV [97] 3904355907 = .tuple #[.int .i64 0, .int .u8 0, .int .i64 8] := by
  have := locErr_same (l := [97]) (want := 3904355907) (by decide) vA
  unfold locV
  rw [this.1, this.2]; rfl
theorem kLocN : locV [] 1 = .tuple #[.int .i64 0, .int .u8 0, .int .i64 4] := by
  have := locErr_else (l := []) (want := 1) (by decide) (by decide +kernel)
  unfold locV
  rw [this.1, this.2]; rfl
theorem kMixA : mixV [97] = 420906795106 := by decide +kernel
theorem kLocNil (W : World) (hE : Env W) : Calls Tryd.prog 25 #[.slice none 0 0, .int .u32 1] W fun e w' => e = .returned (.tuple #[.int .i64 0, .int .u8 0, .int .i64 4]) ∧ Below W.heap.size W w' := by
  refine (locate_any _ [] 1 W hE (.inl ⟨_, _, rfl, rfl⟩) (by simp) (by omega)).mono ?_
  rintro e w' ⟨rfl, h⟩
  exact ⟨by rw [kLocN], h⟩
theorem kZeros (W : World) (hE : Env W) : Calls Tryd.prog 18 #[.int .u32 5, .int .i64 (-1)] W fun e w' => e = .returned (.tuple #[.int .u32 0, .int .i64 7]) ∧ Below W.heap.size W w' := by
  refine (zeros_any 5 (-1) W (by omega) hE).mono ?_
  rintro e w' ⟨rfl, h⟩
  exact ⟨by rw [zN_not (by omega), zE_not (by omega)]; rfl, h⟩
theorem kPatch (W : World) : Calls Tryd.prog 22 #[.slice (some ⟨W.heap.size, 0, none⟩) 3 3, .int .i64 0, .int .u32 1] (W.alloc (.cells #[.int .u8 97, .int .u8 98, .int .u8 99] 5 (3, 4))) fun e w' => e = .returned (.tuple #[.slice none 0 0, .int .i64 7]) ∧ Below W.heap.size W w' := by
  have hb := (Below.refl W.heap.size W).alloc (Nat.le_refl _) (.cells #[.int .u8 97, .int .u8 98, .int .u8 99] 5 (3, 4))
  refine (patch_no _ [97, 98, 99] 0 1 _ (bytes_new W [97, 98, 99] _ _ _ rfl 3 rfl) (by unfold maxLen; decide) (.inr (by decide))).mono ?_
  rintro e w' ⟨rfl, h⟩
  exact ⟨rfl, hb.trans (h.mono hb.size)⟩
theorem kMixOn (W : World) : Calls Tryd.prog 27 #[.int .u64 18446744073709551615, .slice none 0 0] W fun e w' => e = .returned (.tuple #[.int .u64 0, .int .i64 6]) ∧ Below W.heap.size W w' := by
  refine (mixOn_any 18446744073709551615 _ [] W (by omega) (.inl ⟨_, _, rfl, rfl⟩) (by simp)).mono ?_
  rintro e w' ⟨rfl, h⟩
  have hm : isMixV 18446744073709551615 = false := by decide
  exact ⟨by rw [mixOn_no hm, mixE_no hm]; rfl, h⟩
theorem kRoll (W : World) : Calls Tryd.prog 29 #[.int .u64 1, .int .i64 0, .int .u8 1, .int .u8 1] W fun e w' => e = .returned (.tuple #[.int .u64 0, .int .i64 7]) ∧ Below W.heap.size W w' := by
  refine (roll_any 1 1 1 0 W (by omega) (by omega) (by omega)).mono ?_
  rintro e w' ⟨rfl, h⟩
  have hm := rollE_b (h := 1) (n := 0) (by decide) (.inl (by omega))
  exact ⟨by rw [hm.1, hm.2]; rfl, h⟩
theorem kOn (W : World) (hE : Env W) : Calls Tryd.prog 16 #[.int .u32 3904355907, .slice none 0 0] W fun e w' => e = .returned (.int .u32 3904355907) ∧ Below W.heap.size W w' := by
  refine (on_any 3904355907 _ [] W (by omega) hE (.inl ⟨_, _, rfl, rfl⟩) (by simp)).mono ?_
  rintro e w' ⟨rfl, h⟩
  have hm : crcOn 3904355907 [] = 3904355907 := by decide +kernel
  exact ⟨by rw [hm]; rfl, h⟩
theorem kMixNil (W : World) : Calls Tryd.prog 31 #[.slice none 0 0] W fun e w' => e = .returned (.int .u64 1) ∧ Below W.heap.size W w' := by
  refine (mixAll_any _ [] W (.inl ⟨_, _, rfl, rfl⟩) (by simp)).mono ?_
  rintro e w' ⟨rfl, h⟩
  have hm : mixV [] = 1 := by decide
  exact ⟨by rw [hm]; rfl, h⟩

set_option maxHeartbeats 4000000 in
theorem sumsKnown_any (w : World) (hE : Env w) :
    Calls Tryd.prog 12 #[] w fun e w' => e = .returned (.bool true) ∧ Below w.heap.size w w' := by
  have hconv := fun w C n c => Lib.run_convert_bytes_const (P := Tryd.prog) w 23 5 C n c Tryd.underlying23 Tryd.underlying5
  have h1 := hE.one
  have hB0 : Below w.heap.size w w := Below.refl _ _
  have hE0 := hE
  have H1 := Lib.hid (fun (W : World) (hE : Env W) => (locNew [97] 1 3904355907 #[.int .u8 97] _ rfl kLocA rfl (by decide) (by omega) (1, 2) W hE : Calls Tryd.prog 25 #[.slice (some ⟨W.heap.size, 0, none⟩) 1 1, .int .u32 3904355907] (W.alloc (.cells #[.int .u8 97] 5 (1, 2))) fun e w' => e = .returned (.tuple #[.int .i64 0, .int .u8 0, .int .i64 8]) ∧ Below W.heap.size W w'))
  have H2 := Lib.hid (fun (W : World) (hE : Env W) => kLocNil W hE)
  have H3 := Lib.hid (fun (W : World) (hE : Env W) => kZeros W hE)
  have H4 := Lib.hid (fun (W : World) => kPatch W)
  have H5 := Lib.hid (fun (W : World) => kMixOn W)
  have H6 := Lib.hid (fun (W : World) => kRoll W)
  have H7 := Lib.hid (fun (W : World) (hE : Env W) => kOn W hE)
  have H8 := Lib.hid (fun (W : World) => kMixNil W)
  have H10 := Lib.hid (fun (W : World) (hE : Env W) => shown_any W hE)
  have H9 := Lib.hid (fun (W : World) => (mixNew [97] 1 420906795106 #[.int .u8 97] rfl kMixA rfl (by decide) (1, 2) W : Calls Tryd.prog 31 #[.slice (some ⟨W.heap.size, 0, none⟩) 1 1] (W.alloc (.cells #[.int .u8 97] 5 (1, 2))) fun e w' => e = .returned (.int .u64 420906795106) ∧ Below W.heap.size W w'))
  go_enter Tryd.func12, Tryd.ntmps12
  go_wp2_with fail
  refine (H1.out _ hE0).mono ?_
  rintro e w1 ⟨rfl, hb⟩
  have hB1 := hB0.trans (hb.mono hB0.size)
  have hE1 := hE0.below hB1 h1
  clear hb
  go_wp2_with fail
  refine (H2.out _ hE1).mono ?_
  rintro e w2 ⟨rfl, hb⟩
  have hB2 := hB1.trans (hb.mono hB1.size)
  have hE2 := hE0.below hB2 h1
  clear hb
  go_wp2_with fail
  refine (H3.out _ hE2).mono ?_
  rintro e w3 ⟨rfl, hb⟩
  have hB3 := hB2.trans (hb.mono hB2.size)
  have hE3 := hE0.below hB3 h1
  clear hb
  go_wp2_with fail
  refine (H4.out _).mono ?_
  rintro e w4 ⟨rfl, hb⟩
  have hB4 := hB3.trans (hb.mono hB3.size)
  have hE4 := hE0.below hB4 h1
  clear hb
  go_wp2_with fail
  refine (H5.out _).mono ?_
  rintro e w5 ⟨rfl, hb⟩
  have hB5 := hB4.trans (hb.mono hB4.size)
  have hE5 := hE0.below hB5 h1
  clear hb
  go_wp2_with fail
  refine (H6.out _).mono ?_
  rintro e w6 ⟨rfl, hb⟩
  have hB6 := hB5.trans (hb.mono hB5.size)
  have hE6 := hE0.below hB6 h1
  clear hb
  go_wp2_with fail
  refine (H7.out _ hE6).mono ?_
  rintro e w7 ⟨rfl, hb⟩
  have hB7 := hB6.trans (hb.mono hB6.size)
  have hE7 := hE0.below hB7 h1
  clear hb
  go_wp2_with fail
  refine (H8.out _).mono ?_
  rintro e w8 ⟨rfl, hb⟩
  have hB8 := hB7.trans (hb.mono hB7.size)
  have hE8 := hE0.below hB8 h1
  clear hb
  go_wp2_with fail
  refine (H9.out _).mono ?_
  rintro e w9 ⟨rfl, hb⟩
  have hB9 := hB8.trans (hb.mono hB8.size)
  have hE9 := hE0.below hB9 h1
  clear hb
  go_wp2_with fail
  refine (H10.out _ hE9).mono ?_
  rintro e w10 ⟨rfl, hb⟩
  have hB10 := hB9.trans (hb.mono hB9.size)
  have hE10 := hE0.below hB10 h1
  clear hb
  go_wp2_with fail
  go_ret
  exact ⟨rfl, hB10⟩
end Go.Proofs.YtadaohjphgpdnaaDoor
