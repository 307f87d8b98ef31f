/- firstByte: the byte that a string says first inside quotes. -/
import Derived.Test.YtnmkcohfhomenaaDoorEnc
import Derived.Test.YtnmkcohfhomenaaDoorHexPub
import Derived.Deep.RegionHeld3
namespace Go.Proofs.YtnmkcohfhomenaaDoor
open Go.RowKit

set_option maxHeartbeats 1000000 in
set_option maxRecDepth 100000 in
theorem firstByte_plain (s : ByteArray) (w : World) (h0 : 0 < s.size) (hp : plainB s[0].toNat = true) :
    Calls Tryd.prog 69 #[.string s] w fun e w' => e = .returned (.tuple #[.int .u8 s[0].toNat, .int .i64 1]) ∧ w = w' := by
  go_enter Tryd.func69, Tryd.ntmps69
  go_wp2_with (go_at_call 70; refine (isPlain_any _ _).mono ?_; rintro e w' ⟨rfl, rfl⟩)
  go_ret2
  exact ⟨rfl, rfl⟩

set_option maxHeartbeats 1000000 in
set_option maxRecDepth 100000 in
theorem firstByte_none (s : ByteArray) (w : World) (h0 : 0 < s.size) (hp : plainB s[0].toNat = false) (h : (s[0].toNat : Int) ≠ 92 ∨ s.size < 2) :
    Calls Tryd.prog 69 #[.string s] w fun e w' => e = .returned (.tuple #[.int .u8 0, .int .i64 0]) ∧ w = w' := by
  by_cases h1 : (s[0].toNat : Int) = 92
  · have h2 : s.size < 2 := by omega
    have e1 : ((s[0].toNat : Int) != 92) = false := by simpa using h1
    clear h1 h
    go_enter Tryd.func69, Tryd.ntmps69
    go_wp2_with (go_at_call 70; refine (isPlain_any _ _).mono ?_; rintro e w' ⟨rfl, rfl⟩)
    go_ret2
    exact ⟨rfl, rfl⟩
  · have e1 : ((s[0].toNat : Int) != 92) = true := by simpa using h1
    clear h1 h
    go_enter Tryd.func69, Tryd.ntmps69
    go_wp2_with (go_at_call 70; refine (isPlain_any _ _).mono ?_; rintro e w' ⟨rfl, rfl⟩)
    go_ret2
    exact ⟨rfl, rfl⟩

def LetAt (i : Value) (c : Int) : Prop :=
  i = .int .i64 0 ∨ (i = .int .i64 1 ∧ c ≠ 34) ∨ (i = .int .i64 2 ∧ c ≠ 34 ∧ c ≠ 92) ∨ (i = .int .i64 3 ∧ c ≠ 34 ∧ c ≠ 92 ∧ c ≠ 110) ∨ (i = .int .i64 4 ∧ c ≠ 34 ∧ c ≠ 92 ∧ c ≠ 110 ∧ c ≠ 114) ∨
  (i = .int .i64 5 ∧ c ≠ 34 ∧ c ≠ 92 ∧ c ≠ 110 ∧ c ≠ 114 ∧ c ≠ 116)

set_option maxHeartbeats 1000000 in
set_option maxRecDepth 100000 in
theorem firstByte_quot (s : ByteArray) (w : World) (hE : Env w) (hs : 2 ≤ s.size) (hp : plainB s[0].toNat = false) (h92 : (s[0].toNat : Int) = 92) (h1 : (s[1].toNat : Int) = 34) :
    Calls Tryd.prog 69 #[.string s] w fun e w' => e = .returned (.tuple #[.int .u8 34, .int .i64 2]) ∧ Below w.heap.size w w' := by
  obtain ⟨t, fr, hblk⟩ := hE.escBlock
  have e1 : ((s[0].toNat : Int) != 92) = false := by simpa using h92
  have f0 : ((34 : Int) == (s[1].toNat : Int)) = true := by rw [h1]; rfl
  have HEQ := Lib.hid h1
  clear h92 h1
  have i0' := esc_0; have i1' := esc_1; have i2' := esc_2; have i3' := esc_3; have i4' := esc_4
  have hs0 : 0 < s.size := by omega
  have hs1 : (1 : Int) < (s.size : Int) := by omega
  have hs2 : 1 < s.size := by omega
  go_enter Tryd.func69, Tryd.ntmps69
  go_wp2_with (first
    | (go_at_call 70; refine (isPlain_any _ _).mono ?_; rintro e w' ⟨rfl, rfl⟩)
    | (refine wpList_load_row rfl _ _ rfl 0 rfl t escCells fr _ hblk Tryd.underlying93 rfl (by kernel_rfl) ?_))
  go_loopw [22] (fun i wr => LetAt i (s[1].toNat) ∧ Below w.heap.size w wr) (fun i _ => 5 - (intOf i).toNat)
  case atStart => exact ⟨.inl rfl, Below.refl _ _⟩
  case round =>
    obtain ⟨hat, hbel⟩ := hrel
    rcases hat with rfl | ⟨rfl, hne⟩ | ⟨rfl, hne⟩ | ⟨rfl, hne⟩ | ⟨rfl, hne⟩ | ⟨rfl, hne⟩
    · go_wp2
      go_quiet (fail)
      all_goals go_wp2
      go_ret2
      exact ⟨rfl, below_drewN (hbel.alloc hbel.size _) _⟩
    · exact absurd HEQ.out (by have := hne; omega)
    · exact absurd HEQ.out (by have := hne; omega)
    · exact absurd HEQ.out (by have := hne; omega)
    · exact absurd HEQ.out (by have := hne; omega)
    · exact absurd HEQ.out (by have := hne; omega)

set_option maxHeartbeats 1000000 in
set_option maxRecDepth 100000 in
theorem firstByte_back (s : ByteArray) (w : World) (hE : Env w) (hs : 2 ≤ s.size) (hp : plainB s[0].toNat = false) (h92 : (s[0].toNat : Int) = 92) (h1 : (s[1].toNat : Int) = 92) :
    Calls Tryd.prog 69 #[.string s] w fun e w' => e = .returned (.tuple #[.int .u8 92, .int .i64 2]) ∧ Below w.heap.size w w' := by
  obtain ⟨t, fr, hblk⟩ := hE.escBlock
  have e1 : ((s[0].toNat : Int) != 92) = false := by simpa using h92
  have f0 : ((34 : Int) == (s[1].toNat : Int)) = false := by rw [h1]; rfl
  have f1 : ((92 : Int) == (s[1].toNat : Int)) = true := by rw [h1]; rfl
  have H0 : Hid ((s[1].toNat : Int) ≠ 34) := Lib.hid (by rw [h1]; decide)
  have HEQ := Lib.hid h1
  clear h92 h1
  have i0' := esc_0; have i1' := esc_1; have i2' := esc_2; have i3' := esc_3; have i4' := esc_4
  have hs0 : 0 < s.size := by omega
  have hs1 : (1 : Int) < (s.size : Int) := by omega
  have hs2 : 1 < s.size := by omega
  go_enter Tryd.func69, Tryd.ntmps69
  go_wp2_with (first
    | (go_at_call 70; refine (isPlain_any _ _).mono ?_; rintro e w' ⟨rfl, rfl⟩)
    | (refine wpList_load_row rfl _ _ rfl 0 rfl t escCells fr _ hblk Tryd.underlying93 rfl (by kernel_rfl) ?_))
  go_loopw [22] (fun i wr => LetAt i (s[1].toNat) ∧ Below w.heap.size w wr) (fun i _ => 5 - (intOf i).toNat)
  case atStart => exact ⟨.inl rfl, Below.refl _ _⟩
  case round =>
    obtain ⟨hat, hbel⟩ := hrel
    rcases hat with rfl | ⟨rfl, hne⟩ | ⟨rfl, hne⟩ | ⟨rfl, hne⟩ | ⟨rfl, hne⟩ | ⟨rfl, hne⟩
    · go_wp2
      go_quiet (fail)
      all_goals go_wp2
      exact ⟨⟨.inr (.inl ⟨rfl, H0.out⟩), below_drewN (hbel.alloc hbel.size _) _⟩, by simp [intOf]⟩
    · go_wp2
      go_quiet (fail)
      all_goals go_wp2
      go_ret2
      exact ⟨rfl, below_drewN (hbel.alloc hbel.size _) _⟩
    · exact absurd HEQ.out (by have := hne; omega)
    · exact absurd HEQ.out (by have := hne; omega)
    · exact absurd HEQ.out (by have := hne; omega)
    · exact absurd HEQ.out (by have := hne; omega)

set_option maxHeartbeats 1000000 in
set_option maxRecDepth 100000 in
theorem firstByte_lf (s : ByteArray) (w : World) (hE : Env w) (hs : 2 ≤ s.size) (hp : plainB s[0].toNat = false) (h92 : (s[0].toNat : Int) = 92) (h1 : (s[1].toNat : Int) = 110) :
    Calls Tryd.prog 69 #[.string s] w fun e w' => e = .returned (.tuple #[.int .u8 10, .int .i64 2]) ∧ Below w.heap.size w w' := by
  obtain ⟨t, fr, hblk⟩ := hE.escBlock
  have e1 : ((s[0].toNat : Int) != 92) = false := by simpa using h92
  have f0 : ((34 : Int) == (s[1].toNat : Int)) = false := by rw [h1]; rfl
  have f1 : ((92 : Int) == (s[1].toNat : Int)) = false := by rw [h1]; rfl
  have f2 : ((110 : Int) == (s[1].toNat : Int)) = true := by rw [h1]; rfl
  have H0 : Hid ((s[1].toNat : Int) ≠ 34) := Lib.hid (by rw [h1]; decide)
  have H1 : Hid ((s[1].toNat : Int) ≠ 92) := Lib.hid (by rw [h1]; decide)
  have HEQ := Lib.hid h1
  clear h92 h1
  have i0' := esc_0; have i1' := esc_1; have i2' := esc_2; have i3' := esc_3; have i4' := esc_4
  have hs0 : 0 < s.size := by omega
  have hs1 : (1 : Int) < (s.size : Int) := by omega
  have hs2 : 1 < s.size := by omega
  go_enter Tryd.func69, Tryd.ntmps69
  go_wp2_with (first
    | (go_at_call 70; refine (isPlain_any _ _).mono ?_; rintro e w' ⟨rfl, rfl⟩)
    | (refine wpList_load_row rfl _ _ rfl 0 rfl t escCells fr _ hblk Tryd.underlying93 rfl (by kernel_rfl) ?_))
  go_loopw [22] (fun i wr => LetAt i (s[1].toNat) ∧ Below w.heap.size w wr) (fun i _ => 5 - (intOf i).toNat)
  case atStart => exact ⟨.inl rfl, Below.refl _ _⟩
  case round =>
    obtain ⟨hat, hbel⟩ := hrel
    rcases hat with rfl | ⟨rfl, hne⟩ | ⟨rfl, hne⟩ | ⟨rfl, hne⟩ | ⟨rfl, hne⟩ | ⟨rfl, hne⟩
    · go_wp2
      go_quiet (fail)
      all_goals go_wp2
      exact ⟨⟨.inr (.inl ⟨rfl, H0.out⟩), below_drewN (hbel.alloc hbel.size _) _⟩, by simp [intOf]⟩
    · go_wp2
      go_quiet (fail)
      all_goals go_wp2
      exact ⟨⟨.inr (.inr (.inl ⟨rfl, H0.out, H1.out⟩)), below_drewN (hbel.alloc hbel.size _) _⟩, by simp [intOf]⟩
    · go_wp2
      go_quiet (fail)
      all_goals go_wp2
      go_ret2
      exact ⟨rfl, below_drewN (hbel.alloc hbel.size _) _⟩
    · exact absurd HEQ.out (by have := hne; omega)
    · exact absurd HEQ.out (by have := hne; omega)
    · exact absurd HEQ.out (by have := hne; omega)

set_option maxHeartbeats 1000000 in
set_option maxRecDepth 100000 in
theorem firstByte_cr (s : ByteArray) (w : World) (hE : Env w) (hs : 2 ≤ s.size) (hp : plainB s[0].toNat = false) (h92 : (s[0].toNat : Int) = 92) (h1 : (s[1].toNat : Int) = 114) :
    Calls Tryd.prog 69 #[.string s] w fun e w' => e = .returned (.tuple #[.int .u8 13, .int .i64 2]) ∧ Below w.heap.size w w' := by
  obtain ⟨t, fr, hblk⟩ := hE.escBlock
  have e1 : ((s[0].toNat : Int) != 92) = false := by simpa using h92
  have f0 : ((34 : Int) == (s[1].toNat : Int)) = false := by rw [h1]; rfl
  have f1 : ((92 : Int) == (s[1].toNat : Int)) = false := by rw [h1]; rfl
  have f2 : ((110 : Int) == (s[1].toNat : Int)) = false := by rw [h1]; rfl
  have f3 : ((114 : Int) == (s[1].toNat : Int)) = true := by rw [h1]; rfl
  have H0 : Hid ((s[1].toNat : Int) ≠ 34) := Lib.hid (by rw [h1]; decide)
  have H1 : Hid ((s[1].toNat : Int) ≠ 92) := Lib.hid (by rw [h1]; decide)
  have H2 : Hid ((s[1].toNat : Int) ≠ 110) := Lib.hid (by rw [h1]; decide)
  have HEQ := Lib.hid h1
  clear h92 h1
  have i0' := esc_0; have i1' := esc_1; have i2' := esc_2; have i3' := esc_3; have i4' := esc_4
  have hs0 : 0 < s.size := by omega
  have hs1 : (1 : Int) < (s.size : Int) := by omega
  have hs2 : 1 < s.size := by omega
  go_enter Tryd.func69, Tryd.ntmps69
  go_wp2_with (first
    | (go_at_call 70; refine (isPlain_any _ _).mono ?_; rintro e w' ⟨rfl, rfl⟩)
    | (refine wpList_load_row rfl _ _ rfl 0 rfl t escCells fr _ hblk Tryd.underlying93 rfl (by kernel_rfl) ?_))
  go_loopw [22] (fun i wr => LetAt i (s[1].toNat) ∧ Below w.heap.size w wr) (fun i _ => 5 - (intOf i).toNat)
  case atStart => exact ⟨.inl rfl, Below.refl _ _⟩
  case round =>
    obtain ⟨hat, hbel⟩ := hrel
    rcases hat with rfl | ⟨rfl, hne⟩ | ⟨rfl, hne⟩ | ⟨rfl, hne⟩ | ⟨rfl, hne⟩ | ⟨rfl, hne⟩
    · go_wp2
      go_quiet (fail)
      all_goals go_wp2
      exact ⟨⟨.inr (.inl ⟨rfl, H0.out⟩), below_drewN (hbel.alloc hbel.size _) _⟩, by simp [intOf]⟩
    · go_wp2
      go_quiet (fail)
      all_goals go_wp2
      exact ⟨⟨.inr (.inr (.inl ⟨rfl, H0.out, H1.out⟩)), below_drewN (hbel.alloc hbel.size _) _⟩, by simp [intOf]⟩
    · go_wp2
      go_quiet (fail)
      all_goals go_wp2
      exact ⟨⟨.inr (.inr (.inr (.inl ⟨rfl, H0.out, H1.out, H2.out⟩))), below_drewN (hbel.alloc hbel.size _) _⟩, by simp [intOf]⟩
    · go_wp2
      go_quiet (fail)
      all_goals go_wp2
      go_ret2
      exact ⟨rfl, below_drewN (hbel.alloc hbel.size _) _⟩
    · exact absurd HEQ.out (by have := hne; omega)
    · exact absurd HEQ.out (by have := hne; omega)

set_option maxHeartbeats 1000000 in
set_option maxRecDepth 100000 in
theorem firstByte_tab (s : ByteArray) (w : World) (hE : Env w) (hs : 2 ≤ s.size) (hp : plainB s[0].toNat = false) (h92 : (s[0].toNat : Int) = 92) (h1 : (s[1].toNat : Int) = 116) :
    Calls Tryd.prog 69 #[.string s] w fun e w' => e = .returned (.tuple #[.int .u8 9, .int .i64 2]) ∧ Below w.heap.size w w' := by
  obtain ⟨t, fr, hblk⟩ := hE.escBlock
  have e1 : ((s[0].toNat : Int) != 92) = false := by simpa using h92
  have f0 : ((34 : Int) == (s[1].toNat : Int)) = false := by rw [h1]; rfl
  have f1 : ((92 : Int) == (s[1].toNat : Int)) = false := by rw [h1]; rfl
  have f2 : ((110 : Int) == (s[1].toNat : Int)) = false := by rw [h1]; rfl
  have f3 : ((114 : Int) == (s[1].toNat : Int)) = false := by rw [h1]; rfl
  have f4 : ((116 : Int) == (s[1].toNat : Int)) = true := by rw [h1]; rfl
  have H0 : Hid ((s[1].toNat : Int) ≠ 34) := Lib.hid (by rw [h1]; decide)
  have H1 : Hid ((s[1].toNat : Int) ≠ 92) := Lib.hid (by rw [h1]; decide)
  have H2 : Hid ((s[1].toNat : Int) ≠ 110) := Lib.hid (by rw [h1]; decide)
  have H3 : Hid ((s[1].toNat : Int) ≠ 114) := Lib.hid (by rw [h1]; decide)
  have HEQ := Lib.hid h1
  clear h92 h1
  have i0' := esc_0; have i1' := esc_1; have i2' := esc_2; have i3' := esc_3; have i4' := esc_4
  have hs0 : 0 < s.size := by omega
  have hs1 : (1 : Int) < (s.size : Int) := by omega
  have hs2 : 1 < s.size := by omega
  go_enter Tryd.func69, Tryd.ntmps69
  go_wp2_with (first
    | (go_at_call 70; refine (isPlain_any _ _).mono ?_; rintro e w' ⟨rfl, rfl⟩)
    | (refine wpList_load_row rfl _ _ rfl 0 rfl t escCells fr _ hblk Tryd.underlying93 rfl (by kernel_rfl) ?_))
  go_loopw [22] (fun i wr => LetAt i (s[1].toNat) ∧ Below w.heap.size w wr) (fun i _ => 5 - (intOf i).toNat)
  case atStart => exact ⟨.inl rfl, Below.refl _ _⟩
  case round =>
    obtain ⟨hat, hbel⟩ := hrel
    rcases hat with rfl | ⟨rfl, hne⟩ | ⟨rfl, hne⟩ | ⟨rfl, hne⟩ | ⟨rfl, hne⟩ | ⟨rfl, hne⟩
    · go_wp2
      go_quiet (fail)
      all_goals go_wp2
      exact ⟨⟨.inr (.inl ⟨rfl, H0.out⟩), below_drewN (hbel.alloc hbel.size _) _⟩, by simp [intOf]⟩
    · go_wp2
      go_quiet (fail)
      all_goals go_wp2
      exact ⟨⟨.inr (.inr (.inl ⟨rfl, H0.out, H1.out⟩)), below_drewN (hbel.alloc hbel.size _) _⟩, by simp [intOf]⟩
    · go_wp2
      go_quiet (fail)
      all_goals go_wp2
      exact ⟨⟨.inr (.inr (.inr (.inl ⟨rfl, H0.out, H1.out, H2.out⟩))), below_drewN (hbel.alloc hbel.size _) _⟩, by simp [intOf]⟩
    · go_wp2
      go_quiet (fail)
      all_goals go_wp2
      exact ⟨⟨.inr (.inr (.inr (.inr (.inl ⟨rfl, H0.out, H1.out, H2.out, H3.out⟩)))), below_drewN (hbel.alloc hbel.size _) _⟩, by simp [intOf]⟩
    · go_wp2
      go_quiet (fail)
      all_goals go_wp2
      go_ret2
      exact ⟨rfl, below_drewN (hbel.alloc hbel.size _) _⟩
    · exact absurd HEQ.out (by have := hne; omega)

end Go.Proofs.YtnmkcohfhomenaaDoor
