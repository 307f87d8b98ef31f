/- strconv.ParseUint(s, 16, 8) at a string of two bytes that is no numeral; and the public function. -/
import Derived.Test.YtnmkcohfhomenaaDoorHex
namespace Go.Proofs.YtnmkcohfhomenaaDoor
open Go.RowKit

/-- The facts on a byte that is no digit. -/
structure NoDig (c : Int) : Prop where
  c0 : 0 ≤ c
  c255 : c ≤ 255
  nd : c < 48 ∨ 57 < c
  nl : lowC c < 97 ∨ 102 < lowC c

set_option maxHeartbeats 2000000 in
set_option maxRecDepth 100000 in
theorem parseUint_hex_no (a b : UInt8) (x : Int) (w : World) (hab : NoDig a.toNat ∨ (Dig a.toNat x ∧ NoDig b.toNat)) :
    Calls Tryd.prog 89 #[.string ⟨#[a, b]⟩, .int .i64 16, .int .i64 8] w fun e w' => e = .returned (.tuple #[.int .u64 0, .iface 109 (.int .i64 2)]) ∧ Below w.heap.size w w' := by
  have hcv := Lib.run_convert_string_bytes (P := Tryd.prog) w 9 38 5 ⟨#[a, b]⟩ (u := .string) Tryd.underlying9 Tryd.underlying38 Tryd.underlying5
  have hB0 : (Lib.bytesWorld w 5 ⟨#[a, b]⟩).cell? ⟨w.heap.size, 0, none⟩ = some (.int .u8 a.toNat) := Lib.bytesWorld_cell w 5 ⟨#[a, b]⟩ 0 (show 0 < 2 by decide)
  have hB1 : (Lib.bytesWorld w 5 ⟨#[a, b]⟩).cell? ⟨w.heap.size, 1, none⟩ = some (.int .u8 b.toNat) := Lib.bytesWorld_cell w 5 ⟨#[a, b]⟩ 1 (show 1 < 2 by decide)
  have hbel : Below w.heap.size w (Lib.bytesWorld w 5 ⟨#[a, b]⟩) := ⟨rfl, rfl, rfl, by rw [Lib.bytesWorld_size]; omega, fun k hk => Lib.bytesWorld_at_old w _ _ k hk⟩
  obtain ⟨W1, hW1⟩ : ∃ W1, W1 = Lib.bytesWorld w 5 ⟨#[a, b]⟩ := ⟨_, rfl⟩
  rw [← hW1] at hcv hB0 hB1 hbel
  clear hW1
  have HAB := Lib.hid hab
  clear hab
  generalize hA : (a.toNat : Int) = A at *
  generalize hBv : (b.toNat : Int) = C at *
  clear hA hBv
  have v0 := bits_lo_u8 .or A 32
  have v1 := bits_hi_u8 .or A 32
  have u0 := bits_lo_u8 .or C 32
  have u1 := bits_hi_u8 .or C 32
  have k95 : bits BinOp.or IntKind.u8 95 32 = 127 := by decide +kernel
  go_enter Tryd.func89, Tryd.ntmps89
  go_wp2_with fail
  go_loop [12, 13, 101] (fun vu vn vi => vu = .bool false ∧ ((vi = .int .i64 0 ∧ vn = .int .u64 0) ∨ (vi = .int .i64 1 ∧ vn = .int .u64 x ∧ Hid (Dig A x ∧ NoDig C)))) (fun _ _ vi => 2 - (intOf vi).toNat)
  case atStart => exact ⟨rfl, .inl ⟨rfl, rfl⟩⟩
  case round =>
    obtain ⟨rfl, hrel⟩ := hrel
    rcases hrel with ⟨rfl, rfl⟩ | ⟨rfl, rfl, hh⟩
    · rcases HAB.out with hn | ⟨hd, hn⟩
      · obtain ⟨a0, a1, nd, nl⟩ := hn
        simp only [lowC] at nl
        by_cases h95 : A = 95
        · subst h95
          go_wp2_with (go_at_call 110; refine (Tryd.internal_strconv_lower _ _).mono ?_; rintro e w' ⟨rfl, rfl⟩)
          all_goals go_ret2
          all_goals exact ⟨rfl, hbel⟩
        · have e95 : (A == 95) = false := by simpa using h95
          go_wp2_with (go_at_call 110; refine (Tryd.internal_strconv_lower _ _).mono ?_; rintro e w' ⟨rfl, rfl⟩)
          all_goals first | (exfalso; omega) | (go_ret2; exact ⟨rfl, hbel⟩)
      · have HD := Lib.hid hd
        have HN := Lib.hid hn
        obtain ⟨a0, a1, x0, x1, hda⟩ := hd
        clear hn
        rcases hda with ⟨d0, d1, d2⟩ | ⟨d0, d1, d2, d3⟩
        · have D := Lib.hid d2
          clear d2
          go_wp2_with (go_at_call 110; refine (Tryd.internal_strconv_lower _ _).mono ?_; rintro e w' ⟨rfl, rfl⟩)
          exact ⟨⟨rfl, .inr ⟨rfl, int_eq D.out.symm, Lib.hid ⟨HD.out, HN.out⟩⟩⟩, by simp [intOf]⟩
        · have D := Lib.hid d3
          have h95 : (A == 95) = false := by have := not95 A d1 d2; simpa using this
          clear d3
          simp only [lowC] at d1 d2 D
          go_wp2_with (go_at_call 110; refine (Tryd.internal_strconv_lower _ _).mono ?_; rintro e w' ⟨rfl, rfl⟩)
          all_goals first | exact ⟨⟨rfl, .inr ⟨rfl, int_eq (by have := D.out; omega), Lib.hid ⟨HD.out, HN.out⟩⟩⟩, by simp [intOf]⟩ | (exfalso; omega)
    · have hd := hh.out.1
      obtain ⟨a0, a1, x0, x1, _⟩ := hd
      obtain ⟨c0, c1, nd, nl⟩ := hh.out.2
      simp only [lowC] at nl
      by_cases h95 : C = 95
      · subst h95
        go_wp2_with (go_at_call 110; refine (Tryd.internal_strconv_lower _ _).mono ?_; rintro e w' ⟨rfl, rfl⟩)
        all_goals go_ret2
        all_goals exact ⟨rfl, hbel⟩
      · have e95 : (C == 95) = false := by simpa using h95
        go_wp2_with (go_at_call 110; refine (Tryd.internal_strconv_lower _ _).mono ?_; rintro e w' ⟨rfl, rfl⟩)
        all_goals first | (exfalso; omega) | (go_ret2; exact ⟨rfl, hbel⟩)

end Go.Proofs.YtnmkcohfhomenaaDoor
