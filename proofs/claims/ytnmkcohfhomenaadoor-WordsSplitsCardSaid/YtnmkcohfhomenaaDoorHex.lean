/- strconv.ParseUint(s, 16, 8) at a string of two bytes. -/
import Derived.Test.YtnmkcohfhomenaaDoorEnv
import Derived.Test.YtnmkcohfhomenaaDoorShelf
import Derived.Deep.DeepFit
namespace Go.Proofs.YtnmkcohfhomenaaDoor
open Go.RowKit

def lowC (c : Int) : Int := bits .or .u8 c 32
/-- The value of a digit of base 16, of either case; 16: it is none. -/
def hexD (c : Int) : Int := if 48 ≤ c ∧ c ≤ 57 then c - 48 else if 97 ≤ lowC c ∧ lowC c ≤ 102 then lowC c - 87 else 16

theorem hexD_yes (c : Int) (h : hexD c < 16) : (48 ≤ c ∧ c ≤ 57 ∧ hexD c = c - 48) ∨ ((c < 48 ∨ 57 < c) ∧ 97 ≤ lowC c ∧ lowC c ≤ 102 ∧ hexD c = lowC c - 87) := by
  unfold hexD at *; split at h
  · rename_i g; rw [if_pos g]; omega
  · rename_i g
    split at h
    · rename_i k; rw [if_neg g, if_pos k]; omega
    · omega
theorem hexD_no (c : Int) (h : ¬ hexD c < 16) : (c < 48 ∨ 57 < c) ∧ (lowC c < 97 ∨ 102 < lowC c) := by
  unfold hexD at *; split at h
  · omega
  · split at h <;> omega
theorem hexD_0 (c : Int) : 0 ≤ hexD c := by unfold hexD; (repeat' split) <;> omega

/-- Where the loop over the two bytes stands: the first place, the second, the end; x, y: what their digits are worth. -/
def HexAt (x y : Int) (i n : Value) : Prop :=
  (i = .int .i64 0 ∧ n = .int .u64 0) ∨ (i = .int .i64 1 ∧ n = .int .u64 x) ∨ (i = .int .i64 2 ∧ n = .int .u64 (x * 16 + y))
theorem int_eq {k : IntKind} {a b : Int} (h : a = b) : Value.int k a = .int k b := by rw [h]

/-- The facts on one digit that the walk wants. -/
structure Dig (c x : Int) : Prop where
  c0 : 0 ≤ c
  c255 : c ≤ 255
  x0 : 0 ≤ x
  x15 : x ≤ 15
  dig : (48 ≤ c ∧ c ≤ 57 ∧ x = c - 48) ∨ ((c < 48 ∨ 57 < c) ∧ 97 ≤ lowC c ∧ lowC c ≤ 102 ∧ x = lowC c - 87)

theorem not95 (c : Int) (h0 : 97 ≤ lowC c) (h1 : lowC c ≤ 102) : c ≠ 95 := by
  intro e; subst e
  have : lowC 95 = 127 := by decide +kernel
  omega

set_option maxHeartbeats 2000000 in
set_option maxRecDepth 100000 in
theorem parseUint_hex (a b : UInt8) (x y : Int) (w : World) (ha : Dig a.toNat x) (hb : Dig b.toNat y) :
    Calls Tryd.prog 89 #[.string ⟨#[a, b]⟩, .int .i64 16, .int .i64 8] w fun e w' => e = .returned (.tuple #[.int .u64 (x * 16 + y), .nilIface]) ∧ Below w.heap.size w w' := by
  have hcv := Lib.run_convert_string_bytes (P := Tryd.prog) w 9 38 5 ⟨#[a, b]⟩ (u := .string) Tryd.underlying9 Tryd.underlying38 Tryd.underlying5
  have hB0 : (Lib.bytesWorld w 5 ⟨#[a, b]⟩).cell? ⟨w.heap.size, 0, none⟩ = some (.int .u8 a.toNat) := Lib.bytesWorld_cell w 5 ⟨#[a, b]⟩ 0 (show 0 < 2 by decide)
  have hB1 : (Lib.bytesWorld w 5 ⟨#[a, b]⟩).cell? ⟨w.heap.size, 1, none⟩ = some (.int .u8 b.toNat) := Lib.bytesWorld_cell w 5 ⟨#[a, b]⟩ 1 (show 1 < 2 by decide)
  have hbel : Below w.heap.size w (Lib.bytesWorld w 5 ⟨#[a, b]⟩) := ⟨rfl, rfl, rfl, by rw [Lib.bytesWorld_size]; omega, fun k hk => Lib.bytesWorld_at_old w _ _ k hk⟩
  obtain ⟨W1, hW1⟩ : ∃ W1, W1 = Lib.bytesWorld w 5 ⟨#[a, b]⟩ := ⟨_, rfl⟩
  rw [← hW1] at hcv hB0 hB1 hbel
  clear hW1
  obtain ⟨ha0, ha1, hx0, hx1, hda⟩ := ha
  obtain ⟨hb0, hb1, hy0, hy1, hdb⟩ := hb
  have Ha := Lib.hid hda; have Hb := Lib.hid hdb
  clear hda hdb
  generalize hA : (a.toNat : Int) = A at *
  generalize hBv : (b.toNat : Int) = C at *
  clear hA hBv
  go_enter Tryd.func89, Tryd.ntmps89
  go_wp2_with fail
  go_loop [12, 13, 101] (fun vu vn vi => vu = .bool false ∧ HexAt x y vi vn) (fun _ _ vi => 2 - (intOf vi).toNat)
  case atStart => exact ⟨rfl, .inl ⟨rfl, rfl⟩⟩
  case round =>
    obtain ⟨rfl, hrel⟩ := hrel
    rcases hrel with ⟨rfl, rfl⟩ | ⟨rfl, rfl⟩ | ⟨rfl, rfl⟩
    · rcases Ha.out with ⟨d0, d1, d2⟩ | ⟨d0, d1, d2, d3⟩
      · have D := Lib.hid d2
        clear d2
        go_wp2_with (go_at_call 110; refine (Tryd.internal_strconv_lower _ _).mono ?_; rintro e w' ⟨rfl, rfl⟩)
        exact ⟨⟨rfl, .inr (.inl ⟨rfl, int_eq D.out.symm⟩)⟩, by simp [intOf]⟩
      · have D := Lib.hid d3
        have h95 : (A == 95) = false := by have := not95 A d1 d2; simpa using this
        have hnd : (decide (48 ≤ A) && decide (A ≤ 57)) = false := by simp; omega
        clear d3
        simp only [lowC] at d1 d2 D
        go_wp2_with (go_at_call 110; refine (Tryd.internal_strconv_lower _ _).mono ?_; rintro e w' ⟨rfl, rfl⟩)
        all_goals first | exact ⟨⟨rfl, .inr (.inl ⟨rfl, int_eq (by have := D.out; omega)⟩)⟩, by simp [intOf]⟩ | (exfalso; omega)
    · rcases Hb.out with ⟨d0, d1, d2⟩ | ⟨d0, d1, d2, d3⟩
      · have D := Lib.hid d2
        clear d2
        go_wp2_with (go_at_call 110; refine (Tryd.internal_strconv_lower _ _).mono ?_; rintro e w' ⟨rfl, rfl⟩)
        exact ⟨⟨rfl, .inr (.inr ⟨rfl, int_eq (by have := D.out; omega)⟩)⟩, by simp [intOf]⟩
      · have D := Lib.hid d3
        have h95 : (C == 95) = false := by have := not95 C d1 d2; simpa using this
        have hnd : (decide (48 ≤ C) && decide (C ≤ 57)) = false := by simp; omega
        clear d3
        simp only [lowC] at d1 d2 D
        go_wp2_with (go_at_call 110; refine (Tryd.internal_strconv_lower _ _).mono ?_; rintro e w' ⟨rfl, rfl⟩)
        all_goals first | exact ⟨⟨rfl, .inr (.inr ⟨rfl, int_eq (by have := D.out; omega)⟩)⟩, by simp [intOf]⟩ | (exfalso; omega)
    · go_wp2
      go_ret2
      exact ⟨rfl, hbel⟩
end Go.Proofs.YtnmkcohfhomenaaDoor
