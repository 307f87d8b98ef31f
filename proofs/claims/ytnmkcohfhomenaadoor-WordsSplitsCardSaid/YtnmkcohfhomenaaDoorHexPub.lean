/- strconv.ParseUint, the public function, at base 16 and a string of two bytes. -/
import Derived.Test.YtnmkcohfhomenaaDoorHexNo
namespace Go.Proofs.YtnmkcohfhomenaaDoor
open Go.RowKit

set_option maxHeartbeats 1000000 in
set_option maxRecDepth 100000 in
theorem parseUint_yes (a b : UInt8) (x y : Int) (w : World) (ha : Dig a.toNat x) (hb : Dig b.toNat y) :
    Calls Tryd.prog 98 #[.string ⟨#[a, b]⟩, .int .i64 16, .int .i64 8] w fun e w' => e = .returned (.tuple #[.int .u64 (x * 16 + y), .nilIface]) ∧ Below w.heap.size w w' := by
  go_enter Tryd.func98, Tryd.ntmps98
  go_wp2_with (go_at_call 89; refine (parseUint_hex a b x y _ ha hb).mono ?_; rintro e w' ⟨rfl, hbel⟩)
  go_ret2
  exact ⟨rfl, hbel⟩

set_option maxHeartbeats 1000000 in
set_option maxRecDepth 100000 in
theorem parseUint_no (a b : UInt8) (x : Int) (w : World) (hE : Env w) (hab : NoDig a.toNat ∨ (Dig a.toNat x ∧ NoDig b.toNat)) :
    Calls Tryd.prog 98 #[.string ⟨#[a, b]⟩, .int .i64 16, .int .i64 8] w fun e w' => ∃ t p, e = .returned (.tuple #[.int .u64 0, .iface t p]) ∧ Below w.heap.size w w' := by
  go_enter Tryd.func98, Tryd.ntmps98
  go_wp2_with fail
  refine (parseUint_hex_no a b x _ hab).mono ?_
  rintro e w1 ⟨rfl, hbel⟩
  have hE1 := hE.below hbel hE.nine
  obtain ⟨tp, p, hv⟩ := hE1.syn
  have hc := var_cell gSyn hv
  go_wp2_with (go_at_call 66; refine (Tryd.strconv_toError_syntax _ ⟨#[a, b]⟩ _ _ _ _ (show 2 ≤ 281474976710656 by decide) hc (.inr ⟨_, _, rfl⟩)).mono ?_; rintro e w2 ⟨N, rfl, _, _, hbel2⟩)
  go_ret2
  exact ⟨_, _, rfl, hbel.trans (hbel2.mono hbel.size)⟩
end Go.Proofs.YtnmkcohfhomenaaDoor
