/- Maps that are none: the methods. -/
import Derived.Test.YtaiaibpcpcndgaaLogicM
import Derived.Test.YtaiaibpcpcndgaaAwake
import Derived.Test.YtaiaibpcpcndgaaMade
namespace Go.Proofs.Ytaiaibpcpcndgaa
open Go.RowKit

/-- The pointer v is no map's in the world w. -/
def NoMap (w : World) (v : Value) : Prop := Calls Try.prog 51 #[v] w fun e w' => e = .returned (.bool false) ∧ w = w'
theorem noMap_nil (w : World) : NoMap w (.pointer none) := isMade_nil w
theorem noMap_zero (b : Nat) (w : World) (h : w.cell? ⟨b, 0, none⟩ = some (.pointer none)) : NoMap w (.pointer (some ⟨b, 0, none⟩)) := isMade_zero b w h

theorem get_no (v : Value) (i : Int) (w : World) (hc : NoMap w v) :
    Calls Try.prog 32 #[v, .int .i64 i] w fun e w' => e = .returned (.tuple #[.bool false, .int .i64 1]) ∧ w = w' := by
  have HCV := Lib.hid hc
  clear hc
  go_enter Try.func32, Try.ntmps32
  go_wp2_with fail
  refine (lookAt_no v _ _ w HCV.out).mono ?_
  rintro e w' ⟨rfl, rfl⟩
  go_wp2_with fail
  go_ret2
  exact ⟨rfl, rfl⟩

theorem set_no (v : Value) (i : Int) (x : Bool) (w : World) (hc : NoMap w v) :
    Calls Try.prog 36 #[v, .int .i64 i, .bool x] w fun e w' => e = .returned (.int .i64 1) ∧ w = w' := by
  have HCV := Lib.hid hc
  clear hc
  go_enter Try.func36, Try.ntmps36
  go_wp2_with fail
  refine (lookAt_no v _ _ w HCV.out).mono ?_
  rintro e w' ⟨rfl, rfl⟩
  go_wp2_with fail
  go_ret
  exact ⟨rfl, rfl⟩

theorem turn_no (v : Value) (i : Int) (w : World) (hc : NoMap w v) :
    Calls Try.prog 37 #[v, .int .i64 i] w fun e w' => e = .returned (.int .i64 1) ∧ w = w' := by
  have HCV := Lib.hid hc
  clear hc
  go_enter Try.func37, Try.ntmps37
  go_wp2_with fail
  refine (lookAt_no v _ _ w HCV.out).mono ?_
  rintro e w' ⟨rfl, rfl⟩
  go_wp2_with fail
  go_ret
  exact ⟨rfl, rfl⟩

theorem fill_no (v : Value) (i n : Int) (x : Bool) (w : World) (hc : NoMap w v) :
    Calls Try.prog 38 #[v, .int .i64 i, .int .i64 n, .bool x] w fun e w' => e = .returned (.int .i64 1) ∧ w = w' := by
  have HCV := Lib.hid hc
  clear hc
  go_enter Try.func38, Try.ntmps38
  go_wp2_with fail
  refine (lookAt_no v _ _ w HCV.out).mono ?_
  rintro e w' ⟨rfl, rfl⟩
  go_wp2_with fail
  go_ret
  exact ⟨rfl, rfl⟩

theorem count_no (v : Value) (i n : Int) (w : World) (hc : NoMap w v) :
    Calls Try.prog 30 #[v, .int .i64 i, .int .i64 n] w fun e w' => e = .returned (.tuple #[.int .i64 0, .int .i64 1]) ∧ w = w' := by
  have HCV := Lib.hid hc
  clear hc
  go_enter Try.func30, Try.ntmps30
  go_wp2_with fail
  refine (lookAt_no v _ _ w HCV.out).mono ?_
  rintro e w' ⟨rfl, rfl⟩
  go_wp2_with fail
  go_ret2
  exact ⟨rfl, rfl⟩

theorem next_no (v : Value) (i : Int) (x : Bool) (w : World) (hc : NoMap w v) :
    Calls Try.prog 31 #[v, .int .i64 i, .bool x] w fun e w' => e = .returned (.tuple #[.int .i64 0, .int .i64 1]) ∧ w = w' := by
  have HCV := Lib.hid hc
  clear hc
  go_enter Try.func31, Try.ntmps31
  go_wp2_with fail
  refine (lookAt_no v _ _ w HCV.out).mono ?_
  rintro e w' ⟨rfl, rfl⟩
  go_wp2_with fail
  go_ret2
  exact ⟨rfl, rfl⟩

theorem last_no (v : Value) (i : Int) (x : Bool) (w : World) (hc : NoMap w v) :
    Calls Try.prog 33 #[v, .int .i64 i, .bool x] w fun e w' => e = .returned (.tuple #[.int .i64 0, .int .i64 1]) ∧ w = w' := by
  have HCV := Lib.hid hc
  clear hc
  go_enter Try.func33, Try.ntmps33
  go_wp2_with fail
  refine (lookAt_no v _ _ w HCV.out).mono ?_
  rintro e w' ⟨rfl, rfl⟩
  go_wp2_with fail
  go_ret2
  exact ⟨rfl, rfl⟩

theorem run_no (v : Value) (i n : Int) (x : Bool) (w : World) (hc : NoMap w v) :
    Calls Try.prog 34 #[v, .int .i64 i, .int .i64 n, .bool x] w fun e w' => e = .returned (.tuple #[.int .i64 0, .int .i64 1]) ∧ w = w' := by
  have HCV := Lib.hid hc
  clear hc
  go_enter Try.func34, Try.ntmps34
  go_wp2
  go_step3
  go_wp2_with fail
  refine (lookAt_no v _ _ w HCV.out).mono ?_
  rintro e w' ⟨rfl, rfl⟩
  go_wp2_with fail
  rw [Exit.noGoto_ret]
  go_ret2
  exact ⟨rfl, rfl⟩

/-- Same of a pointer that is no map's with whatever, and of a map with it. -/
theorem same_no1 (v u : Value) (w : World) (hc : ∀ n, NoMap (w.drewN n) v) :
    Calls Try.prog 21 #[v, u] w fun e w' => e = .returned (.bool false) ∧ Below w.heap.size w w' := by
  have HC := Lib.hid hc
  clear hc
  go_enter Try.func21, Try.ntmps21
  go_wp2
  go_quiet ((go_at_call 51; exact calm (fun W hW => by rw [hW]; exact HC.out _)))
  go_wp2
  go_ret
  exact ⟨rfl, ⟨rfl, rfl, rfl, Nat.le_refl _, fun _ _ => rfl⟩⟩
theorem same_no2 (b : Nat) (L : List Bool) (u : Value) (w : World) (hb : MapAt w b L) (hc : ∀ n, NoMap (w.drewN n) u) :
    Calls Try.prog 21 #[.pointer (some ⟨b, 0, none⟩), u] w fun e w' => e = .returned (.bool false) ∧ Below w.heap.size w w' := by
  have HC := Lib.hid (fun (n : Nat) (p : Value) (r : Bool) (h : (p = .pointer (some ⟨b, 0, none⟩) ∧ r = true) ∨ (p = u ∧ r = false)) =>
    (show Calls Try.prog 51 #[p] (w.drewN n) fun e w' => e = .returned (.bool r) ∧ w.drewN n = w' from by
      rcases h with ⟨rfl, rfl⟩ | ⟨rfl, rfl⟩
      · exact isMade_any b L _ (hb.drewN n)
      · exact hc n))
  clear hc hb
  go_enter Try.func21, Try.ntmps21
  go_wp2
  go_quiet ((go_at_call 51; exact calm (fun W hW => by rw [hW]; exact HC.out _ _ _ (by first | exact .inl ⟨rfl, rfl⟩ | exact .inr ⟨rfl, rfl⟩))))
  go_wp2
  go_ret
  exact ⟨rfl, ⟨rfl, rfl, rfl, Nat.le_refl _, fun _ _ => rfl⟩⟩
end Go.Proofs.Ytaiaibpcpcndgaa
