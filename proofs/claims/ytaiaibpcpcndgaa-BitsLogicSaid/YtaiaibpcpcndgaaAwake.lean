/- The law's example map; awake; BitsKnown. -/
import Derived.Test.YtaiaibpcpcndgaaLoad
import Derived.Test.YtaiaibpcpcndgaaRunM
namespace Go.Proofs.Ytaiaibpcpcndgaa
open Go.RowKit

def exL : List Bool := [false, true, true, false, false, true, true, true, false, false]
theorem exLoad : loadOK 10 [230, 0] = true := by decide
theorem exBits : bitsN [230, 0] 10 = exL := by decide

/-- A map that was made anew. -/
def NewMap (L : List Bool) (w : World) (e : Ending) (w' : World) : Prop := ∃ b, e = .returned (.pointer (some ⟨b, 0, none⟩)) ∧ w.heap.size ≤ b ∧ MapAt w' b L ∧ Below w.heap.size w w'

theorem two_bytes (w : World) (x y : UInt8) (b : Nat) (cs : Array Value) (t : TypeId) (h : w.heap[b]? = some (.cells cs t (0, 0))) (hc : cs = #[.int .u8 x.toNat, .int .u8 y.toNat]) : BytesAt w (.slice (some ⟨b, 0, none⟩) 2 2) [x, y] := by
  subst hc
  refine .inr ⟨b, 0, 2, rfl, (Array.getElem?_eq_some_iff.1 h).1, fun k hk => ?_⟩
  match k, hk with
  | 0, _ => simp [World.cell?, h]
  | 1, _ => simp [World.cell?, h]

theorem example_any (w : World) : Calls Try.prog 35 #[] w (NewMap exL w) := by
  go_enter Try.func35, Try.ntmps35
  go_wp2_with fail
  refine (load_any 10 _ [230, 0] _ (by omega) (two_bytes _ 230 0 w.heap.size _ _ (heap_alloc_new w _) rfl) (by unfold maxLen; simp)).mono ?_
  rintro e w1 ⟨h1, -, hb, hs⟩
  obtain ⟨rfl, hm⟩ := h1 exLoad
  rw [exBits] at hm
  have hB : Below w.heap.size w w1 := ((Below.refl _ _).alloc (Nat.le_refl _) _).trans (hb.mono (by simp))
  clear hb hs h1
  go_wp2_with fail
  go_ret
  rw [World.size_alloc] at hm
  exact ⟨_, rfl, by simp, hm, hB⟩

set_option maxHeartbeats 1000000 in
theorem awake_any (w : World) : Calls Try.prog 11 #[] w fun e w' => e = .returned (.bool true) ∧ Below w.heap.size w w' := by
  have H0 := Lib.hid (example_any w)
  go_enter Try.func11, Try.ntmps11
  go_wp2_with fail
  refine H0.out.mono ?_
  rintro e w1 ⟨b, rfl, hb0, hm, hB⟩
  have H1 := Lib.hid (count_any b exL 0 10 w1 hm (by omega) (by omega) (by omega) (by omega))
  rw [show countN exL 0 10 = 5 by decide, show lookE exL.length 0 10 = 0 by decide] at H1
  have H2 := Lib.hid (next_any b exL 3 true w1 hm (by omega) (by omega))
  rw [show nextN exL 3 true = 5 by decide, show nextE exL 3 true = 0 by decide] at H2
  have H3 := Lib.hid (run_any b exL 0 2 false w1 hm (by omega) (by omega) (by omega) (by omega))
  rw [show runN exL 0 2 false = 3 by decide, show runE exL 0 2 false = 0 by decide] at H3
  have H4 := Lib.hid (run_any b exL 0 4 true w1 hm (by omega) (by omega) (by omega) (by omega))
  rw [show runN exL 0 4 true = 0 by decide, show runE exL 0 4 true = 4 by decide] at H4
  have H5 := Lib.hid (len_any b exL w1 hm)
  rw [show (exL.length : Int) = 10 by decide] at H5
  clear hm
  go_wp2_with fail
  refine H1.out.mono ?_
  rintro e w1' ⟨rfl, rfl⟩
  go_wp2_with fail
  refine H2.out.mono ?_
  rintro e w1' ⟨rfl, rfl⟩
  go_wp2_with fail
  refine H3.out.mono ?_
  rintro e w1' ⟨rfl, rfl⟩
  go_wp2_with fail
  refine H4.out.mono ?_
  rintro e w1' ⟨rfl, rfl⟩
  go_wp2_with fail
  refine H5.out.mono ?_
  rintro e w1' ⟨rfl, rfl⟩
  go_wp2_with fail
  go_ret
  exact ⟨rfl, hB⟩
end Go.Proofs.Ytaiaibpcpcndgaa
