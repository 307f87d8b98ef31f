/- BitsKnown: the walk. -/
import Derived.Test.YtaiaibpcpcndgaaAwake
namespace Go.Proofs.Ytaiaibpcpcndgaa
open Go.RowKit

theorem one_byte (w : World) (x : UInt8) (b : Nat) (cs : Array Value) (t : TypeId) (h : w.heap[b]? = some (.cells cs t (0, 0))) (hc : cs = #[.int .u8 x.toNat]) : BytesAt w (.slice (some ⟨b, 0, none⟩) 1 1) [x] := by
  subst hc
  refine .inr ⟨b, 0, 1, rfl, (Array.getElem?_eq_some_iff.1 h).1, fun k hk => ?_⟩
  match k, hk with
  | 0, _ => simp [World.cell?, h]

set_option maxHeartbeats 1000000 in
set_option maxRecDepth 100000 in
theorem bitsKnown_any (w : World) : Calls Try.prog 10 #[] w fun e w' => e = .returned (.bool true) ∧ Below w.heap.size w w' := by
  have H0 := Lib.hid (example_any w)
  go_enter Try.func10, Try.ntmps10
  go_wp2_with fail
  refine H0.out.mono ?_
  rintro e w1 ⟨b, rfl, hb0, hm, hB⟩
  have H1 := Lib.hid (count_any b exL 2 4 w1 hm (by omega) (by omega) (by omega) (by omega))
  rw [show countN exL 2 4 = 2 by decide, show lookE exL.length 2 4 = 0 by decide] at H1
  have H2 := Lib.hid (count_any b exL 5 6 w1 hm (by omega) (by omega) (by omega) (by omega))
  rw [show countN exL 5 6 = 0 by decide, show lookE exL.length 5 6 = 7 by decide] at H2
  have H3 := Lib.hid (next_any b exL 8 true w1 hm (by omega) (by omega))
  rw [show nextN exL 8 true = 0 by decide, show nextE exL 8 true = 4 by decide] at H3
  have H4 := Lib.hid (last_any b exL 5 true w1 hm (by omega) (by omega))
  rw [show lastN exL 5 true = 2 by decide, show lastE exL 5 true = 0 by decide] at H4
  have H5 := Lib.hid (last_any b exL 1 true w1 hm (by omega) (by omega))
  rw [show lastN exL 1 true = 0 by decide, show lastE exL 1 true = 4 by decide] at H5
  have H6 := Lib.hid (run_any b exL 0 3 true w1 hm (by omega) (by omega) (by omega) (by omega))
  rw [show runN exL 0 3 true = 5 by decide, show runE exL 0 3 true = 0 by decide] at H6
  have hblt := hm.lt
  have HM := Lib.hid hm
  clear hm
  go_wp2_with fail
  refine H1.out.mono ?_
  rintro e w1' ⟨rfl, rfl⟩
  go_wp2_with fail
  refine H2.out.mono ?_
  rintro e w1' ⟨rfl, rfl⟩
  go_wp2_with fail
  refine H3.out.mono ?_
  rintro e w1' ⟨rfl, rfl⟩
  go_wp2_with fail
  refine H4.out.mono ?_
  rintro e w1' ⟨rfl, rfl⟩
  go_wp2_with fail
  refine H5.out.mono ?_
  rintro e w1' ⟨rfl, rfl⟩
  go_wp2_with fail
  refine H6.out.mono ?_
  rintro e w1' ⟨rfl, rfl⟩
  go_wp2_with fail
  refine (load_any 10 _ [230, 4] _ (by omega) (two_bytes _ 230 4 w1.heap.size _ _ (heap_alloc_new w1 _) rfl) (by unfold maxLen; simp)).mono ?_
  rintro e w2 ⟨-, h2, hb2, hs2⟩
  obtain rfl := h2 (by decide)
  have hB2 : Below w1.heap.size w1 w2 := ((Below.refl _ _).alloc (Nat.le_refl _) _).trans (hb2.mono (by simp))
  have hs2' := hB2.size
  clear hb2 hs2 h2
  go_wp2_with fail
  refine (load_any 10 _ [230] _ (by omega) (one_byte _ 230 w2.heap.size _ _ (heap_alloc_new w2 _) rfl) (by unfold maxLen; simp)).mono ?_
  rintro e w3 ⟨-, h3, hb3, hs3⟩
  obtain rfl := h3 (by decide)
  have hB3 : Below w2.heap.size w2 w3 := ((Below.refl _ _).alloc (Nat.le_refl _) _).trans (hb3.mono (by simp))
  have hs3' := hB3.size
  clear hb3 hs3 h3
  have HM3 := (HM.out.below hB2 hblt).below hB3 (by omega)
  have H7 := Lib.hid (turn_any b exL 0 w3 HM3 (by omega) (by omega))
  rw [show lookE exL.length 0 1 = 0 by decide, show setL exL 0 (!getV exL 0) = true :: exL.tail by decide] at H7
  clear HM3
  go_wp2_with fail
  refine H7.out.mono ?_
  rintro e w4 ⟨rfl, hu4⟩
  have H8 := Lib.hid (fill_any b (true :: exL.tail) 0 3 false w4 hu4.map (by omega) (by omega) (by omega) (by omega))
  rw [show lookE (true :: exL.tail).length 0 3 = 0 by decide, show fillL (true :: exL.tail) 0 3 false = [false, false, false, false, false, true, true, true, false, false] by decide] at H8
  go_wp2_with fail
  refine H8.out.mono ?_
  rintro e w5 ⟨rfl, hu5⟩
  have H9 := Lib.hid (bytes_any b _ w5 hu5.map)
  rw [show bytesL [false, false, false, false, false, true, true, true, false, false] = [224, 0] by decide] at H9
  go_wp2_with fail
  refine H9.out.mono ?_
  rintro e w6 ⟨v, rfl, -, hv, hB6⟩
  have hcv := hv.conv
  have H10 := Lib.hid (awake_any w6)
  go_wp2_with fail
  refine H10.out.mono ?_
  rintro e w7 ⟨rfl, hB7⟩
  go_wp2_with fail
  go_ret
  have s1 := hB.size; have s6 := hB6.size; have s4 := hu4.size; have s5 := hu5.size
  have k4 := hu4.kept.toBelow (n := w.heap.size) (by omega) (fun k h => by omega)
  have k5 := hu5.kept.toBelow (n := w.heap.size) (by omega) (fun k h => by omega)
  exact ⟨rfl, hB.trans ((hB2.mono (by omega)).trans ((hB3.mono (by omega)).trans (k4.trans (k5.trans ((hB6.mono (by omega)).trans (hB7.mono (by omega)))))))⟩
end Go.Proofs.Ytaiaibpcpcndgaa
