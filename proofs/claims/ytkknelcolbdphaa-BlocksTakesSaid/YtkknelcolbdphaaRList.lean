/- The reference's listed. -/
import Derived.Test.YtkknelcolbdphaaPutB
namespace Go.Proofs.Ytkknelcolbdphaa
open Go.RowKit
set_option maxRecDepth 100000

theorem calm {P : Program} {f : FuncId} {args : Array Value} {w : World} {n : Nat} {v : Value} (h : ∀ W, W = w.drewN n → Calls P f args W fun e w' => e = .returned v ∧ W = w') :
    Calls P f args (w.drewN n) fun e w'' => e = .returned v ∧ ∃ m, w'' = w.drewN m :=
  (h _ rfl).mono fun _ _ ⟨he, hm⟩ => ⟨he, n, hm.symm⟩
theorem box_one' (l : Lay) (v : Value) (w : World) : ∃ w0, w.alloc (.cells #[.int .i64 l.s, .int .i64 l.j, .int .i64 l.n, v] 33 (0, 0)) = w0 ∧ Row w0 w.heap.size (stA l v) 33 ∧ Below w.heap.size w w0 :=
  ⟨_, rfl, Row.new _ _ _, (Below.refl _ _).alloc (Nat.le_refl _) _⟩
theorem mem_take_of {L : List Int} {j k : Nat} (hj : j < k) (hk : k < L.length) (h : L.getD j 0 = L.getD k 0) : L.getD k 0 ∈ L.take k := by
  rw [← h, List.getD_eq_getElem?_getD, List.getElem?_eq_getElem (by omega)]
  exact List.mem_iff_getElem?.2 ⟨j, by rw [List.getElem?_take_of_lt hj, List.getElem?_eq_getElem (by omega)]; rfl⟩
theorem not_mem_take {L : List Int} {k : Nat} (hk : k < L.length) (h : ∀ j, j < k → L.getD j 0 ≠ L.getD k 0) : L.getD k 0 ∉ L.take k := by
  intro hm
  obtain ⟨j, hj⟩ := List.mem_iff_getElem?.1 hm
  rcases Nat.lt_or_ge j k with h1 | h1
  · rw [List.getElem?_take_of_lt h1] at hj
    exact h j h1 (by rw [List.getD_eq_getElem?_getD, hj]; rfl)
  · rw [List.getElem?_eq_none (by rw [List.length_take]; omega)] at hj
    cases hj
set_option maxHeartbeats 4000000 in
theorem listed_any {w : World} {l : Lay} {v vl : Value} {U : List Bool} {L : List Int} (hv : BoolsAt w v U) (hl : IntsAt w vl L) (hU : U.length ≤ 1000) (hLl : L.length ≤ 100000) :
    Calls Try.prog 53 #[.agg (stA l v), vl] w fun e w' => e = .returned (.int .i64 (listE U.length L)) ∧ Below w.heap.size w w' := by
  obtain ⟨s, c, rfl⟩ := hv.val
  obtain ⟨sl, cl, rfl⟩ := hl.val
  have HI := Lib.hid within_any
  obtain ⟨w0, hw0, hr0, hb0⟩ := box_one' l (.slice s U.length c) w
  have HB0 := Lib.hid hb0
  have HR0 := Lib.hid hr0
  have HL := Lib.hid (hl.below hb0 (Nat.le_refl _))
  clear hr0 hb0 hv hl
  unfold stA
  go_enter Try.func53, Try.ntmps53
  go_wp2_with (rw [hw0])
  clear hw0
  go_loopw [5] (fun i wr => ∃ k : Nat, k ≤ L.length ∧ i = .int .i64 k ∧ Hid (listN U.length L k = 0) ∧ Hid (Mem w0 wr)) (fun i _ => L.length - (intOf i).toNat)
  case atStart => exact ⟨0, Nat.zero_le _, rfl, Lib.hid rfl, Lib.hid (Mem.refl _)⟩
  case round =>
    obtain ⟨k, hk, rfl, hN, hM⟩ := hrel
    by_cases hlt : k < L.length
    · have hd : decide ((k : Int) < L.length) = true := by simpa using hlt
      obtain ⟨g, o, rfl, h1⟩ := (HL.out.heap hM.out.heap).at_ k hlt
      have hgd : L[k] = L.getD k 0 := by rw [List.getD_eq_getElem?_getD, List.getElem?_eq_getElem hlt]; rfl
      rw [hgd] at h1
      unfold intV at h1
      have HS := Lib.hid (listE_stop (n := (U.length : Int)) hlt hN.out)
      have HOK : Hid (okAt U.length L k = if inB (L.getD k 0) 0 (U.length - 1) then (if L.getD k 0 ∈ L.take k then 8 else 0) else 7) := Lib.hid rfl
      have h1' := fun m => (show (wr.drewN m).cell? ⟨g, o + k, none⟩ = some (.int .i64 (L.getD k 0)) from h1)
      have x3 := fun m => (HR0.out.below ((show Mem w0 (wr.drewN m) from hM.out.trans ⟨rfl, rfl, rfl, rfl⟩).below w0.heap.size) HR0.out.lt).four'.2.2.2
      have HG1 : Hid (∀ j, j < L.length → ∀ W, Mem w0 W → W.cell? ⟨g, o + j, none⟩ = some (.int .i64 (L.getD j 0))) := Lib.hid (fun j hj W hW => by
        obtain ⟨g', o', e, h2⟩ := (HL.out.heap hW.heap).at_ j hj
        cases e
        rw [h2, List.getD_eq_getElem?_getD, List.getElem?_eq_getElem hj]; rfl)
      clear hgd
      cases hin : inB (L.getD k 0) 0 (U.length - 1) with
      | false =>
        have HE : Hid (listE U.length L = 7) := Lib.hid (by rw [HS.out (by rw [HOK.out, hin]; simp), HOK.out, hin]; rfl)
        generalize L.getD k 0 = x at *
        go_wp2
        go_quiet ((go_at_call 38; exact calm (fun W hW => by have := HI.out x 0 (U.length - 1) W; rw [hin] at this; exact this)))
        have HM2 : Hid (Mem w0 (wr.drewN nq)) := Lib.hid (hM.out.trans ⟨rfl, rfl, rfl, rfl⟩)
        go_wp2
        go_ret
        exact ⟨ret_int HE.out.symm, HB0.out.trans (HM2.out.below _)⟩
      | true =>
        have HX : Hid (∀ X, L.getD k 0 = X → inB X 0 (U.length - 1) = true) := Lib.hid (fun X h => by rw [← h]; exact hin)
        obtain ⟨x, hx⟩ : ∃ x, L.getD k 0 = x := ⟨_, rfl⟩
        have HXX := Lib.hid hx
        rw [hx] at h1 h1' hin HOK
        clear HX
        go_wp2
        go_quiet ((go_at_call 38; exact calm (fun W hW => by have := HI.out x 0 (U.length - 1) W; rw [hin] at this; exact this)))
        have HM2 : Hid (Mem w0 (wr.drewN nq)) := Lib.hid (hM.out.trans ⟨rfl, rfl, rfl, rfl⟩)
        have HIN := Lib.hid hin
        clear h1 h1' x3 hin hM hx
        go_wp2
        go_loopw [6] (fun i wr => ∃ j : Nat, j ≤ k ∧ i = .int .i64 j ∧ Hid (∀ i, i < j → L.getD i 0 ≠ x) ∧ Hid (Mem w0 wr)) (fun i _ => k - (intOf i).toNat)
        case atStart => exact ⟨0, Nat.zero_le _, rfl, Lib.hid (fun i hi => by omega), HM2⟩
        case round =>
          obtain ⟨j, hj, rfl, hA, hM3⟩ := hrel
          by_cases hjk : j < k
          · have hd2 : decide ((j : Int) < (k : Int)) = true := by simpa using hjk
            have hd3 : decide (j < k) = true := by simpa using hjk
            have c1 := HG1.out j (by omega) wr hM3.out
            have c2 := HG1.out k hlt wr hM3.out
            rw [HXX.out] at c2
            obtain ⟨y, hy⟩ : ∃ y, L.getD j 0 = y := ⟨_, rfl⟩
            have HY := Lib.hid hy
            rw [hy] at c1
            have c1' := fun m => (show (wr.drewN m).cell? ⟨g, o + j, none⟩ = some (.int .i64 y) from c1)
            have c2' := fun m => (show (wr.drewN m).cell? ⟨g, o + k, none⟩ = some (.int .i64 x) from c2)
            clear hy
            by_cases hyx : y = x
            · have hq : (y == x) = true := by simpa using hyx
              have HE : Hid (listE U.length L = 8) := Lib.hid (by
                have hm : x ∈ L.take k := by have := mem_take_of hjk hlt (by rw [HY.out, HXX.out, hyx]); rwa [HXX.out] at this
                rw [HS.out (by rw [HOK.out, HIN.out, if_pos rfl, if_pos hm]; decide), HOK.out, HIN.out, if_pos rfl, if_pos hm])
              clear hyx
              go_wp2
              go_quiet (fail)
              have HM4 : Hid (Mem w0 (wr.drewN nq)) := Lib.hid (hM3.out.trans ⟨rfl, rfl, rfl, rfl⟩)
              go_wp2
              go_ret
              exact ⟨ret_int HE.out.symm, HB0.out.trans (HM4.out.below _)⟩
            · have hq : (y == x) = false := by simpa using hyx
              have HA2 : Hid (∀ i, i < j + 1 → L.getD i 0 ≠ x) := Lib.hid (fun i hi => by
                by_cases e : i = j
                · rw [e, HY.out]; exact hyx
                · exact hA.out i (by omega))
              clear hyx
              go_wp2
              go_quiet (fail)
              have HM4 : Hid (Mem w0 (wr.drewN nq)) := Lib.hid (hM3.out.trans ⟨rfl, rfl, rfl, rfl⟩)
              go_wp2
              go_roundw
              case rel => exact ⟨j + 1, by omega, by go_num, HA2, HM4⟩
              case measure => simp [intOf]; omega
          · obtain rfl : j = k := by omega
            have hd2 : decide ((j : Int) < (j : Int)) = false := by simp
            have HN1 : Hid (listN U.length L (j + 1) = 0) := Lib.hid (by
              have hm : x ∉ L.take j := by have := not_mem_take hlt (fun i hi => by rw [HXX.out]; exact hA.out i hi); rwa [HXX.out] at this
              rw [listN, if_pos hN.out, HOK.out, HIN.out, if_pos rfl, if_neg hm])
            go_wp2
            go_roundw
            case rel => exact ⟨j + 1, by omega, by go_num, HN1, hM3⟩
            case measure => simp [intOf]; omega
    · obtain rfl : k = L.length := by omega
      have hd : decide ((L.length : Int) < L.length) = false := by simp
      go_wp2
      go_ret
      exact ⟨ret_int hN.out.symm, HB0.out.trans (hM.out.below _)⟩
end Go.Proofs.Ytkknelcolbdphaa
