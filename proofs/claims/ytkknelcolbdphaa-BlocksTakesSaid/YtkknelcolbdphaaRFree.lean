/- The reference's free and Count. -/
import Derived.Test.YtkknelcolbdphaaRWith
import Derived.Test.YtkknelcolbdphaaSame
import Derived.Test.YtkknelcolbdphaaChk
namespace Go.Proofs.Ytkknelcolbdphaa
open Go.RowKit
set_option maxRecDepth 100000

theorem cnt_step (U : List Bool) (k : Nat) (hk : k < U.length) : (freeP U 0 (k + 1)).length = (freeP U 0 k).length + if U.getD k false then 0 else 1 := by
  have hm : (0 + k) % U.length = k := mod_small hk
  rw [freeP_succ, hm]
  cases U.getD k false <;> simp
set_option maxHeartbeats 1000000 in
theorem refFree_any {w : World} {l : Lay} {v : Value} {U : List Bool} (hv : BoolsAt w v U) (hU : U.length ≤ 1000) :
    Calls Try.prog 44 #[.agg (stA l v)] w fun e w' => e = .returned (.int .i64 ((freeL U 0).length : Nat)) ∧ Below w.heap.size w w' := by
  obtain ⟨s, c, rfl⟩ := hv.val
  obtain ⟨w0, hw0⟩ : ∃ w0, w.alloc (.cells (stA l (.slice s U.length c)) 33 (0, 0)) = w0 := ⟨_, rfl⟩
  have HB0 : Hid (Below w.heap.size w w0) := Lib.hid (by rw [← hw0]; exact (Below.refl _ _).alloc (Nat.le_refl _) _)
  have HR0 : Hid (Row w0 w.heap.size (stA l (.slice s U.length c)) 33) := Lib.hid (by rw [← hw0]; exact Row.new _ _ _)
  have HV := Lib.hid (hv.below HB0.out (Nat.le_refl _))
  clear hv
  unfold stA at *
  go_enter Try.func44, Try.ntmps44
  go_wp2_with (rw [hw0])
  clear hw0
  go_loopw [3, 4] (fun n i wr => ∃ k : Nat, k ≤ U.length ∧ i = .int .i64 k ∧ n = .int .i64 ((freeP U 0 k).length : Nat) ∧ Hid (Mem w0 wr)) (fun _ i _ => U.length - (intOf i).toNat)
  case atStart => exact ⟨0, Nat.zero_le _, rfl, rfl, Lib.hid (Mem.refl _)⟩
  case round =>
    obtain ⟨k, hk, rfl, rfl, hM⟩ := hrel
    obtain ⟨x0, x1, x2, x3⟩ := (HR0.out.below (hM.out.below w0.heap.size) HR0.out.lt).four
    clear x0 x1 x2
    have hpl := freeP_len U 0 k
    by_cases hlt : k < U.length
    · have hd : decide ((k : Int) < U.length) = true := by simpa using hlt
      obtain ⟨g, o, rfl, h1⟩ := (HV.out.heap hM.out.heap).at_ k hlt
      have hgd : U[k] = U.getD k false := by rw [List.getD_eq_getElem?_getD, List.getElem?_eq_getElem hlt]; rfl
      have HS := Lib.hid (cnt_step U k hlt)
      rw [hgd] at h1
      cases hu : U.getD k false with
      | true =>
        rw [hu] at h1
        have HS2 : Hid ((freeP U 0 (k + 1)).length = (freeP U 0 k).length) := Lib.hid (by rw [HS.out, hu]; rfl)
        clear hgd hu
        generalize (freeP U 0 k).length = p at *
        go_wp2
        go_roundw
        case rel => exact ⟨k + 1, by omega, by go_num, by rw [HS2.out], hM⟩
        case measure => simp [intOf]; omega
      | false =>
        rw [hu] at h1
        have HS2 : Hid ((freeP U 0 (k + 1)).length = (freeP U 0 k).length + 1) := Lib.hid (by rw [HS.out, hu]; rfl)
        clear hgd hu
        generalize (freeP U 0 k).length = p at *
        go_wp2
        go_roundw
        case rel => exact ⟨k + 1, by omega, by go_num, by rw [HS2.out]; go_num, hM⟩
        case measure => simp [intOf]; omega
    · obtain rfl : k = U.length := by omega
      have hd : decide ((U.length : Int) < U.length) = false := by simp
      go_wp2
      go_ret
      exact ⟨rfl, HB0.out.trans (hM.out.below _)⟩
set_option maxHeartbeats 1000000 in
theorem refCount_any {w : World} {l : Lay} {v : Value} {U : List Bool} (hv : BoolsAt w v U) (hU : U.length ≤ 1000) :
    Calls Try.prog 30 #[.agg (stA l v)] w fun e w' => e = .returned (.tuple #[.int .i64 (countV l U : Nat), .int .i64 (chkE l U)]) ∧ Below w.heap.size w w' := by
  obtain ⟨s, c, rfl⟩ := hv.val
  obtain ⟨w0, hw0⟩ : ∃ w0, w.alloc (.cells (stA l (.slice s U.length c)) 33 (0, 0)) = w0 := ⟨_, rfl⟩
  have HB0 : Hid (Below w.heap.size w w0) := Lib.hid (by rw [← hw0]; exact (Below.refl _ _).alloc (Nat.le_refl _) _)
  have HR0 : Hid (Row w0 w.heap.size (stA l (.slice s U.length c)) 33) := Lib.hid (by rw [← hw0]; exact Row.new _ _ _)
  have HV := Lib.hid (hv.below HB0.out (Nat.le_refl _))
  have HC := Lib.hid (refCheck_any l U s c w0)
  have HF := Lib.hid (fun (X : World) (h : Below w0.heap.size w0 X) => refFree_any (l := l) (HV.out.below h (Nat.le_refl _)) hU)
  clear hv
  obtain ⟨x0, x1, x2, x3⟩ := (show Row w0 w.heap.size #[.int .i64 l.s, .int .i64 l.j, .int .i64 l.n, .slice s U.length c] _ from HR0.out).four
  obtain ⟨E, hEE⟩ : ∃ E, chkE l U = E := ⟨_, rfl⟩
  have HEE := Lib.hid hEE
  rw [hEE] at HC
  unfold stA at *
  go_enter Try.func30, Try.ntmps30
  go_wp2_with (rw [hw0])
  refine HC.out.mono ?_
  rintro e w1 ⟨rfl, hb1⟩
  have HB1 := Lib.hid hb1
  clear hb1 x0 x1 x2 x3
  by_cases hE : E = 0
  · subst hE
    have HCV : Hid (countV l U = (freeL U 0).length) := Lib.hid (if_pos hEE)
    obtain ⟨x0, x1, x2, x3⟩ := (HR0.out.below HB1.out HR0.out.lt).four
    clear hEE
    go_wp2_with fail
    refine (HF.out _ HB1.out).mono ?_
    rintro e w2 ⟨rfl, hb2⟩
    have HB2 := Lib.hid (HB0.out.trans ((HB1.out.trans (hb2.mono HB1.out.size)).mono HB0.out.size))
    clear hb2 x0 x1 x2 x3
    go_wp2_with fail
    go_ret2
    exact ⟨by rw [HCV.out, HEE.out]; rfl, HB2.out⟩
  · have hd := decB hE
    have HCV : Hid (countV l U = 0) := Lib.hid (if_neg (by rw [hEE]; exact hE))
    have HB2 := Lib.hid (HB0.out.trans (HB1.out.mono HB0.out.size))
    clear hEE
    go_wp2_with fail
    go_ret2
    exact ⟨by rw [HCV.out, HEE.out]; rfl, HB2.out⟩
end Go.Proofs.Ytkknelcolbdphaa
