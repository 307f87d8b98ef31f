/- The reference's Same and Ints, where they return true. -/
import Derived.Test.YtkknelcolbdphaaWith
namespace Go.Proofs.Ytkknelcolbdphaa
open Go.RowKit
set_option maxRecDepth 100000

/-- The cells of two lists that are one, at one place. -/
theorem RowAt.at_ {α : Type} {f : α → Value} {w : World} {s : Option Addr} {n c : Nat} {L : List α} (h : RowAt f w (.slice s n c) L) (k : Nat) (hk : k < L.length) : ∃ g o, s = some ⟨g, o, none⟩ ∧ w.cell? ⟨g, o + k, none⟩ = some (f L[k]) := by
  obtain ⟨g, o, e, _, hc⟩ := h.addr (by omega)
  exact ⟨g, o, e, hc k hk⟩
set_option maxHeartbeats 1000000 in
theorem ints_same {w : World} {v v' : Value} {L : List Nat} (hv : NatsAt w v L) (hv' : NatsAt w v' L) (hL : L.length ≤ 1000) :
    Calls Try.prog 24 #[v, v'] w fun e w' => e = .returned (.bool true) ∧ Below w.heap.size w w' := by
  obtain ⟨s, c, rfl⟩ := hv.val
  obtain ⟨s', c', rfl⟩ := hv'.val
  have H1 := Lib.hid hv
  have H2 := Lib.hid hv'
  clear hv hv'
  go_enter Try.func24, Try.ntmps24
  go_wp2
  go_loopw [5] (fun i wr => ∃ k : Nat, k ≤ L.length ∧ i = .int .i64 k ∧ Hid (Mem w wr)) (fun i _ => L.length - (intOf i).toNat)
  case atStart => exact ⟨0, Nat.zero_le _, rfl, Lib.hid (Mem.refl _)⟩
  case round =>
    obtain ⟨k, hk, rfl, hM⟩ := hrel
    by_cases hlt : k < L.length
    · have hd : decide ((k : Int) < L.length) = true := by simpa using hlt
      obtain ⟨g, o, rfl, h1⟩ := (H1.out.heap hM.out.heap).at_ k hlt
      obtain ⟨g', o', rfl, h2⟩ := (H2.out.heap hM.out.heap).at_ k hlt
      have h1' := fun n => (show (wr.drewN n).cell? ⟨g, o + k, none⟩ = some (natV L[k]) from h1)
      have h2' := fun n => (show (wr.drewN n).cell? ⟨g', o' + k, none⟩ = some (natV L[k]) from h2)
      unfold natV at h1 h2 h1' h2'
      generalize L[k] = x at *
      go_wp2
      go_quiet (fail)
      have HM2 : Hid (Mem w (wr.drewN nq)) := Lib.hid (hM.out.trans ⟨rfl, rfl, rfl, rfl⟩)
      go_wp2
      go_roundw
      case rel => exact ⟨k + 1, by omega, by go_num, HM2⟩
      case measure => simp [intOf]; omega
    · obtain rfl : k = L.length := by omega
      have hd : decide ((L.length : Int) < L.length) = false := by simp
      go_wp2
      go_ret
      exact ⟨rfl, hM.out.below _⟩
theorem box_same (l : Lay) (v v' : Value) (w : World) : ∃ w2, (w.alloc (.cells (stA l v) 33 (0, 0))).alloc (.cells (stA l v') 33 (0, 0)) = w2 ∧
    Row w2 w.heap.size (stA l v) 33 ∧ Row w2 (w.heap.size + 1) (stA l v') 33 ∧ Below w.heap.size w w2 := by
  refine ⟨_, rfl, (Row.new _ _ _).alloc _, ?_, ((Below.refl _ _).alloc (Nat.le_refl _) _).alloc (by simp) _⟩
  have := Row.new (w.alloc (.cells (stA l v) 33 (0, 0))) (stA l v') 33
  rwa [World.size_alloc] at this
set_option maxHeartbeats 2000000 in
theorem same_any {w : World} {l : Lay} {v v' : Value} {U : List Bool} (hv : BoolsAt w v U) (hv' : BoolsAt w v' U) (hU : U.length ≤ 1000) :
    Calls Try.prog 17 #[.agg (stA l v), .agg (stA l v')] w fun e w' => e = .returned (.bool true) ∧ Below w.heap.size w w' := by
  obtain ⟨s, c, rfl⟩ := hv.val
  obtain ⟨s', c', rfl⟩ := hv'.val
  obtain ⟨w2, hw2, hr1, hr2, hb2⟩ := box_same l (.slice s U.length c) (.slice s' U.length c') w
  have H1 := Lib.hid (hv.below hb2 (Nat.le_refl _))
  have H2 := Lib.hid (hv'.below hb2 (Nat.le_refl _))
  have HB := Lib.hid hb2
  have HR1 := Lib.hid hr1
  have HR2 := Lib.hid hr2
  unfold stA at *
  obtain ⟨x0, x1, x2, x3⟩ := hr1.four
  obtain ⟨y0, y1, y2, y3⟩ := hr2.four
  clear hv hv' hr1 hr2 hb2
  go_enter Try.func17, Try.ntmps17
  go_wp2_with (rw [hw2])
  clear x0 x1 x2 x3 y0 y1 y2 y3
  go_loopw [5] (fun i wr => ∃ k : Nat, k ≤ U.length ∧ i = .int .i64 k ∧ Hid (Mem w2 wr)) (fun i _ => U.length - (intOf i).toNat)
  case atStart => exact ⟨0, Nat.zero_le _, rfl, Lib.hid (Mem.refl _)⟩
  case round =>
    obtain ⟨k, hk, rfl, hM⟩ := hrel
    obtain ⟨x0, x1, x2, x3⟩ := (HR1.out.below (hM.out.below w2.heap.size) HR1.out.lt).four
    obtain ⟨y0, y1, y2, y3⟩ := (HR2.out.below (hM.out.below w2.heap.size) HR2.out.lt).four
    clear x0 x1 x2 y0 y1 y2
    by_cases hlt : k < U.length
    · have hd : decide ((k : Int) < U.length) = true := by simpa using hlt
      obtain ⟨g, o, rfl, h1⟩ := (H1.out.heap hM.out.heap).at_ k hlt
      obtain ⟨g', o', rfl, h2⟩ := (H2.out.heap hM.out.heap).at_ k hlt
      have h1' := fun n => (show (wr.drewN n).cell? ⟨g, o + k, none⟩ = some (.bool U[k]) from h1)
      have h2' := fun n => (show (wr.drewN n).cell? ⟨g', o' + k, none⟩ = some (.bool U[k]) from h2)
      have x3' := fun n => (show (wr.drewN n).cell? ⟨w.heap.size, 3, none⟩ = _ from x3)
      have y3' := fun n => (show (wr.drewN n).cell? ⟨w.heap.size + 1, 3, none⟩ = _ from y3)
      generalize U[k] = x at *
      have hxx : (x != x) = false := by cases x <;> rfl
      go_wp2
      go_quiet (fail)
      have HM2 : Hid (Mem w2 (wr.drewN nq)) := Lib.hid (hM.out.trans ⟨rfl, rfl, rfl, rfl⟩)
      go_wp2
      go_roundw
      case rel => exact ⟨k + 1, by omega, by go_num, HM2⟩
      case measure => simp [intOf]; omega
    · obtain rfl : k = U.length := by omega
      have hd : decide ((U.length : Int) < U.length) = false := by simp
      go_wp2
      go_ret
      exact ⟨rfl, HB.out.trans (hM.out.below _)⟩
end Go.Proofs.Ytkknelcolbdphaa
