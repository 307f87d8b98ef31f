/- Sectors, Pending, Taken, On; Limit. -/
import Derived.Test.YtbaibmndmcdfdaaDoorDDev
namespace Go.Proofs.YtbaibmndmcdfdaaDoor.D
open Go.RowKit Go.MapKept

theorem isPower_any (n : Int) (w : World) :
    Calls Tryd.prog 38 #[.int .i64 n] w fun e w' => e = .returned (.bool (isPw n)) ∧ w = w' := by
  by_cases c1 : -1 ≤ n
  · have d1 : decide (-1 ≤ n) = true := by simpa using c1
    have HE : Hid (isPw n = decide (n ≤ 1000000000000)) := Lib.hid (by unfold isPw; simp [c1])
    go_enter Tryd.func38, Tryd.ntmps38
    go_wp2
    go_ret
    exact ⟨ret_bool HE.out.symm, rfl⟩
  · have d1 : decide (-1 ≤ n) = false := by simpa using c1
    have HE : Hid (isPw n = false) := Lib.hid (by unfold isPw; simp [c1])
    go_enter Tryd.func38, Tryd.ntmps38
    go_wp2
    go_ret
    exact ⟨ret_bool HE.out.symm, rfl⟩
theorem isCount_any (n : Int) (w : World) :
    Calls Tryd.prog 35 #[.int .i64 n] w fun e w' => e = .returned (.bool (isCt n)) ∧ w = w' := by
  by_cases c1 : 64 ≤ n
  · have d1 : decide (64 ≤ n) = true := by simpa using c1
    have HE : Hid (isCt n = decide (n ≤ 256)) := Lib.hid (by unfold isCt; simp [c1])
    go_enter Tryd.func35, Tryd.ntmps35
    go_wp2
    go_ret
    exact ⟨ret_bool HE.out.symm, rfl⟩
  · have d1 : decide (64 ≤ n) = false := by simpa using c1
    have HE : Hid (isCt n = false) := Lib.hid (by unfold isCt; simp [c1])
    go_enter Tryd.func35, Tryd.ntmps35
    go_wp2
    go_ret
    exact ⟨ret_bool HE.out.symm, rfl⟩

theorem limit_any {w : World} {b : Nat} {X : Nat → Prop} {D : Dv} (h : DevAt w b X D) (n : Int) :
    Calls Tryd.prog 19 #[.pointer (some ⟨b, 0, none⟩), .int .i64 n] w fun e w' => e = .returned (.int .i64 (limitE n)) ∧ Step b X (limitD D n) w w' := by
  have HC := Lib.hid (isMade_any h)
  have H := Lib.hid h
  obtain ⟨m, vs, vc, hp, hX, _⟩ := h.parts
  have h5 := hp.cells.2.2.2.2.2.1
  have hf := hp.frozen 5
  have HP := Lib.hid (isPower_any)
  cases hq : isPw n with
  | true =>
    have HE : Hid (limitE n = 0) := Lib.hid (by unfold limitE; rw [hq]; rfl)
    have HF : Hid (Step b X (limitD D n) w (w.setCell ⟨b, 5, none⟩ (.int .i64 n))) := Lib.hid (by
      have e : limitD D n = { D with pw := n } := by unfold limitD; rw [hq]; rfl
      have ok := limitD_ok h.ok n
      rw [e] at ok ⊢
      exact Step.of h (fun m vs vc hp => hp.set5 n ok) (Kept.setCell (Kept.refl X w) ⟨b, 5, none⟩ hX _))
    have HQ := Lib.hid hq
    clear h hp hq
    go_enter Tryd.func19, Tryd.ntmps19
    go_wp2_with fail
    refine HC.out.mono ?_
    rintro e w' ⟨rfl, rfl⟩
    go_wp2_with fail
    refine (HP.out n w).mono ?_
    rintro e w' ⟨rfl, rfl⟩
    rw [HQ.out]
    go_wp2
    go_ret
    exact ⟨ret_int HE.out.symm, HF.out⟩
  | false =>
    have HE : Hid (limitE n = 7) := Lib.hid (by unfold limitE; rw [hq]; rfl)
    have HF : Hid (limitD D n = D) := Lib.hid (by unfold limitD; rw [hq]; rfl)
    have HQ := Lib.hid hq
    clear h hp hq
    go_enter Tryd.func19, Tryd.ntmps19
    go_wp2_with fail
    refine HC.out.mono ?_
    rintro e w' ⟨rfl, rfl⟩
    go_wp2_with fail
    refine (HP.out n w).mono ?_
    rintro e w' ⟨rfl, rfl⟩
    rw [HQ.out]
    go_wp2
    go_ret
    exact ⟨ret_int HE.out.symm, by rw [HF.out]; exact Step.refl H.out⟩
theorem limit_none {w : World} {v : Value} (n : Int) (hc : Calls Tryd.prog 37 #[v] w fun e w' => e = .returned (.bool false) ∧ w = w') :
    Calls Tryd.prog 19 #[v, .int .i64 n] w fun e w' => e = .returned (.int .i64 1) ∧ w = w' := by
  have HC := Lib.hid hc
  clear hc
  go_enter Tryd.func19, Tryd.ntmps19
  go_wp2_with fail
  refine HC.out.mono ?_
  rintro e w' ⟨rfl, rfl⟩
  go_wp2_with fail
  go_ret
  exact ⟨rfl, rfl⟩
end Go.Proofs.YtbaibmndmcdfdaaDoor.D
