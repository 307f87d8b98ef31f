/- Sectors, Pending, Taken, On; Limit. -/
import Derived.Test.YtpboknepfjeljaaDev
namespace Go.Proofs.Ytpboknepfjeljaa
open Go.RowKit Go.MapKept

theorem isPower_any (n : Int) (w : World) :
    Calls Try.prog 55 #[.int .i64 n] w fun e w' => e = .returned (.bool (isPw n)) ∧ w = w' := by
  by_cases c1 : -1 ≤ n
  · have d1 : decide (-1 ≤ n) = true := by simpa using c1
    have HE : Hid (isPw n = decide (n ≤ 1000000000000)) := Lib.hid (by unfold isPw; simp [c1])
    go_enter Try.func55, Try.ntmps55
    go_wp2
    go_ret
    exact ⟨ret_bool HE.out.symm, rfl⟩
  · have d1 : decide (-1 ≤ n) = false := by simpa using c1
    have HE : Hid (isPw n = false) := Lib.hid (by unfold isPw; simp [c1])
    go_enter Try.func55, Try.ntmps55
    go_wp2
    go_ret
    exact ⟨ret_bool HE.out.symm, rfl⟩
theorem isCount_any (n : Int) (w : World) :
    Calls Try.prog 37 #[.int .i64 n] w fun e w' => e = .returned (.bool (isCt n)) ∧ w = w' := by
  by_cases c1 : 64 ≤ n
  · have d1 : decide (64 ≤ n) = true := by simpa using c1
    have HE : Hid (isCt n = decide (n ≤ 256)) := Lib.hid (by unfold isCt; simp [c1])
    go_enter Try.func37, Try.ntmps37
    go_wp2
    go_ret
    exact ⟨ret_bool HE.out.symm, rfl⟩
  · have d1 : decide (64 ≤ n) = false := by simpa using c1
    have HE : Hid (isCt n = false) := Lib.hid (by unfold isCt; simp [c1])
    go_enter Try.func37, Try.ntmps37
    go_wp2
    go_ret
    exact ⟨ret_bool HE.out.symm, rfl⟩

theorem sectors_any {w : World} {b : Nat} {X : Nat → Prop} {D : Dv} (h : DevAt w b X D) :
    Calls Try.prog 33 #[.pointer (some ⟨b, 0, none⟩)] w fun e w' => e = .returned (.int .i64 (D.st.length : Int)) ∧ w = w' := by
  have HC := Lib.hid (isMade_any h)
  obtain ⟨m, vs, vc, hp, _⟩ := h.parts
  have h1 := hp.cells.2.1
  obtain ⟨g, c, _, rfl, _⟩ := hp.stv
  clear h hp
  go_enter Try.func33, Try.ntmps33
  go_wp2_with fail
  refine HC.out.mono ?_
  rintro e w' ⟨rfl, rfl⟩
  go_wp2_with fail
  go_ret
  exact ⟨rfl, rfl⟩
theorem sectors_none {w : World} {v : Value} (hc : Calls Try.prog 43 #[v] w fun e w' => e = .returned (.bool false) ∧ w = w') :
    Calls Try.prog 33 #[v] w fun e w' => e = .returned (.int .i64 0) ∧ w = w' := by
  have HC := Lib.hid hc
  clear hc
  go_enter Try.func33, Try.ntmps33
  go_wp2_with fail
  refine HC.out.mono ?_
  rintro e w' ⟨rfl, rfl⟩
  go_wp2_with fail
  go_ret
  exact ⟨rfl, rfl⟩

theorem pending_any {w : World} {b : Nat} {X : Nat → Prop} {D : Dv} (h : DevAt w b X D) :
    Calls Try.prog 25 #[.pointer (some ⟨b, 0, none⟩)] w fun e w' => e = .returned (.int .i64 (D.ca.length : Int)) ∧ w = w' := by
  have HC := Lib.hid (isMade_any h)
  obtain ⟨m, vs, vc, hp, _⟩ := h.parts
  have h1 := hp.cells.2.2.1
  obtain ⟨a, c, rfl, _⟩ := hp.cav
  clear h hp
  go_enter Try.func25, Try.ntmps25
  go_wp2_with fail
  refine HC.out.mono ?_
  rintro e w' ⟨rfl, rfl⟩
  go_wp2_with fail
  go_ret
  exact ⟨rfl, rfl⟩
theorem pending_none {w : World} {v : Value} (hc : Calls Try.prog 43 #[v] w fun e w' => e = .returned (.bool false) ∧ w = w') :
    Calls Try.prog 25 #[v] w fun e w' => e = .returned (.int .i64 0) ∧ w = w' := by
  have HC := Lib.hid hc
  clear hc
  go_enter Try.func25, Try.ntmps25
  go_wp2_with fail
  refine HC.out.mono ?_
  rintro e w' ⟨rfl, rfl⟩
  go_wp2_with fail
  go_ret
  exact ⟨rfl, rfl⟩

theorem taken_any {w : World} {b : Nat} {X : Nat → Prop} {D : Dv} (h : DevAt w b X D) :
    Calls Try.prog 24 #[.pointer (some ⟨b, 0, none⟩)] w fun e w' => e = .returned (.int .i64 D.tk) ∧ w = w' := by
  have HC := Lib.hid (isMade_any h)
  obtain ⟨m, vs, vc, hp, _⟩ := h.parts
  have h1 := hp.cells.2.2.2.2.1
  clear h hp
  go_enter Try.func24, Try.ntmps24
  go_wp2_with fail
  refine HC.out.mono ?_
  rintro e w' ⟨rfl, rfl⟩
  go_wp2_with fail
  go_ret
  exact ⟨rfl, rfl⟩
theorem taken_none {w : World} {v : Value} (hc : Calls Try.prog 43 #[v] w fun e w' => e = .returned (.bool false) ∧ w = w') :
    Calls Try.prog 24 #[v] w fun e w' => e = .returned (.int .i64 0) ∧ w = w' := by
  have HC := Lib.hid hc
  clear hc
  go_enter Try.func24, Try.ntmps24
  go_wp2_with fail
  refine HC.out.mono ?_
  rintro e w' ⟨rfl, rfl⟩
  go_wp2_with fail
  go_ret
  exact ⟨rfl, rfl⟩

theorem on_any {w : World} {b : Nat} {X : Nat → Prop} {D : Dv} (h : DevAt w b X D) :
    Calls Try.prog 31 #[.pointer (some ⟨b, 0, none⟩)] w fun e w' => e = .returned (.bool (!D.off)) ∧ w = w' := by
  have HC := Lib.hid (isMade_any h)
  obtain ⟨m, vs, vc, hp, _⟩ := h.parts
  have h1 := hp.cells.2.2.2.2.2.2
  clear h hp
  go_enter Try.func31, Try.ntmps31
  go_wp2_with fail
  refine HC.out.mono ?_
  rintro e w' ⟨rfl, rfl⟩
  go_wp2_with fail
  go_ret
  exact ⟨rfl, rfl⟩
theorem on_none {w : World} {v : Value} (hc : Calls Try.prog 43 #[v] w fun e w' => e = .returned (.bool false) ∧ w = w') :
    Calls Try.prog 31 #[v] w fun e w' => e = .returned (.bool false) ∧ w = w' := by
  have HC := Lib.hid hc
  clear hc
  go_enter Try.func31, Try.ntmps31
  go_wp2_with fail
  refine HC.out.mono ?_
  rintro e w' ⟨rfl, rfl⟩
  go_wp2_with fail
  go_ret
  exact ⟨rfl, rfl⟩

theorem limit_any {w : World} {b : Nat} {X : Nat → Prop} {D : Dv} (h : DevAt w b X D) (n : Int) :
    Calls Try.prog 29 #[.pointer (some ⟨b, 0, none⟩), .int .i64 n] w fun e w' => e = .returned (.int .i64 (limitE n)) ∧ Step b X (limitD D n) w w' := by
  have HC := Lib.hid (isMade_any h)
  have H := Lib.hid h
  obtain ⟨m, vs, vc, hp, hX, _⟩ := h.parts
  have h5 := hp.cells.2.2.2.2.2.1
  have hf := hp.frozen 5
  have HP := Lib.hid (isPower_any)
  cases hq : isPw n with
  | true =>
    have HE : Hid (limitE n = 0) := Lib.hid (by unfold limitE; rw [hq]; rfl)
    have HF : Hid (Step b X (limitD D n) w (w.setCell ⟨b, 5, none⟩ (.int .i64 n))) := Lib.hid (by
      have e : limitD D n = { D with pw := n } := by unfold limitD; rw [hq]; rfl
      have ok := limitD_ok h.ok n
      rw [e] at ok ⊢
      exact Step.of h (fun m vs vc hp => hp.set5 n ok) (Kept.setCell (Kept.refl X w) ⟨b, 5, none⟩ hX _))
    have HQ := Lib.hid hq
    clear h hp hq
    go_enter Try.func29, Try.ntmps29
    go_wp2_with fail
    refine HC.out.mono ?_
    rintro e w' ⟨rfl, rfl⟩
    go_wp2_with fail
    refine (HP.out n w).mono ?_
    rintro e w' ⟨rfl, rfl⟩
    rw [HQ.out]
    go_wp2
    go_ret
    exact ⟨ret_int HE.out.symm, HF.out⟩
  | false =>
    have HE : Hid (limitE n = 7) := Lib.hid (by unfold limitE; rw [hq]; rfl)
    have HF : Hid (limitD D n = D) := Lib.hid (by unfold limitD; rw [hq]; rfl)
    have HQ := Lib.hid hq
    clear h hp hq
    go_enter Try.func29, Try.ntmps29
    go_wp2_with fail
    refine HC.out.mono ?_
    rintro e w' ⟨rfl, rfl⟩
    go_wp2_with fail
    refine (HP.out n w).mono ?_
    rintro e w' ⟨rfl, rfl⟩
    rw [HQ.out]
    go_wp2
    go_ret
    exact ⟨ret_int HE.out.symm, by rw [HF.out]; exact Step.refl H.out⟩
theorem limit_none {w : World} {v : Value} (n : Int) (hc : Calls Try.prog 43 #[v] w fun e w' => e = .returned (.bool false) ∧ w = w') :
    Calls Try.prog 29 #[v, .int .i64 n] w fun e w' => e = .returned (.int .i64 1) ∧ w = w' := by
  have HC := Lib.hid hc
  clear hc
  go_enter Try.func29, Try.ntmps29
  go_wp2_with fail
  refine HC.out.mono ?_
  rintro e w' ⟨rfl, rfl⟩
  go_wp2_with fail
  go_ret
  exact ⟨rfl, rfl⟩
end Go.Proofs.Ytpboknepfjeljaa
