/- The law's same: a map has the bits of a list. -/
import Derived.Test.YtaiaibpcpcndgaaRBytes
import Derived.Deep.RegionWith
namespace Go.Proofs.Ytaiaibpcpcndgaa
open Go.RowKit

/-- A callee that only computes, in a region whose order is drawn. -/
theorem calm {P : Program} {f : FuncId} {args : Array Value} {w : World} {n : Nat} {v : Value} (h : ∀ W, W = w.drewN n → Calls P f args W fun e w' => e = .returned v ∧ W = w') :
    Calls P f args (w.drewN n) fun e w'' => e = .returned v ∧ ∃ m, w'' = w.drewN m :=
  (h _ rfl).mono fun _ _ ⟨he, hm⟩ => ⟨he, n, hm.symm⟩

theorem bytesL_inj {M L : List Bool} (h : M.length = L.length) : (bytesL M == bytesL L) = (M == L) := by
  rw [Bool.eq_iff_iff, beq_iff_eq, beq_iff_eq]
  constructor
  · intro e
    have := bits_back M
    rw [e, h, bits_back L] at this
    exact this.symm
  · rintro rfl; rfl

theorem same_nil (v : Value) (w : World) :
    Calls Try.prog 14 #[.pointer none, v] w fun e w' => e = .returned (.bool false) ∧ Below w.heap.size w w' := by
  go_enter Try.func14, Try.ntmps14
  go_wp2
  go_quiet (fail)
  go_wp2
  go_ret
  exact ⟨rfl, ⟨rfl, rfl, rfl, Nat.le_refl _, fun _ _ => rfl⟩⟩

set_option maxHeartbeats 1000000 in
theorem same_any (b : Nat) (M L : List Bool) (v : Value) (w : World) (hm : MapAt w b M) (hv : BoolsAt w v L) (hL : L.length ≤ 4096) :
    Calls Try.prog 14 #[.pointer (some ⟨b, 0, none⟩), v] w fun e w' => e = .returned (.bool (M == L)) ∧ Below w.heap.size w w' := by
  have HB := Lib.hid (fun w (h : MapAt w b M) => bytes_any b M w h)
  have HR := Lib.hid (fun w (h : BoolsAt w v L) => refBytes_any v L w h hL)
  have HN := Lib.hid (fun w (h : MapAt w b M) => len_any b M w h)
  have HM := Lib.hid hm
  have HV := Lib.hid hv
  obtain ⟨s, d, rfl⟩ := hv.val
  have hM := hm.2
  have hblt := hm.lt
  clear hm hv
  by_cases hl : M.length = L.length
  · have HI := Lib.hid (bytesL_inj hl)
    have hle : ((M.length : Int) == L.length) = true := by simp; omega
    have HL := Lib.hid hl
    clear hl
    go_enter Try.func14, Try.ntmps14
    go_wp2
    go_region_with ((first
      | (go_at_call 19; refine (HN.out _ (by exact HM.out)).mono ?_; rintro e w1 ⟨rfl, rfl⟩)
      | (go_at_call 20; refine (HB.out _ (by exact HM.out)).mono ?_; rintro e w2 ⟨v2, rfl, -, hv2, hB2⟩; have hcv2 := hv2.conv; have hV2 := Lib.hid (BoolsAt.below (A := w.drew) (by exact HV.out) hB2))
      | (go_at_call 28; refine (HR.out _ (by exact hV2.out)).mono ?_; rintro e w3 ⟨v3, rfl, -, hv3, hB3⟩; have hcv3 := hv3.conv; have hcv4 := (hv2.below hB3).conv)))
    all_goals go_wp2
    all_goals go_ret
    all_goals exact ⟨ret_bool (by rw [← HI.out] <;> simp), ((Below.refl _ w).drew.trans hB2).trans (hB3.mono hB2.size)⟩
  · have hle : ((M.length : Int) == L.length) = false := by rw [beq_eq_false_iff_ne]; omega
    have HI : Hid ((M == L) = false) := Lib.hid (by rw [beq_eq_false_iff_ne]; rintro rfl; exact hl rfl)
    clear hl
    go_enter Try.func14, Try.ntmps14
    go_wp2
    go_quiet ((go_at_call 19; exact calm (fun W hW => HN.out W (by rw [hW]; exact HM.out))))
    go_wp2
    go_ret
    exact ⟨ret_bool HI.out.symm, ⟨rfl, rfl, rfl, Nat.le_refl _, fun _ _ => rfl⟩⟩
end Go.Proofs.Ytaiaibpcpcndgaa
