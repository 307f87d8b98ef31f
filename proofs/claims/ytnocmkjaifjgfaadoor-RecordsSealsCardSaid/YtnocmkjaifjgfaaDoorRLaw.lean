/- Whole; what the laws compare with: Same of bytes, of values; far. -/
import Derived.Test.YtnocmkjaifjgfaaDoorRDecE
namespace Go.Proofs.YtnocmkjaifjgfaaDoor.R
open Go.RowKit

set_option maxHeartbeats 1000000 in
theorem whole_any (s : ByteArray) (v : Value) (b : List UInt8) (w : World) (hs : s.size ≤ maxLen) (hv : ∃ a d, v = .slice a b.length d ∧ b.length ≤ d) (hb : BytesAt w v b) (hl : b.length ≤ maxLen) :
    Calls Tryd.prog 18 #[.string s, v] w fun e w' => ∃ u, e = .returned (.tuple #[u, .int .i64 (wholeE s.data.toList b : Nat)]) ∧ ValsAt w' u (wholeL s.data.toList b) ∧ Below w.heap.size w w' := by
  have HD := Lib.hid (decode_any s v b w hs hv hb hl)
  obtain ⟨a, d, rfl, hd⟩ := hv
  unfold maxLen at hl
  have HE := Lib.hid (show wholeE s.data.toList b = if (decR s.data.toList b).2.2 ≠ 0 then (decR s.data.toList b).2.2 else if (decR s.data.toList b).2.1 < b.length then 6 else 0 from rfl)
  have HL := Lib.hid (show wholeL s.data.toList b = if wholeE s.data.toList b = 0 then (decR s.data.toList b).1 else [] from rfl)
  generalize wholeE s.data.toList b = z at *
  generalize wholeL s.data.toList b = zl at *
  generalize decR s.data.toList b = r at *
  obtain ⟨rl, rn, re⟩ := r
  simp only [] at HD HE HL
  clear hb hs hd
  go_enter Tryd.func18, Tryd.ntmps18
  go_wp2_with fail
  refine HD.out.mono ?_
  rintro e w2 ⟨u, rfl, hu, hB⟩
  have HU := Lib.hid hu
  have HB := Lib.hid hB
  clear hu hB
  by_cases h0 : re = 0
  · subst h0
    by_cases h1 : rn < b.length
    · have d1 : decide (rn < b.length) = true := decide_eq_true (by omega)
      have HZ := Lib.hid (show z = 6 by rw [HE.out, if_neg (by simp), if_pos h1])
      clear h1
      go_wp2_with fail
      go_ret2
      exact ⟨_, by rw [HZ.out]; rfl, by rw [HL.out, HZ.out]; exact .inl ⟨_, _, rfl, rfl⟩, HB.out⟩
    · have d1 : decide (rn < b.length) = false := decide_eq_false (by omega)
      have HZ := Lib.hid (show z = 0 by rw [HE.out, if_neg (by simp), if_neg h1])
      clear h1
      go_wp2_with fail
      go_ret2
      exact ⟨_, by rw [HZ.out]; rfl, by rw [HL.out, HZ.out]; exact HU.out, HB.out⟩
  · have hz : ((re : Int) == 0) = false := by simp; omega
    have HZ := Lib.hid (show z = re by rw [HE.out, if_pos h0])
    have HN := Lib.hid h0
    clear h0
    go_wp2_with fail
    go_ret2
    exact ⟨_, by rw [HZ.out]; rfl, by rw [HL.out, HZ.out, if_neg HN.out]; exact .inl ⟨_, _, rfl, rfl⟩, HB.out⟩

set_option maxHeartbeats 400000 in
theorem sameK_any (u v : Value) (l : List UInt8) (w : World) (hu : BytesAt w u l) (hv : BytesAt w v l) (hl : l.length ≤ maxLen) :
    Calls Tryd.prog 25 #[u, v] w fun e w' => e = .returned (.bool true) ∧ Below w.heap.size w w' := by
  unfold maxLen at hl
  obtain ⟨s, d, rfl⟩ := hu.shape
  obtain ⟨s', d', rfl⟩ := hv.shape
  have HU := Lib.hid hu
  have HV := Lib.hid hv
  clear hu hv
  go_enter Tryd.func25, Tryd.ntmps25
  go_wp2_with fail
  go_loopw [5] (fun i wr => ∃ j : Nat, j ≤ l.length ∧ i = .int .i64 j ∧ Hid (Below w.heap.size w wr)) (fun i _ => l.length - (intOf i).toNat)
  case atStart => exact ⟨0, by omega, rfl, Lib.hid (Below.refl _ _)⟩
  case round =>
    obtain ⟨j, hj, rfl, hB⟩ := hrel
    by_cases hlt : j < l.length
    · rcases HU.out.below hB.out (Nat.le_refl _) with ⟨a, c, hva, hl0⟩ | ⟨g, i, c, hva, hg, hcs⟩
      · subst hl0; simp at hlt
      rcases HV.out.below hB.out (Nat.le_refl _) with ⟨a, c', hvb, hl0⟩ | ⟨g', i', c', hvb, hg', hcs'⟩
      · subst hl0; simp at hlt
      cases hva
      cases hvb
      have h1 := hcs j hlt
      have h2 := hcs' j hlt
      clear hcs hcs'
      go_wp2_with fail
      go_quiet (fail)
      go_wp2_with fail
      go_roundw
      case rel => exact ⟨j + 1, by omega, by go_num, Lib.hid (hB.out.trans ⟨rfl, rfl, rfl, Nat.le_refl _, fun _ _ => rfl⟩)⟩
      case measure => simp [intOf]; omega
    · obtain rfl : j = l.length := by omega
      go_wp2_with fail
      go_ret
      exact ⟨rfl, hB.out⟩
theorem same_any (u v : Value) (l : List UInt8) (w : World) (hu : BytesAt w u l) (hv : BytesAt w v l) (hl : l.length ≤ maxLen) :
    Calls Tryd.prog 13 #[u, v] w fun e w' => e = .returned (.bool true) ∧ Below w.heap.size w w' := by
  have HX := Lib.hid (sameK_any u v l w hu hv hl)
  clear hu hv hl
  go_enter Tryd.func13, Tryd.ntmps13
  go_wp2_with fail
  refine HX.out.mono ?_
  rintro e w2 ⟨rfl, hB⟩
  go_wp2_with fail
  go_ret
  exact ⟨rfl, hB⟩
end Go.Proofs.YtnocmkjaifjgfaaDoor.R
