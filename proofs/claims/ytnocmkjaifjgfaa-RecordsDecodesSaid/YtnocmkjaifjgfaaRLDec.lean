/- The reference's Whole; the law RecordsDecodes: the walk. -/
import Derived.Test.YtnocmkjaifjgfaaRRefJ
import Derived.Test.YtnocmkjaifjgfaaRShown
import Derived.Test.YtnocmkjaifjgfaaRSameV
namespace Go.Proofs.Ytnocmkjaifjgfaa.R
open Go.RowKit

set_option maxHeartbeats 1000000 in
theorem refWhole_any (s : ByteArray) (v : Value) (b : List UInt8) (w : World) (hs : s.size ≤ maxLen) (hv : ∃ a d, v = .slice a b.length d ∧ b.length ≤ d) (hb : BytesAt w v b) (hl : b.length ≤ maxLen) :
    Calls Try.prog 18 #[.string s, v] w fun e w' => ∃ u, e = .returned (.tuple #[u, .int .i64 (wholeE s.data.toList b : Nat)]) ∧ ValsAt w' u (wholeL s.data.toList b) ∧ Below w.heap.size w w' := by
  have HD := Lib.hid (refDecode_any s v b w hs hv hb hl)
  obtain ⟨a, d, rfl, hd⟩ := hv
  unfold maxLen at hl
  have HE := Lib.hid (show wholeE s.data.toList b = if (decR s.data.toList b).2.2 ≠ 0 then (decR s.data.toList b).2.2 else if (decR s.data.toList b).2.1 < b.length then 6 else 0 from rfl)
  have HL := Lib.hid (show wholeL s.data.toList b = if wholeE s.data.toList b = 0 then (decR s.data.toList b).1 else [] from rfl)
  generalize wholeE s.data.toList b = z at *
  generalize wholeL s.data.toList b = zl at *
  generalize decR s.data.toList b = r at *
  obtain ⟨rl, rn, re⟩ := r
  simp only [] at HD HE HL
  clear hb hs hd
  go_enter Try.func18, Try.ntmps18
  go_wp2_with fail
  refine HD.out.mono ?_
  rintro e w2 ⟨u, rfl, hu, hB⟩
  have HU := Lib.hid hu
  have HB := Lib.hid hB
  clear hu hB
  by_cases h0 : re = 0
  · subst h0
    by_cases h1 : rn < b.length
    · have d1 : decide (rn < b.length) = true := decide_eq_true (by omega)
      have HZ := Lib.hid (show z = 6 by rw [HE.out, if_neg (by simp), if_pos h1])
      clear h1
      go_wp2_with fail
      go_ret2
      exact ⟨_, by rw [HZ.out]; rfl, by rw [HL.out, HZ.out]; exact .inl ⟨_, _, rfl, rfl⟩, HB.out⟩
    · have d1 : decide (rn < b.length) = false := decide_eq_false (by omega)
      have HZ := Lib.hid (show z = 0 by rw [HE.out, if_neg (by simp), if_neg h1])
      clear h1
      go_wp2_with fail
      go_ret2
      exact ⟨_, by rw [HZ.out]; rfl, by rw [HL.out, HZ.out]; exact HU.out, HB.out⟩
  · have hz : ((re : Int) == 0) = false := by simp; omega
    have HZ := Lib.hid (show z = re by rw [HE.out, if_pos h0])
    have HN := Lib.hid h0
    clear h0
    go_wp2_with fail
    go_ret2
    exact ⟨_, by rw [HZ.out]; rfl, by rw [HL.out, HZ.out, if_neg HN.out]; exact .inl ⟨_, _, rfl, rfl⟩, HB.out⟩


theorem oneD_small (c : Nat) (b : List UInt8) : (oneD c b).1.list.length ≤ 60 := by
  unfold oneD
  split
  · split
    · simp [Rv.zero]
    · simp
  · split
    · simp [Rv.zero]
    · split
      · simp
      · split
        · split
          · simp [Rv.zero]
          · split
            · simp [Rv.zero]
            · simp
        · split
          · simp [Rv.zero]
          · split
            · simp [Rv.zero]
            · simp [numsL_len]; omega
theorem decV_small : ∀ (s b : List UInt8), (decV s b).1.length ≤ s.length ∧ ∀ v ∈ (decV s b).1, v.list.length ≤ 60
  | [], b => by simp [decV]
  | c :: s, b => by
    have h1 := oneD_small c.toNat b
    obtain ⟨i1, i2⟩ := decV_small s (b.drop (oneD c.toNat b).2.1)
    simp only [decV]
    split
    · simp
    · unfold combD
      split
      · simp
      · refine ⟨by simp; omega, fun v hv => ?_⟩
        simp at hv
        rcases hv with rfl | hv
        · exact h1
        · exact i2 v hv
theorem decR_small (s b : List UInt8) : (decR s b).1.length ≤ s.length ∧ ∀ v ∈ (decR s b).1, v.list.length ≤ 60 := by
  have h := decV_small s b
  unfold decR
  split
  · simp
  · split
    · simp
    · split
      · simp
      · exact h
theorem wholeL_small (s b : List UInt8) : (wholeL s b).length ≤ s.length ∧ ∀ v ∈ (wholeL s b), v.list.length ≤ 60 := by
  have h := decR_small s b
  unfold wholeL
  split
  · exact h
  · simp

set_option maxHeartbeats 4000000 in
set_option maxRecDepth 100000 in
theorem recordsDecodes_any (s : ByteArray) (a : Option Addr) (d : Nat) (b : List UInt8) (w : World) (hs : s.size ≤ maxLen) (hd : b.length ≤ d) (hb : BytesAt w (.slice a b.length d) b) (hl : b.length ≤ maxLen) :
    Calls Try.prog 4 #[.string s, .slice a b.length d] w fun e w' => e = .returned (.bool true) ∧ Below w.heap.size w w' := by
  have HSW := Lib.hid (show ∀ W, Below w.heap.size w W → Calls Try.prog 9 #[] W fun e w' => e = .returned (.bool true) ∧ Below w.heap.size w w' from fun W hW => (shown_any W).mono fun e w' ⟨h1, h2⟩ => ⟨h1, hW.trans (h2.mono hW.size)⟩)
  have HDE := Lib.hid (decode_any s _ b w hs ⟨a, d, rfl, hd⟩ hb hl)
  have HDR := Lib.hid (fun W (hW : Below w.heap.size w W) => refDecode_any s _ b W hs ⟨a, d, rfl, hd⟩ (hb.below hW (Nat.le_refl _)) hl)
  have HWH := Lib.hid (fun W (hW : Below w.heap.size w W) => whole_any s _ b W hs ⟨a, d, rfl, hd⟩ (hb.below hW (Nat.le_refl _)) hl)
  have HWR := Lib.hid (fun W (hW : Below w.heap.size w W) => refWhole_any s _ b W hs ⟨a, d, rfl, hd⟩ (hb.below hW (Nat.le_refl _)) hl)
  have HR := Lib.hid (Below.refl w.heap.size w)
  have h1 := decR_small s.data.toList b
  have h2 := wholeL_small s.data.toList b
  have HS := size_data s
  have hs' := hs
  unfold maxLen at hs'
  have HSV1 := Lib.hid (fun (W : World) (u v : Value) (hu : ValsAt W u (decR s.data.toList b).1) (hv : ValsAt W v (decR s.data.toList b).1) => sameV_any u v _ W hu hv (by unfold maxLen; omega) (fun x hx => by have := h1.2 x hx; unfold maxLen; omega))
  have HSV2 := Lib.hid (fun (W : World) (u v : Value) (hu : ValsAt W u (wholeL s.data.toList b)) (hv : ValsAt W v (wholeL s.data.toList b)) => sameV_any u v _ W hu hv (by unfold maxLen; omega) (fun x hx => by have := h2.2 x hx; unfold maxLen; omega))
  clear h1 h2 HS hs hb
  unfold maxLen at hl
  generalize decR s.data.toList b = r at *
  obtain ⟨rl, rn, re⟩ := r
  generalize wholeL s.data.toList b = wl at *
  generalize wholeE s.data.toList b = we at *
  simp only [] at HDE HDR HSV1
  by_cases h1 : 70 < s.size
  · have d1 : decide ((70 : Int) < s.size) = true := decide_eq_true (by omega)
    clear h1
    go_enter Try.func4, Try.ntmps4
    go_wp2_with fail
    refine (HSW.out _ HR.out).mono ?_
    rintro e w2 ⟨rfl, hB⟩
    go_wp2_with fail
    go_ret
    exact ⟨rfl, hB⟩
  have d1 : decide ((70 : Int) < s.size) = false := decide_eq_false (by omega)
  clear h1
  by_cases h2 : 6000 < b.length
  · have d2 : decide ((6000 : Int) < b.length) = true := decide_eq_true (by omega)
    clear h2
    go_enter Try.func4, Try.ntmps4
    go_wp2_with fail
    refine (HSW.out _ HR.out).mono ?_
    rintro e w2 ⟨rfl, hB⟩
    go_wp2_with fail
    go_ret
    exact ⟨rfl, hB⟩
  have d2 : decide ((6000 : Int) < b.length) = false := decide_eq_false (by omega)
  clear h2
  go_enter Try.func4, Try.ntmps4
  go_wp2_with fail
  refine HDE.out.mono ?_
  rintro e w2 ⟨u1, rfl, hu1, hB2⟩
  have HB2 := Lib.hid hB2
  have HU1 := Lib.hid hu1
  have HX2 := Lib.hid (HDR.out w2 HB2.out)
  clear hu1 hB2 HDE
  go_wp2_with fail
  refine HX2.out.mono ?_
  rintro e w3 ⟨u2, rfl, hu2, hB3⟩
  have HB3 := Lib.hid (HB2.out.trans (hB3.mono HB2.out.size))
  have HU1' := Lib.hid (HU1.out.below hB3 (Nat.le_refl _))
  have HU2 := Lib.hid hu2
  have HX3 := Lib.hid (HWH.out w3 HB3.out)
  clear hu2 hB3 HX2 HU1
  go_wp2_with fail
  refine HX3.out.mono ?_
  rintro e w4 ⟨u3, rfl, hu3, hB4⟩
  have HB4 := Lib.hid (HB3.out.trans (hB4.mono HB3.out.size))
  have HU1 := Lib.hid (HU1'.out.below hB4 (Nat.le_refl _))
  have HU2' := Lib.hid (HU2.out.below hB4 (Nat.le_refl _))
  have HU3 := Lib.hid hu3
  have HX4 := Lib.hid (HWR.out w4 HB4.out)
  clear hu3 hB4 HX3 HU1' HU2
  go_wp2_with fail
  refine HX4.out.mono ?_
  rintro e w5 ⟨u4, rfl, hu4, hB5⟩
  have HB5 := Lib.hid (HB4.out.trans (hB5.mono HB4.out.size))
  have HX5 := Lib.hid (HSV1.out w5 u1 u2 (HU1.out.below hB5 (Nat.le_refl _)) (HU2'.out.below hB5 (Nat.le_refl _)))
  have HU3' := Lib.hid (HU3.out.below hB5 (Nat.le_refl _))
  have HU4 := Lib.hid hu4
  clear hu4 hB5 HX4 HU3 HU1 HU2'
  go_wp2_with fail
  refine HX5.out.mono ?_
  rintro e w6 ⟨rfl, hB6⟩
  have HB6 := Lib.hid (HB5.out.trans (hB6.mono HB5.out.size))
  have HX6 := Lib.hid (HSV2.out w6 u3 u4 (HU3'.out.below hB6 (Nat.le_refl _)) (HU4.out.below hB6 (Nat.le_refl _)))
  clear hB6 HX5 HU3' HU4
  go_wp2_with fail
  refine HX6.out.mono ?_
  rintro e w7 ⟨rfl, hB7⟩
  have HB7 := Lib.hid (HB6.out.trans (hB7.mono HB6.out.size))
  clear hB7 HX6
  go_wp2_with fail
  refine (HSW.out _ HB7.out).mono ?_
  rintro e w8 ⟨rfl, hB8⟩
  go_wp2_with fail
  go_ret
  exact ⟨rfl, hB8⟩
end Go.Proofs.Ytnocmkjaifjgfaa.R
