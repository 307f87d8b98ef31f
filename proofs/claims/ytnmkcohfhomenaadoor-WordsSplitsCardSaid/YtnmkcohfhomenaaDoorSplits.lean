/- WordsSplits: the walk. -/
import Derived.Test.YtnmkcohfhomenaaDoorRSplit
import Derived.Test.YtnmkcohfhomenaaDoorShown
namespace Go.Proofs.YtnmkcohfhomenaaDoor
open Go.RowKit

theorem splitR_any (s : ByteArray) (w : World) (hm : s.size ≤ maxLen) :
    Calls Tryd.prog 24 #[.string s] w (SpTo s.data.toList w) := by
  unfold maxLen at hm
  by_cases h0 : 0 < s.size
  · by_cases hs : s.size ≤ 8192
    · exact splitR_some s w h0 hs
    · have hN : splitN s.data.toList = 3 := by unfold splitN; rw [if_pos (by rw [size_len]; omega)]
      have HF := Lib.hid (fun w' (hb : Below w.heap.size w w') => spTo_err (w := w) (w' := w') hN (by decide) hb)
      have hgt : 8192 < s.size := by omega
      clear hN hs
      go_enter Tryd.func24, Tryd.ntmps24
      go_wp2_with fail
      go_ret2
      exact HF.out _ (Below.refl _ _)
  · have he := empty_of s h0
    subst he
    have HF := Lib.hid (fun w' (hb : Below w.heap.size w w') => (show SpTo [] w (.returned (.tuple #[.slice none 0 0, .int .i64 0])) w' from ⟨_, rfl, World.ownsRow_nil _ _ _ _, hb⟩))
    go_enter Tryd.func24, Tryd.ntmps24
    go_wp2_with fail
    go_ret2
    exact HF.out _ (Below.refl _ _)

set_option maxHeartbeats 1000000 in
set_option maxRecDepth 100000 in
theorem wordsSplits_any (s : ByteArray) (w : World) (hE : EnvD w) (hm : s.size ≤ maxLen) :
    Calls Tryd.prog 5 #[.string s] w fun e w' => e = .returned (.bool true) ∧ Below w.heap.size w w' := by
  have h9 := hE.env.nine
  have hm' := hm
  unfold maxLen at hm'
  by_cases hs : (3000 < s.size ∧ s.size ≤ 8192) ∨ 9000 < s.size
  · have H1 := Lib.hid (shown_any w hE)
    clear hE
    have hs' : (3000 < s.size ∧ s.size ≤ 8192) ∨ (8192 < s.size ∧ 9000 < s.size) := by omega
    rcases hs' with ⟨h1, h2⟩ | ⟨h1, h2⟩
    · have d1 : decide (3000 < s.size) = true := decide_eq_true h1
      have d2 : decide (s.size ≤ 8192) = true := decide_eq_true h2
      go_enter Tryd.func5, Tryd.ntmps5
      go_wp2_with fail
      refine H1.out.mono ?_
      rintro e w1 ⟨rfl, hB1⟩
      go_wp2_with fail
      go_ret
      exact ⟨rfl, hB1⟩
    · have d1 : decide (3000 < s.size) = true := decide_eq_true (by omega)
      have d2 : decide (s.size ≤ 8192) = false := decide_eq_false (by omega)
      have d3 : decide (9000 < s.size) = true := decide_eq_true h2
      go_enter Tryd.func5, Tryd.ntmps5
      go_wp2_with fail
      refine H1.out.mono ?_
      rintro e w1 ⟨rfl, hB1⟩
      go_wp2_with fail
      go_ret
      exact ⟨rfl, hB1⟩
  · have H1 := Lib.hid (split_any s w hE.env hm)
    have H2 := Lib.hid (fun w => splitR_any s w hm)
    have HE := Lib.hid hE
    have hlen : (splitF s.data.toList).length ≤ 8193 := by
      unfold splitF
      split
      · rename_i h
        have h1 := seqOf_len s.data.toList
        have h2 : s.data.toList.length ≤ 8192 := by
          unfold splitN at h
          split at h
          · cases h
          · omega
        omega
      · simp
    clear hE
    have hs' : s.size ≤ 3000 ∨ (8192 < s.size ∧ s.size ≤ 9000) := by omega
    clear hs
    rcases hs' with h1 | ⟨h1, h2⟩
    · have d1 : decide (3000 < s.size) = false := decide_eq_false (by omega)
      have d3 : decide (9000 < s.size) = false := decide_eq_false (by omega)
      go_enter Tryd.func5, Tryd.ntmps5
      go_wp2_with fail
      refine H1.out.mono ?_
      rintro e w1 ⟨v1, rfl, hr1, hB1⟩
      have hE1 := Lib.hid (HE.out.below hB1 h9)
      have hn1 := hE1.out.env.nine
      have HR1 := Lib.hid hr1
      clear hr1
      go_wp2_with fail
      refine (H2.out _).mono ?_
      rintro e w2 ⟨v2, rfl, hr2, hB2⟩
      have hE2 := Lib.hid (hE1.out.below hB2 hn1)
      have hs1 := hB1.size
      have hs2 := hB2.size
      have HS := Lib.hid (same_any v1 v2 ((splitF s.data.toList).map fldP) w2 (fieldsAt_of_row (ownsRow_below HR1.out hB2)) (fieldsAt_of_row hr2) (by rw [List.length_map]; omega))
      clear hr2
      generalize splitN s.data.toList = z at *
      go_wp2_with fail
      refine HS.out.mono ?_
      rintro e w3 ⟨rfl, hB3⟩
      have hE3 := Lib.hid (hE2.out.below hB3 (by omega))
      go_wp2_with fail
      refine (shown_any w3 hE3.out).mono ?_
      rintro e w4 ⟨rfl, hB4⟩
      go_wp2_with fail
      go_ret
      have s3 := hB3.size
      exact ⟨rfl, hB1.trans ((hB2.mono hs1).trans ((hB3.mono (by omega)).trans (hB4.mono (by omega))))⟩
    · have d1 : decide (3000 < s.size) = true := decide_eq_true (by omega)
      have d2 : decide (s.size ≤ 8192) = false := decide_eq_false (by omega)
      have d3 : decide (9000 < s.size) = false := decide_eq_false (by omega)
      go_enter Tryd.func5, Tryd.ntmps5
      go_wp2_with fail
      refine H1.out.mono ?_
      rintro e w1 ⟨v1, rfl, hr1, hB1⟩
      have hE1 := Lib.hid (HE.out.below hB1 h9)
      have hn1 := hE1.out.env.nine
      have HR1 := Lib.hid hr1
      clear hr1
      go_wp2_with fail
      refine (H2.out _).mono ?_
      rintro e w2 ⟨v2, rfl, hr2, hB2⟩
      have hE2 := Lib.hid (hE1.out.below hB2 hn1)
      have hs1 := hB1.size
      have hs2 := hB2.size
      have HS := Lib.hid (same_any v1 v2 ((splitF s.data.toList).map fldP) w2 (fieldsAt_of_row (ownsRow_below HR1.out hB2)) (fieldsAt_of_row hr2) (by rw [List.length_map]; omega))
      clear hr2
      generalize splitN s.data.toList = z at *
      go_wp2_with fail
      refine HS.out.mono ?_
      rintro e w3 ⟨rfl, hB3⟩
      have hE3 := Lib.hid (hE2.out.below hB3 (by omega))
      go_wp2_with fail
      refine (shown_any w3 hE3.out).mono ?_
      rintro e w4 ⟨rfl, hB4⟩
      go_wp2_with fail
      go_ret
      have s3 := hB3.size
      exact ⟨rfl, hB1.trans ((hB2.mono hs1).trans ((hB3.mono (by omega)).trans (hB4.mono (by omega))))⟩
end Go.Proofs.YtnmkcohfhomenaaDoor
