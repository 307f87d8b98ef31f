/- Join, Move, Parent. -/
import Derived.Test.YtbgfeonlnhlbfaaPub
namespace Go.Proofs.Ytbgfeonlnhlbfaa
open Go.RowKit

/-! ### Join -/
def JoinE (ps : List ByteArray) (s : ByteArray) : Int := if checkE (bsL ps) = 0 then (if nameE s.data.toList = 0 then concE ps [s] else nameE s.data.toList) else checkE (bsL ps)
def JoinP (ps : List ByteArray) (s : ByteArray) : List ByteArray := if checkE (bsL ps) = 0 ∧ nameE s.data.toList = 0 then concP ps [s] else []

theorem strs1 (s : ByteArray) (w : World) : StrsAt (w.alloc (.cells #[.string s] 9)) (.slice (some ⟨w.heap.size, 0, none⟩) 1 1) [s] := by
  refine .inr ⟨w.heap.size, 0, 1, rfl, by simp, by simp, fun k hk => ?_⟩
  rw [Lib.cell_of_heap (World.alloc_heap_new w _)]
  match k, hk with
  | 0, _ => rfl

set_option maxHeartbeats 2000000 in
set_option maxRecDepth 100000 in
theorem Join_any (v1 : Value) (ps : List ByteArray) (s : ByteArray) (w : World) (h1 : StrsAt w v1 ps) (m1 : Modest ps) (hs : s.size ≤ maxLen) :
    Calls Try.prog 30 #[v1, .string s] w fun e w' => ∃ v, e = .returned (.tuple #[v, .int .i64 (JoinE ps s)]) ∧ StrsAt w' v (JoinP ps s) ∧ Below w.heap.size w w' := by
  have HC := Lib.hid (check_any v1 ps w h1 m1)
  have H1 := Lib.hid h1
  obtain ⟨a1, c1, rfl⟩ := h1.shape
  clear h1 m1
  by_cases h0 : checkE (bsL ps) = 0
  · by_cases hn : nameE s.data.toList = 0
    · have HE := Lib.hid (show JoinE ps s = concE ps [s] by unfold JoinE; rw [if_pos h0, if_pos hn])
      have HP := Lib.hid (show JoinP ps s = concP ps [s] by unfold JoinP; rw [if_pos ⟨h0, hn⟩])
      have HS := Lib.hid (checked_small h0)
      have HN := Lib.hid (fun w => name_any s w hs)
      have HS2 : Hid (Small [s]) := Lib.hid ⟨by simp, fun t ht => by rw [List.mem_singleton.1 ht]; have := (nameE_ok hn).2.1; rw [size_len] at this; omega⟩
      rw [HE.out, HP.out]
      rw [h0] at HC
      rw [hn] at HN
      clear h0 hn
      go_enter Try.func30, Try.ntmps30
      go_wp2_with fail
      refine HC.out.mono ?_
      rintro e w1 ⟨rfl, hb1⟩
      have hs1 := hb1.size
      go_wp2_with fail
      refine (HN.out w1).mono ?_
      rintro e w2 ⟨rfl, rfl⟩
      go_wp2_with fail
      refine (concat_any _ _ ps [s] _ ((H1.out.below hb1).below ((Below.refl _ w1).alloc (Nat.le_refl _) _)) (strs1 s w1) HS.out HS2.out).mono ?_
      rintro e w3 ⟨v, rfl, hv, hb3⟩
      have HV := Lib.hid hv
      obtain ⟨a', c', rfl⟩ := HV.out.shape
      have hbb : Below w.heap.size w w3 := (hb1.alloc hs1 _).trans (hb3.mono (by simp; omega))
      clear hv
      go_wp2_with fail
      go_ret2
      exact ⟨.slice a' (concP ps [s]).length c', rfl, HV.out, hbb⟩
    · have HE := Lib.hid (show JoinE ps s = nameE s.data.toList by unfold JoinE; rw [if_pos h0, if_neg hn])
      have HP := Lib.hid (show JoinP ps s = [] by unfold JoinP; rw [if_neg (fun h => hn h.2)])
      have HN := Lib.hid (fun w => name_any s w hs)
      rw [HE.out, HP.out]
      rw [h0] at HC
      obtain ⟨z, hz⟩ : ∃ z, z = nameE s.data.toList := ⟨_, rfl⟩
      rw [← hz] at HN hn ⊢
      have hz' : (z != 0) = true := by simpa using hn
      clear h0 hz
      go_enter Try.func30, Try.ntmps30
      go_wp2_with fail
      refine HC.out.mono ?_
      rintro e w1 ⟨rfl, hb1⟩
      go_wp2_with fail
      refine (HN.out w1).mono ?_
      rintro e w2 ⟨rfl, rfl⟩
      go_wp2_with fail
      go_ret2
      exact ⟨.slice none 0 0, rfl, .inl ⟨_, _, rfl, rfl⟩, hb1⟩
  · have HE := Lib.hid (show JoinE ps s = checkE (bsL ps) by unfold JoinE; rw [if_neg h0])
    have HP := Lib.hid (show JoinP ps s = [] by unfold JoinP; rw [if_neg (fun h => h0 h.1)])
    rw [HE.out, HP.out]
    obtain ⟨z, hz⟩ : ∃ z, z = checkE (bsL ps) := ⟨_, rfl⟩
    rw [← hz] at HC h0 ⊢
    have hz' : (z != 0) = true := by simpa using h0
    clear hz
    go_enter Try.func30, Try.ntmps30
    go_wp2_with fail
    refine HC.out.mono ?_
    rintro e w1 ⟨rfl, hb1⟩
    go_wp2_with fail
    go_ret2
    exact ⟨.slice none 0 0, rfl, .inl ⟨_, _, rfl, rfl⟩, hb1⟩

/-! ### Move -/
def threeE (ps fs ts : List ByteArray) : Int := checksE (bsP [ps, fs, ts])
theorem threeE_zero {ps fs ts : List ByteArray} : threeE ps fs ts = 0 ↔ checkE (bsL ps) = 0 ∧ checkE (bsL fs) = 0 ∧ checkE (bsL ts) = 0 := by
  unfold threeE; simp only [bsP, List.map_cons, List.map_nil, checksE]
  by_cases h1 : checkE (bsL ps) = 0
  · by_cases h2 : checkE (bsL fs) = 0
    · by_cases h3 : checkE (bsL ts) = 0
      · simp [h1, h2, h3]
      · simp [h1, h2, h3]
    · simp [h1, h2]
  · simp [h1]
def MoveE (ps fs ts : List ByteArray) : Int := if threeE ps fs ts = 0 then (if underB ps fs = true then concE ts (ps.drop fs.length) else 4) else threeE ps fs ts
def MoveP (ps fs ts : List ByteArray) : List ByteArray := if threeE ps fs ts = 0 ∧ underB ps fs = true then concP ts (ps.drop fs.length) else []
theorem threeCheck {w : World} {v1 v2 v3 : Value} {ps qs rs : List ByteArray} (h1 : StrsAt w v1 ps) (h2 : StrsAt w v2 qs) (h3 : StrsAt w v3 rs) (m1 : Modest ps) (m2 : Modest qs) (m3 : Modest rs) :
    Calls Try.prog 46 #[.slice (some ⟨w.heap.size, 0, none⟩) 3 3] (w.alloc (.cells #[v1, v2, v3] 22)) fun e w' => e = .returned (.int .i64 (threeE ps qs rs)) ∧ Below w.heap.size w w' :=
  (checkAll_any _ [ps, qs, rs] _ (paths3 h1 h2 h3) (by intro p hp; simp at hp; rcases hp with rfl | rfl | rfl <;> assumption) (by simp)).mono fun e w' ⟨he, hb⟩ =>
    ⟨he, ((Below.refl _ w).alloc (Nat.le_refl _) _).trans (hb.mono (by simp))⟩
theorem StrsAt.dropS {w : World} {b o n c : Nat} {ss : List ByteArray} (h : StrsAt w (.slice (some ⟨b, o, none⟩) n c) ss) (k : Nat) (hk : k ≤ ss.length) (hn : n = ss.length) : StrsAt w (.slice (some ⟨b, o + k, none⟩) (n - k) (c - k)) (ss.drop k) := by
  rcases h with ⟨a', c', hv, rfl⟩ | ⟨b', o', c', hv, hc', hb, hc⟩
  · subst hn
    exact .inl ⟨some ⟨b, o + k, none⟩, c - k, by rw [show ([] : List ByteArray).length - k = 0 by simp], by simp⟩
  · cases hv
    refine .inr ⟨b, o + k, c - k, by rw [List.length_drop], by rw [List.length_drop]; omega, hb, fun j hj => ?_⟩
    rw [List.length_drop] at hj
    rw [List.getElem_drop, Nat.add_assoc]; exact hc (k + j) (by omega)

set_option maxHeartbeats 2000000 in
set_option maxRecDepth 100000 in
theorem Move_any (v1 v2 v3 : Value) (ps fs ts : List ByteArray) (w : World) (h1 : StrsAt w v1 ps) (h2 : StrsAt w v2 fs) (h3 : StrsAt w v3 ts) (m1 : Modest ps) (m2 : Modest fs) (m3 : Modest ts) :
    Calls Try.prog 32 #[v1, v2, v3] w fun e w' => ∃ v, e = .returned (.tuple #[v, .int .i64 (MoveE ps fs ts)]) ∧ StrsAt w' v (MoveP ps fs ts) ∧ Below w.heap.size w w' := by
  have HC := Lib.hid (threeCheck h1 h2 h3 m1 m2 m3)
  have H1 := Lib.hid h1
  have H2 := Lib.hid h2
  have H3 := Lib.hid h3
  obtain ⟨a2, c2, rfl⟩ := h2.shape
  obtain ⟨a3, c3, rfl⟩ := h3.shape
  by_cases h0 : threeE ps fs ts = 0
  · have hz := threeE_zero.1 h0
    have HZ := Lib.hid hz
    have HS1 := Lib.hid (checked_small hz.1)
    have HS3 := Lib.hid (checked_small hz.2.2)
    cases hu : underB ps fs with
    | true =>
      have HE := Lib.hid (show MoveE ps fs ts = concE ts (ps.drop fs.length) by unfold MoveE; rw [if_pos h0, if_pos hu])
      have HP := Lib.hid (show MoveP ps fs ts = concP ts (ps.drop fs.length) by unfold MoveP; rw [if_pos ⟨h0, hu⟩])
      have hle : fs.length ≤ ps.length := by
        have h4 := of_decide_eq_true hu
        have h5 := (comN_le (bsL ps) (bsL fs)).1
        rw [List.length_map] at h5; omega
      have hl8 := HS1.out.1
      rw [HE.out, HP.out]
      rw [h0] at HC
      have HU := Lib.hid (fun w1 hb1 => isUnder_any v1 (.slice a2 fs.length c2) ps fs w1 (H1.out.below hb1) (H2.out.below hb1) HZ.out.1 HZ.out.2.1)
      rw [hu] at HU
      have HD : Small (ps.drop fs.length) := ⟨by rw [List.length_drop]; omega, fun s hs => HS1.out.2 s (List.mem_of_mem_drop hs)⟩
      have HDS := Lib.hid HD
      rcases h1 with ⟨a1, c1, rfl, rfl⟩ | ⟨b1, o1, c1, rfl, hc1, hb1', -⟩
      · have hf0 : fs = [] := List.eq_nil_of_length_eq_zero (by simpa using hle)
        subst hf0
        have HDR : Hid (StrsAt w (.slice a1 0 c1) (([] : List ByteArray).drop ([] : List ByteArray).length)) := Lib.hid (.inl ⟨_, _, rfl, rfl⟩)
        clear hle HD
        clear h0 hu h2 h3 m1 m2 m3 hz
        go_enter Try.func32, Try.ntmps32
        go_wp2_with fail
        refine HC.out.mono ?_
        rintro e w1 ⟨rfl, hb1⟩
        have hs1 := hb1.size
        go_wp2_with fail
        refine (HU.out w1 hb1).mono ?_
        rintro e w2 ⟨rfl, hb2⟩
        have hb12 := hb1.trans (hb2.mono hs1)
        have hs2 := hb12.size
        go_wp2_with fail
        refine (concat_any _ _ ts (([] : List ByteArray).drop ([] : List ByteArray).length) w2 (H3.out.below hb12) (HDR.out.below hb12) HS3.out HDS.out).mono ?_
        rintro e w3 ⟨v, rfl, hv, hb3⟩
        have HV := Lib.hid hv
        obtain ⟨a', c', rfl⟩ := HV.out.shape
        clear hv
        go_wp2_with fail
        go_ret2
        exact ⟨.slice a' (concP ts (([] : List ByteArray).drop ([] : List ByteArray).length)).length c', rfl, HV.out, hb12.trans (hb3.mono hs2)⟩
      · by_cases hcc : c1 = fs.length
        · subst hcc
          have hpe : ps.length - fs.length = 0 := by omega
          have HDR : Hid (StrsAt w (.slice (some ⟨b1, o1, none⟩) 0 0) (ps.drop fs.length)) := Lib.hid (.inl ⟨_, _, rfl, List.drop_eq_nil_of_le (by omega)⟩)
          clear hpe
          clear h0 hu h2 h3 m1 m2 m3 hz
          go_enter Try.func32, Try.ntmps32
          go_wp2_with fail
          refine HC.out.mono ?_
          rintro e w1 ⟨rfl, hb1⟩
          have hs1 := hb1.size
          go_wp2_with fail
          refine (HU.out w1 hb1).mono ?_
          rintro e w2 ⟨rfl, hb2⟩
          have hb12 := hb1.trans (hb2.mono hs1)
          have hs2 := hb12.size
          go_wp2_with fail
          refine (concat_any _ _ ts (ps.drop fs.length) w2 (H3.out.below hb12) (HDR.out.below hb12) HS3.out HDS.out).mono ?_
          rintro e w3 ⟨v, rfl, hv, hb3⟩
          have HV := Lib.hid hv
          obtain ⟨a', c', rfl⟩ := HV.out.shape
          clear hv
          go_wp2_with fail
          go_ret2
          exact ⟨.slice a' (concP ts (ps.drop fs.length)).length c', rfl, HV.out, hb12.trans (hb3.mono hs2)⟩
        · have HDR := Lib.hid (H1.out.dropS fs.length hle rfl)
          clear h0 hu h2 h3 m1 m2 m3 hz
          go_enter Try.func32, Try.ntmps32
          go_wp2_with fail
          refine HC.out.mono ?_
          rintro e w1 ⟨rfl, hb1⟩
          have hs1 := hb1.size
          go_wp2_with fail
          refine (HU.out w1 hb1).mono ?_
          rintro e w2 ⟨rfl, hb2⟩
          have hb12 := hb1.trans (hb2.mono hs1)
          have hs2 := hb12.size
          go_wp2_with fail
          refine (concat_any _ _ ts (ps.drop fs.length) w2 (H3.out.below hb12) (HDR.out.below hb12) HS3.out HDS.out).mono ?_
          rintro e w3 ⟨v, rfl, hv, hb3⟩
          have HV := Lib.hid hv
          obtain ⟨a', c', rfl⟩ := HV.out.shape
          clear hv
          go_wp2_with fail
          go_ret2
          exact ⟨.slice a' (concP ts (ps.drop fs.length)).length c', rfl, HV.out, hb12.trans (hb3.mono hs2)⟩
    | false =>
      have HE := Lib.hid (show MoveE ps fs ts = 4 by unfold MoveE; rw [if_pos h0, if_neg (by rw [hu]; decide)])
      have HP := Lib.hid (show MoveP ps fs ts = [] by unfold MoveP; rw [if_neg (fun h => by rw [hu] at h; exact absurd h.2 (by decide))])
      rw [HE.out, HP.out]
      rw [h0] at HC
      have HU := Lib.hid (fun w1 hb1 => isUnder_any v1 (.slice a2 fs.length c2) ps fs w1 (H1.out.below hb1) (H2.out.below hb1) HZ.out.1 HZ.out.2.1)
      rw [hu] at HU
      obtain ⟨a1, c1, rfl⟩ := h1.shape
      clear h0 hu h1 h2 h3 m1 m2 m3 hz
      go_enter Try.func32, Try.ntmps32
      go_wp2_with fail
      refine HC.out.mono ?_
      rintro e w1 ⟨rfl, hb1⟩
      have hs1 := hb1.size
      go_wp2_with fail
      refine (HU.out w1 hb1).mono ?_
      rintro e w2 ⟨rfl, hb2⟩
      have hb12 := hb1.trans (hb2.mono hs1)
      go_wp2_with fail
      go_ret2
      exact ⟨.slice none 0 0, rfl, .inl ⟨_, _, rfl, rfl⟩, hb12⟩
  · have HE := Lib.hid (show MoveE ps fs ts = threeE ps fs ts by unfold MoveE; rw [if_neg h0])
    have HP := Lib.hid (show MoveP ps fs ts = [] by unfold MoveP; rw [if_neg (fun h => h0 h.1)])
    rw [HE.out, HP.out]
    obtain ⟨z, hz⟩ : ∃ z, z = threeE ps fs ts := ⟨_, rfl⟩
    rw [← hz] at HC h0 ⊢
    have hz' : (z != 0) = true := by simpa using h0
    obtain ⟨a1, c1, rfl⟩ := h1.shape
    clear hz h1 h2 h3 m1 m2 m3
    go_enter Try.func32, Try.ntmps32
    go_wp2_with fail
    refine HC.out.mono ?_
    rintro e w1 ⟨rfl, hb1⟩
    go_wp2_with fail
    go_ret2
    exact ⟨.slice none 0 0, rfl, .inl ⟨_, _, rfl, rfl⟩, hb1⟩
end Go.Proofs.Ytbgfeonlnhlbfaa
