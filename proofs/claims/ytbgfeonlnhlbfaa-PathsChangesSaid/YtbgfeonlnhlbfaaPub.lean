/- isUnder; Compare, Under, Common. -/
import Derived.Test.YtbgfeonlnhlbfaaShared
namespace Go.Proofs.Ytbgfeonlnhlbfaa
open Go.RowKit

theorem compare_any (v1 v2 : Value) (ps qs : List ByteArray) (w : World) (hp : StrsAt w v1 ps) (hq : StrsAt w v2 qs) (ep : checkE (bsL ps) = 0) (eq : checkE (bsL qs) = 0) :
    Calls Try.prog 47 #[v1, v2] w fun e w' => e = .returned (.int .i64 (cmpP (bsL ps) (bsL qs))) ∧ Below w.heap.size w w' :=
  (callsIn_wide (n := 6)).1 (compare_in 6 (Nat.le_refl _) v1 v2 ps qs w hp hq ep eq)
theorem shared_any (v1 v2 : Value) (ps qs : List ByteArray) (w : World) (hp : StrsAt w v1 ps) (hq : StrsAt w v2 qs) (ep : checkE (bsL ps) = 0) (eq : checkE (bsL qs) = 0) :
    Calls Try.prog 52 #[v1, v2] w fun e w' => e = .returned (.int .i64 (comN (bsL ps) (bsL qs) : Nat)) ∧ Below w.heap.size w w' :=
  (callsIn_wide (n := 6)).1 (shared_in 6 (Nat.le_refl _) v1 v2 ps qs w hp hq ep eq)

def underB (ps qs : List ByteArray) : Bool := decide (comN (bsL ps) (bsL qs) = qs.length)
theorem isUnder_any (v1 v2 : Value) (ps qs : List ByteArray) (w : World) (hp : StrsAt w v1 ps) (hq : StrsAt w v2 qs) (ep : checkE (bsL ps) = 0) (eq : checkE (bsL qs) = 0) :
    Calls Try.prog 50 #[v1, v2] w fun e w' => e = .returned (.bool (underB ps qs)) ∧ Below w.heap.size w w' := by
  have H := Lib.hid (shared_any v1 v2 ps qs w hp hq ep eq)
  have hl : qs.length ≤ 8 := by have := (checkE_zero.1 eq).1; simpa using this
  obtain ⟨a1, c1, rfl⟩ := hp.shape
  obtain ⟨a2, c2, rfl⟩ := hq.shape
  clear hp hq ep eq
  go_enter Try.func50, Try.ntmps50
  go_wp2_with fail
  refine H.out.mono ?_
  rintro e w1 ⟨rfl, hb⟩
  go_wp2
  go_ret
  exact ⟨ret_bool (by unfold underB; rw [Bool.eq_iff_iff]; simp; omega), hb⟩

theorem paths2 {w : World} {v1 v2 : Value} {ps qs : List ByteArray} (h1 : StrsAt w v1 ps) (h2 : StrsAt w v2 qs) : PathsAt (w.alloc (.cells #[v1, v2] 22)) (.slice (some ⟨w.heap.size, 0, none⟩) 2 2) [ps, qs] := by
  have hb : Below w.heap.size w (w.alloc (.cells #[v1, v2] 22)) := (Below.refl _ w).alloc (Nat.le_refl _) _
  refine ⟨[v1, v2], rfl, .inr ⟨w.heap.size, 0, 2, rfl, by simp, fun k hk => ?_⟩, fun k hk hk' => ?_⟩
  · rw [Lib.cell_of_heap (World.alloc_heap_new w _)]
    match k, hk with
    | 0, _ => rfl
    | 1, _ => rfl
  · match k, hk with
    | 0, _ => exact h1.below hb
    | 1, _ => exact h2.below hb
theorem paths3 {w : World} {v1 v2 v3 : Value} {ps qs rs : List ByteArray} (h1 : StrsAt w v1 ps) (h2 : StrsAt w v2 qs) (h3 : StrsAt w v3 rs) : PathsAt (w.alloc (.cells #[v1, v2, v3] 22)) (.slice (some ⟨w.heap.size, 0, none⟩) 3 3) [ps, qs, rs] := by
  have hb : Below w.heap.size w (w.alloc (.cells #[v1, v2, v3] 22)) := (Below.refl _ w).alloc (Nat.le_refl _) _
  refine ⟨[v1, v2, v3], rfl, .inr ⟨w.heap.size, 0, 3, rfl, by simp, fun k hk => ?_⟩, fun k hk hk' => ?_⟩
  · rw [Lib.cell_of_heap (World.alloc_heap_new w _)]
    match k, hk with
    | 0, _ => rfl
    | 1, _ => rfl
    | 2, _ => rfl
  · match k, hk with
    | 0, _ => exact h1.below hb
    | 1, _ => exact h2.below hb
    | 2, _ => exact h3.below hb

def bothE (ps qs : List ByteArray) : Int := checksE (bsP [ps, qs])
theorem bothE_zero {ps qs : List ByteArray} : bothE ps qs = 0 ↔ checkE (bsL ps) = 0 ∧ checkE (bsL qs) = 0 := by
  unfold bothE; simp only [bsP, List.map_cons, List.map_nil, checksE]
  split
  · rename_i h; split
    · rename_i h2; simp [h, h2]
    · rename_i h2; simp [h2]
  · rename_i h; simp [h]
theorem bothCheck {w : World} {v1 v2 : Value} {ps qs : List ByteArray} (h1 : StrsAt w v1 ps) (h2 : StrsAt w v2 qs) (m1 : Modest ps) (m2 : Modest qs) :
    Calls Try.prog 46 #[.slice (some ⟨w.heap.size, 0, none⟩) 2 2] (w.alloc (.cells #[v1, v2] 22)) fun e w' => e = .returned (.int .i64 (bothE ps qs)) ∧ Below w.heap.size w w' :=
  (checkAll_any _ [ps, qs] _ (paths2 h1 h2) (by intro p hp; simp at hp; rcases hp with rfl | rfl <;> assumption) (by simp)).mono fun e w' ⟨he, hb⟩ =>
    ⟨he, ((Below.refl _ w).alloc (Nat.le_refl _) _).trans (hb.mono (by simp))⟩
theorem checked_small {ps : List ByteArray} (h : checkE (bsL ps) = 0) : Small ps := by
  have h1 := checkE_zero.1 h
  refine ⟨by have := h1.1; simp at this; omega, fun s hs => ?_⟩
  have := (nameE_ok (h1.2 _ (List.mem_map.2 ⟨s, hs, rfl⟩))).2.1
  rw [size_len] at this; omega

def compareV (ps qs : List ByteArray) : Int := if bothE ps qs = 0 then cmpP (bsL ps) (bsL qs) else 0
set_option maxHeartbeats 1000000 in
theorem Compare_any (v1 v2 : Value) (ps qs : List ByteArray) (w : World) (h1 : StrsAt w v1 ps) (h2 : StrsAt w v2 qs) (m1 : Modest ps) (m2 : Modest qs) :
    Calls Try.prog 22 #[v1, v2] w fun e w' => e = .returned (.tuple #[.int .i64 (compareV ps qs), .int .i64 (bothE ps qs)]) ∧ Below w.heap.size w w' := by
  have HC := Lib.hid (bothCheck h1 h2 m1 m2)
  have H1 := Lib.hid h1
  have H2 := Lib.hid h2
  obtain ⟨a1, c1, rfl⟩ := h1.shape
  obtain ⟨a2, c2, rfl⟩ := h2.shape
  clear h1 h2 m1 m2
  by_cases h0 : bothE ps qs = 0
  · have HV := Lib.hid (show compareV ps qs = cmpP (bsL ps) (bsL qs) by unfold compareV; rw [if_pos h0])
    have HZ := Lib.hid (bothE_zero.1 h0)
    rw [h0] at HC ⊢
    clear h0
    rw [HV.out]
    go_enter Try.func22, Try.ntmps22
    go_wp2_with fail
    refine HC.out.mono ?_
    rintro e w1 ⟨rfl, hb1⟩
    have hs1 := hb1.size
    go_wp2_with fail
    refine (compare_any _ _ ps qs w1 (H1.out.below hb1) (H2.out.below hb1) HZ.out.1 HZ.out.2).mono ?_
    rintro e w2 ⟨rfl, hb2⟩
    go_wp2_with fail
    go_ret2
    exact ⟨rfl, hb1.trans (hb2.mono hs1)⟩
  · have HV := Lib.hid (show compareV ps qs = 0 by unfold compareV; rw [if_neg h0])
    obtain ⟨z, hz⟩ : ∃ z, z = bothE ps qs := ⟨_, rfl⟩
    rw [← hz] at HC h0 ⊢
    have hz' : (z != 0) = true := by simpa using h0
    clear hz
    rw [HV.out]
    go_enter Try.func22, Try.ntmps22
    go_wp2_with fail
    refine HC.out.mono ?_
    rintro e w1 ⟨rfl, hb1⟩
    go_wp2_with fail
    go_ret2
    exact ⟨rfl, hb1⟩

def UnderV (ps qs : List ByteArray) : Bool := decide (bothE ps qs = 0) && underB ps qs
set_option maxHeartbeats 1000000 in
theorem Under_any (v1 v2 : Value) (ps qs : List ByteArray) (w : World) (h1 : StrsAt w v1 ps) (h2 : StrsAt w v2 qs) (m1 : Modest ps) (m2 : Modest qs) :
    Calls Try.prog 24 #[v1, v2] w fun e w' => e = .returned (.tuple #[.bool (UnderV ps qs), .int .i64 (bothE ps qs)]) ∧ Below w.heap.size w w' := by
  have HC := Lib.hid (bothCheck h1 h2 m1 m2)
  have H1 := Lib.hid h1
  have H2 := Lib.hid h2
  obtain ⟨a1, c1, rfl⟩ := h1.shape
  obtain ⟨a2, c2, rfl⟩ := h2.shape
  clear h1 h2 m1 m2
  by_cases h0 : bothE ps qs = 0
  · have HV := Lib.hid (show UnderV ps qs = underB ps qs by unfold UnderV; simp [h0])
    have HZ := Lib.hid (bothE_zero.1 h0)
    rw [h0] at HC ⊢
    rw [HV.out]
    clear h0
    go_enter Try.func24, Try.ntmps24
    go_wp2_with fail
    refine HC.out.mono ?_
    rintro e w1 ⟨rfl, hb1⟩
    have hs1 := hb1.size
    go_wp2_with fail
    refine (isUnder_any _ _ ps qs w1 (H1.out.below hb1) (H2.out.below hb1) HZ.out.1 HZ.out.2).mono ?_
    rintro e w2 ⟨rfl, hb2⟩
    go_wp2_with fail
    go_ret2
    exact ⟨rfl, hb1.trans (hb2.mono hs1)⟩
  · have HV := Lib.hid (show UnderV ps qs = false by unfold UnderV; simp [h0])
    rw [HV.out]
    obtain ⟨z, hz⟩ : ∃ z, z = bothE ps qs := ⟨_, rfl⟩
    rw [← hz] at HC h0 ⊢
    have hz' : (z != 0) = true := by simpa using h0
    clear hz
    go_enter Try.func24, Try.ntmps24
    go_wp2_with fail
    refine HC.out.mono ?_
    rintro e w1 ⟨rfl, hb1⟩
    go_wp2_with fail
    go_ret2
    exact ⟨rfl, hb1⟩

theorem StrsAt.take {w : World} {a : Option Addr} {n c : Nat} {ss : List ByteArray} (h : StrsAt w (.slice a n c) ss) (k : Nat) (hk : k ≤ ss.length) : StrsAt w (.slice a k c) (ss.take k) := by
  rcases h with ⟨a', c', hv, rfl⟩ | ⟨b, o, c', hv, hc', hb, hc⟩
  · simp at hk; subst hk; exact .inl ⟨a, c, rfl, by simp⟩
  · cases hv
    refine .inr ⟨b, o, c, by rw [List.length_take, Nat.min_eq_left hk], by rw [List.length_take]; omega, hb, fun j hj => ?_⟩
    rw [List.length_take] at hj
    rw [List.getElem_take]; exact hc j (by omega)
def CommonP (ps qs : List ByteArray) : List ByteArray := if bothE ps qs = 0 then ps.take (comN (bsL ps) (bsL qs)) else []
set_option maxHeartbeats 2000000 in
theorem Common_any (v1 v2 : Value) (ps qs : List ByteArray) (w : World) (h1 : StrsAt w v1 ps) (h2 : StrsAt w v2 qs) (m1 : Modest ps) (m2 : Modest qs) :
    Calls Try.prog 26 #[v1, v2] w fun e w' => ∃ v, e = .returned (.tuple #[v, .int .i64 (bothE ps qs)]) ∧ StrsAt w' v (CommonP ps qs) ∧ Below w.heap.size w w' := by
  have HC := Lib.hid (bothCheck h1 h2 m1 m2)
  have H1 := Lib.hid h1
  have H2 := Lib.hid h2
  by_cases h0 : bothE ps qs = 0
  · have HV := Lib.hid (show CommonP ps qs = ps.take (comN (bsL ps) (bsL qs)) by unfold CommonP; rw [if_pos h0])
    have HZ := Lib.hid (bothE_zero.1 h0)
    have hS := checked_small HZ.out.1
    have hl := (comN_le (bsL ps) (bsL qs)).1
    rw [List.length_map] at hl
    have hl8 := hS.1
    have hcap : ∃ a c, v1 = .slice a ps.length c ∧ ps.length ≤ c := by
      rcases h1 with ⟨a, c, rfl, rfl⟩ | ⟨b, o, c, rfl, hc, _⟩
      · exact ⟨a, c, rfl, Nat.zero_le _⟩
      · exact ⟨_, c, rfl, hc⟩
    obtain ⟨a1, c1, rfl, hc1⟩ := hcap
    obtain ⟨a2, c2, rfl⟩ := h2.shape
    have HS := Lib.hid hS
    rw [h0] at HC ⊢
    rw [HV.out]
    have HSH := Lib.hid (fun w1 hb1 => shared_any _ _ ps qs w1 (H1.out.below hb1) (H2.out.below hb1) HZ.out.1 HZ.out.2)
    generalize comN (bsL ps) (bsL qs) = k at *
    have HT := Lib.hid (fun w1 (hb1 : Below w.heap.size w w1) => (H1.out.below hb1).take k hl)
    clear h0 h1 h2 m1 m2 hS HV
    go_enter Try.func26, Try.ntmps26
    go_wp2_with fail
    refine HC.out.mono ?_
    rintro e w1 ⟨rfl, hb1⟩
    have hs1 := hb1.size
    go_wp2_with fail
    refine (HSH.out w1 hb1).mono ?_
    rintro e w2 ⟨rfl, hb2⟩
    have hb12 := hb1.trans (hb2.mono hs1)
    have hs2 := hb12.size
    go_wp2_with fail
    refine (fresh_any _ _ w2 (HT.out w2 hb12) ⟨by have := HS.out.1; rw [List.length_take]; omega, fun s hs => HS.out.2 s (List.mem_of_mem_take hs)⟩).mono ?_
    rintro e w3 ⟨v, rfl, hf, hb3⟩
    have HR := Lib.hid hf.strs
    obtain ⟨a', c', rfl⟩ := HR.out.shape
    clear hf
    go_wp2_with fail
    go_ret2
    exact ⟨.slice a' k c', rfl, by have := HR.out; rwa [List.length_take, Nat.min_eq_left hl] at this, hb12.trans (hb3.mono hs2)⟩
  · have HV := Lib.hid (show CommonP ps qs = [] by unfold CommonP; rw [if_neg h0])
    obtain ⟨a1, c1, rfl⟩ := h1.shape
    obtain ⟨a2, c2, rfl⟩ := h2.shape
    clear h1 h2 m1 m2
    rw [HV.out]
    obtain ⟨z, hz⟩ : ∃ z, z = bothE ps qs := ⟨_, rfl⟩
    rw [← hz] at HC h0 ⊢
    have hz' : (z != 0) = true := by simpa using h0
    clear hz
    go_enter Try.func26, Try.ntmps26
    go_wp2_with fail
    refine HC.out.mono ?_
    rintro e w1 ⟨rfl, hb1⟩
    go_wp2_with fail
    go_ret2
    exact ⟨.slice none 0 0, rfl, .inl ⟨_, _, rfl, rfl⟩, hb1⟩
end Go.Proofs.Ytbgfeonlnhlbfaa
