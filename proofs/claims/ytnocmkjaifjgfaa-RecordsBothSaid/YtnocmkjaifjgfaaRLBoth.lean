/- The law RecordsBoth: the walk. -/
import Derived.Test.YtnocmkjaifjgfaaRValC
import Derived.Test.YtnocmkjaifjgfaaRShown
import Derived.Test.YtnocmkjaifjgfaaRLawF
import Derived.Test.YtnocmkjaifjgfaaRApp
import Derived.Deep.RegionHeld3
namespace Go.Proofs.Ytnocmkjaifjgfaa.R
open Go.RowKit
attribute [local go_sem ↓] appB_eq appV_eq

theorem str_app (s t : ByteArray) : (s ++ t).data.toList = s.data.toList ++ t.data.toList := by simp

set_option maxHeartbeats 8000000 in
set_option maxRecDepth 100000 in
theorem recordsBoth_any (s t : ByteArray) (u x : Value) (l m : List Rv) (w : World) (hs : s.size ≤ maxLen) (ht : t.size ≤ maxLen)
    (hu : ValsAt w u l) (hl : l.length ≤ maxLen) (hok : ∀ x ∈ l, x.Ok) (hm : ∀ x ∈ l, x.str.size ≤ maxLen ∧ x.list.length ≤ maxLen)
    (hu2 : ValsAt w x m) (hl2 : m.length ≤ maxLen) (hok2 : ∀ x ∈ m, x.Ok) (hm2 : ∀ x ∈ m, x.str.size ≤ maxLen ∧ x.list.length ≤ maxLen) :
    Calls Try.prog 7 #[.string s, .string t, .agg #[u, x]] w fun e w' => e = .returned (.bool true) ∧ Below w.heap.size w w' := by
  obtain ⟨au, du, rfl⟩ := hu.shape
  obtain ⟨ax, dx, rfl⟩ := hu2.shape
  have HSH := Lib.hid (fun w => shown_any w)
  have hB1 : Below w.heap.size w (w.alloc (.cells #[.slice au l.length du, .slice ax m.length dx] 44 (0, 0))) := (Below.refl w.heap.size w).alloc (Nat.le_refl _) _
  have HC := Lib.hid (show ∀ W, Below (w.heap.size + 1) (w.alloc (.cells #[.slice au l.length du, .slice ax m.length dx] 44 (0, 0))) W → W.cell? ⟨w.heap.size, 0, none⟩ = some (.slice au l.length du) ∧ W.cell? ⟨w.heap.size, 1, none⟩ = some (.slice ax m.length dx) ∧ Below w.heap.size w W from fun W h => by
    have h1 := heap_alloc_new w (.cells #[.slice au l.length du, .slice ax m.length dx] 44 (0, 0))
    refine ⟨?_, ?_, hB1.trans (h.mono (by omega))⟩
    · rw [h.cell (p := ⟨w.heap.size, 0, none⟩) (by show w.heap.size < _; omega)]; unfold World.cell?; rw [h1]; rfl
    · rw [h.cell (p := ⟨w.heap.size, 1, none⟩) (by show w.heap.size < _; omega)]; unfold World.cell?; rw [h1]; rfl)
  have HZ : Hid ((w.alloc (.cells #[.slice au l.length du, .slice ax m.length dx] 44 (0, 0))).heap.size = w.heap.size + 1) := Lib.hid (by simp)
  have HR0 := Lib.hid (Below.refl (w.heap.size + 1) (w.alloc (.cells #[.slice au l.length du, .slice ax m.length dx] 44 (0, 0))))
  have HU := Lib.hid hu
  have HU2 := Lib.hid hu2
  have HF := Lib.hid (far_any _ l _ (hu.below hB1 (Nat.le_refl _)) hl hm)
  have HF2 := Lib.hid (fun W hW => far_any _ m W (hu2.below hW (Nat.le_refl _)) hl2 hm2)
  have HOK := Lib.hid (show ∀ x ∈ l ++ m, x.Ok from fun y hy => by
    rcases List.mem_append.1 hy with h | h
    · exact hok y h
    · exact hok2 y h)
  have HOK1 := Lib.hid hok
  have HOK2 := Lib.hid hok2
  have HML := Lib.hid hs
  have HML2 := Lib.hid ht
  have hs' := hs
  have ht' := ht
  have hl' := hl
  have hl2' := hl2
  unfold maxLen at hs' ht' hl' hl2'
  clear hs ht hl hu hm hok hl2 hu2 hm2 hok2
  by_cases h1 : 32 < s.size
  · have d1 : decide ((32 : Int) < s.size) = true := decide_eq_true (by omega)
    go_enter Try.func7, Try.ntmps7
    go_wp2_with fail
    refine (HSH.out _).mono ?_
    rintro e w2 ⟨rfl, hB⟩
    go_wp2_with fail
    go_ret
    exact ⟨rfl, hB1.trans (hB.mono hB1.size)⟩
  have d1 : decide ((32 : Int) < s.size) = false := decide_eq_false (by omega)
  by_cases h2 : 32 < t.size
  · have d2 : decide ((32 : Int) < t.size) = true := decide_eq_true (by omega)
    go_enter Try.func7, Try.ntmps7
    go_wp2_with fail
    refine (HSH.out _).mono ?_
    rintro e w2 ⟨rfl, hB⟩
    go_wp2_with fail
    go_ret
    exact ⟨rfl, hB1.trans (hB.mono hB1.size)⟩
  have d2 : decide ((32 : Int) < t.size) = false := decide_eq_false (by omega)
  have HS32 : Hid (s.data.toList.length ≤ 32 ∧ t.data.toList.length ≤ 32) := Lib.hid ⟨by rw [size_data]; omega, by rw [size_data]; omega⟩
  have HST : Hid ((s ++ t).size ≤ maxLen) := Lib.hid (by rw [← size_data, str_app, List.length_append, size_data, size_data]; unfold maxLen; omega)
  have hcat : ¬ 9223372036854775807 < s.size + t.size := by omega
  clear h1 h2
  go_enter Try.func7, Try.ntmps7
  go_wp2_with fail
  refine HF.out.mono ?_
  rintro e w2 ⟨fb, rfl, hfl, hX2⟩
  rw [HZ.out] at hX2
  obtain ⟨c0, c1, hb2⟩ := HC.out w2 hX2
  have HB2 := Lib.hid hb2
  have HX2 := Lib.hid hX2
  clear hX2 hb2
  cases fb
  case true =>
    go_wp2_with fail
    refine (HSH.out _).mono ?_
    rintro e w5 ⟨rfl, hB5⟩
    go_wp2_with fail
    go_ret
    exact ⟨rfl, HB2.out.trans (hB5.mono HB2.out.size)⟩
  have hl70 := hfl rfl
  clear hfl
  have HF2' := Lib.hid (HF2.out w2 HB2.out)
  go_wp2_with fail
  refine HF2'.out.mono ?_
  rintro e w3 ⟨fb, rfl, hfl, hX3⟩
  have HX3 := Lib.hid (HX2.out.trans (hX3.mono (by have := HX2.out.size; rw [HZ.out] at this; exact this)))
  obtain ⟨c0, c1, hb3⟩ := HC.out w3 HX3.out
  have HB3 := Lib.hid hb3
  clear hX3 hb3 HF2' 
  cases fb
  case true =>
    go_wp2_with fail
    refine (HSH.out _).mono ?_
    rintro e w5 ⟨rfl, hB5⟩
    go_wp2_with fail
    go_ret
    exact ⟨rfl, HB3.out.trans (hB5.mono HB3.out.size)⟩
  have hm70 := hfl rfl
  clear hfl
  have hs3 : w.heap.size + 1 ≤ w3.heap.size := by have := HX3.out.size; rw [HZ.out] at this; exact this
  have HS3 := Lib.hid hs3
  have HEN1 := Lib.hid (encode_any s _ l w3 HML.out (HU.out.below HB3.out (Nat.le_refl _)) HOK1.out (by unfold maxLen; omega))
  have HEN2 := Lib.hid (fun W (hW : Below w.heap.size w W) => encode_any t _ m W HML2.out (HU2.out.below hW (Nat.le_refl _)) HOK2.out (by unfold maxLen; omega))
  have HEN3 := Lib.hid (fun W v (hv : ValsAt W v (l ++ m)) => encode_any (s ++ t) v (l ++ m) W HST.out hv HOK.out (by rw [List.length_append]; unfold maxLen; omega))
  unfold EncPost at HEN1 HEN2 HEN3
  have HBR := Lib.hid (fun h1 h2 => both_rec (s := s.data.toList) (t := t.data.toList) (l := l) (m := m) HS32.out.1 HS32.out.2 h1 h2)
  rw [str_app] at HEN3
  have hE1 := encL_len s.data.toList l
  have hE2 := encL_len t.data.toList m
  have HL3 := Lib.hid (encL_len (s.data.toList ++ t.data.toList) (l ++ m))
  have hN1 : ∀ h : encE s.data.toList l ≠ 0, True := fun _ => trivial
  generalize encL s.data.toList l = E1 at *
  generalize encE s.data.toList l = e1 at *
  generalize encL t.data.toList m = E2 at *
  generalize encE t.data.toList m = e2 at *
  generalize encL (s.data.toList ++ t.data.toList) (l ++ m) = E3 at *
  generalize encE (s.data.toList ++ t.data.toList) (l ++ m) = e3 at *
  clear hN1 HS32 HST d1 d2
  go_wp2_with fail
  refine HEN1.out.mono ?_
  rintro e w4 ⟨u1, rfl, hy1, hB4⟩
  have HNX := Lib.hid (fun W W' (h : Below (w.heap.size + 1) (w.alloc (.cells #[.slice au l.length du, .slice ax m.length dx] 44 (0, 0))) W) (h' : Below W.heap.size W W') => h.trans (h'.mono (by have := h.size; rw [HZ.out] at this; exact this)))
  obtain ⟨a1, k1, rfl⟩ := hy1.shape
  have HX4 := Lib.hid (HNX.out _ _ HX3.out hB4)
  have HY1 := Lib.hid hy1
  clear c0 c1 hy1 hB4
  obtain ⟨c0, c1, hb4⟩ := HC.out w4 HX4.out
  have HEN2' := Lib.hid (HEN2.out w4 hb4)
  obtain ⟨n1, hn1⟩ : ∃ n, E1.length = n := ⟨_, rfl⟩
  have HN1 := Lib.hid hn1
  rw [hn1] at hE1 HBR ⊢
  clear hn1 hb4
  go_wp2_with fail
  refine HEN2'.out.mono ?_
  rintro e w5 ⟨u2, rfl, hy2, hB5⟩
  obtain ⟨a2, k2, rfl⟩ := hy2.shape
  have HX5 := Lib.hid (HNX.out _ _ HX4.out hB5)
  have HY2 := Lib.hid hy2
  have HB45 := Lib.hid hB5
  clear c0 c1 hy2 hB5 HEN2'
  obtain ⟨c0, c1, hb5⟩ := HC.out w5 HX5.out
  obtain ⟨n2, hn2⟩ : ∃ n, E2.length = n := ⟨_, rfl⟩
  have HN2 := Lib.hid hn2
  rw [hn2] at hE2 HBR ⊢
  obtain ⟨g1, q1, w6, g2, q2, w7, hr1, hr2, hy7, hq7, hB6, hB7⟩ := two_vals (W := w5.drew) (HU.out.below (below_drew hb5) (Nat.le_refl _)) (HU2.out.below (below_drew hb5) (Nat.le_refl _)) (by omega)
  obtain ⟨lm, hlm⟩ : ∃ q, (l ++ m).length = q := ⟨_, rfl⟩
  rw [hlm] at hr2 hy7 hq7
  have hB56 : Below w5.heap.size w5 w6 := (below_drew (Below.refl w5.heap.size w5)).trans hB6
  have hB57 : Below w5.heap.size w5 w7 := (below_drew (Below.refl w5.heap.size w5)).trans hB7
  have HB57 := Lib.hid hB57
  have hr1' : Sem.run Try.prog (appV 22 #[.slice (some ⟨w5.heap.size, 0, none⟩) 0 0, .slice au l.length du]) ((w5.alloc (.cells #[] 49 (0, 0))).drew) = .ok (.slice (some ⟨g1, 0, none⟩) l.length q1) w6 := hr1
  have hA5 : Below w5.heap.size w5 (w5.alloc (.cells #[] 49 (0, 0))) := (Below.refl _ w5).alloc (Nat.le_refl _) _
  have hc5 := HC.out _ HX5.out
  have hcd := HC.out _ (HNX.out _ _ HX5.out (below_drew (Below.refl _ w5)))
  have hca := HC.out _ (HNX.out _ _ HX5.out hA5)
  have hcb := HC.out _ (HNX.out _ _ HX5.out (below_drew hA5))
  have hc6 := HC.out _ (HNX.out _ _ HX5.out hB56)
  have hc7 := HC.out _ (HNX.out _ _ HX5.out hB57)
  have HCW := Lib.hid (fun W (h : Below w7.heap.size w7 W) => HC.out _ (HNX.out _ _ HX5.out (HB57.out.trans (h.mono HB57.out.size))))
  have hcd' : w5.drew.cell? ⟨w.heap.size, 0, none⟩ = some (.slice au l.length du) ∧ w5.drew.cell? ⟨w.heap.size, 1, none⟩ = some (.slice ax m.length dx) := ⟨hcd.1, hcd.2.1⟩
  have hca' : (w5.alloc (.cells #[] 49 (0, 0))).cell? ⟨w.heap.size, 0, none⟩ = some (.slice au l.length du) ∧ (w5.alloc (.cells #[] 49 (0, 0))).cell? ⟨w.heap.size, 1, none⟩ = some (.slice ax m.length dx) := ⟨hca.1, hca.2.1⟩
  have hcb' : (w5.alloc (.cells #[] 49 (0, 0))).drew.cell? ⟨w.heap.size, 0, none⟩ = some (.slice au l.length du) ∧ (w5.alloc (.cells #[] 49 (0, 0))).drew.cell? ⟨w.heap.size, 1, none⟩ = some (.slice ax m.length dx) := ⟨hcb.1, hcb.2.1⟩
  have hc6' : w6.cell? ⟨w.heap.size, 0, none⟩ = some (.slice au l.length du) ∧ w6.cell? ⟨w.heap.size, 1, none⟩ = some (.slice ax m.length dx) := ⟨hc6.1, hc6.2.1⟩
  have hc7' : w7.cell? ⟨w.heap.size, 0, none⟩ = some (.slice au l.length du) ∧ w7.cell? ⟨w.heap.size, 1, none⟩ = some (.slice ax m.length dx) := ⟨hc7.1, hc7.2.1⟩
  have HEN3' := Lib.hid (HEN3.out w7 _ hy7)
  clear hn2 hb5 hr1 hlm hy7 hq7 hB6 hB7 hB56 hB57 hA5 hc5 hcd hca hcb hc6 hc7 hs3
  go_wp2_with fail
  go_region_held3 (fun W' => W'.cell? ⟨w.heap.size, 0, none⟩ = some (.slice au l.length du) ∧ W'.cell? ⟨w.heap.size, 1, none⟩ = some (.slice ax m.length dx)) (first | assumption | exact hcd' | exact hcb' | exact hca')
    ((go_at_call 10; (with_reducible refine HEN3'.out.mono ?_); rintro e w8 ⟨u3, rfl, hy3, hB8⟩; have hc8 := HCW.out w8 hB8; have hc8' : w8.cell? ⟨w.heap.size, 0, none⟩ = some (.slice au l.length du) ∧ w8.cell? ⟨w.heap.size, 1, none⟩ = some (.slice ax m.length dx) := ⟨hc8.1, hc8.2.1⟩))
  have HB8 := Lib.hid hc8.2.2
  have HB58 := Lib.hid (HB57.out.trans (hB8.mono HB57.out.size))
  obtain ⟨a3, k3, rfl⟩ := hy3.shape
  have HY3 := Lib.hid hy3
  clear hr1' hr2 hcd' hca' hcb' hc6' hc7' HEN3' HCW hc8 hc8' hy3 hB8
  have hshown : ∀ W, Below w.heap.size w W → Calls Try.prog 9 #[] W fun e w' => e = .returned (.bool true) ∧ Below w.heap.size w w' := fun W hW => (HSH.out W).mono fun e w' ⟨h1, h2⟩ => ⟨h1, hW.trans (h2.mono hW.size)⟩
  have HSW := Lib.hid hshown
  clear hshown
  by_cases z1 : e1 = 0
  case neg =>
    have hz : ((e1 : Int) == 0) = false := by simp; omega
    go_wp2_with fail
    refine (HSW.out _ HB8.out).mono ?_
    rintro e w9 ⟨rfl, hB9⟩
    go_wp2_with fail
    go_ret
    exact ⟨rfl, hB9⟩
  subst z1
  by_cases z2 : e2 = 0
  case neg =>
    have hz : ((e2 : Int) == 0) = false := by simp; omega
    go_wp2_with fail
    refine (HSW.out _ HB8.out).mono ?_
    rintro e w9 ⟨rfl, hB9⟩
    go_wp2_with fail
    go_ret
    exact ⟨rfl, hB9⟩
  subst z2
  obtain ⟨b1, b2⟩ := HBR.out rfl rfl
  have hwr : IntKind.i64.wrap ((n1 : Int) + n2) = n1 + n2 := IntWalk.i64_in _ (by omega)
  by_cases h4 : 4000 < n1 + n2
  · rw [if_pos h4] at b1
    subst b1
    have d4 : decide ((4000 : Int) < (n1 : Int) + n2) = true := decide_eq_true (by omega)
    clear b2 h4
    go_wp2_with fail
    refine (HSW.out _ HB8.out).mono ?_
    rintro e w9 ⟨rfl, hB9⟩
    go_wp2_with fail
    go_ret
    exact ⟨rfl, hB9⟩
  · rw [if_neg h4] at b1
    subst b1
    have b2 := b2 h4
    have d4 : decide ((4000 : Int) < (n1 : Int) + n2) = false := decide_eq_false (by omega)
    subst b2
    have HY1' := Lib.hid (HY1.out.below (HB45.out.trans (HB58.out.mono HB45.out.size)) (Nat.le_refl _))
    have HY2' := Lib.hid (HY2.out.below HB58.out (Nat.le_refl _))
    obtain ⟨g1, q1, w9, g2, q2, w10, hr1, hr2, hy10, hq10, hB9, hB10⟩ := two_bytes HY1'.out HY2'.out (by rw [HN1.out, HN2.out]; omega)
    have HEQ := Lib.hid (same_any _ _ (E1 ++ E2) w10 (HY3.out.below hB10 (Nat.le_refl _)) hy10 (by rw [List.length_append, HN1.out, HN2.out]; unfold maxLen; omega))
    have HB10 := Lib.hid (HB8.out.trans (hB10.mono HB8.out.size))
    obtain ⟨m3, hm3⟩ : ∃ q, (E1 ++ E2).length = q := ⟨_, rfl⟩
    rw [hm3] at HEQ hr2 ⊢
    rw [HN1.out] at hr1 hr2
    rw [HN2.out] at hr2
    clear h4 hy10 hq10 hB9 hB10 hm3
    go_wp2_with fail
    refine HEQ.out.mono ?_
    rintro e w11 ⟨rfl, hB11⟩
    have HB11 := Lib.hid (HB10.out.trans (hB11.mono HB10.out.size))
    clear hB11
    go_wp2_with fail
    refine (HSW.out _ HB11.out).mono ?_
    rintro e w12 ⟨rfl, hB12⟩
    go_wp2_with fail
    go_ret
    exact ⟨rfl, hB12⟩
end Go.Proofs.Ytnocmkjaifjgfaa.R
