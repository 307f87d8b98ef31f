/- The law RecordsRound: the walk. -/
import Derived.Test.YtnocmkjaifjgfaaRValC
import Derived.Test.YtnocmkjaifjgfaaRShown
import Derived.Test.YtnocmkjaifjgfaaRLawF
import Derived.Test.YtnocmkjaifjgfaaRSameV
import Derived.Test.YtnocmkjaifjgfaaRApp
import Derived.Deep.RegionHeld3
namespace Go.Proofs.Ytnocmkjaifjgfaa.R
open Go.RowKit
attribute [local go_sem ↓] appB_eq

set_option maxHeartbeats 8000000 in
set_option maxRecDepth 100000 in
theorem recordsRound_any (s : ByteArray) (u : Value) (l : List Rv) (a : Option Addr) (d : Nat) (b : List UInt8) (z : Int) (w : World) (hs : s.size ≤ maxLen) (hu : ValsAt w u l) (hl : l.length ≤ maxLen) (hok : ∀ x ∈ l, x.Ok) (hm : ∀ x ∈ l, x.str.size ≤ maxLen ∧ x.list.length ≤ maxLen)
    (hd : b.length ≤ d) (hb : BytesAt w (.slice a b.length d) b) (hbl : b.length ≤ maxLen) (hz : 0 ≤ z) (hz2 : z ≤ 65535) :
    Calls Try.prog 5 #[.string s, .agg #[u, .slice a b.length d], .int .u16 z] w fun e w' => e = .returned (.bool true) ∧ Below w.heap.size w w' := by
  obtain ⟨q, rfl⟩ : ∃ q : Nat, z = q := ⟨z.toNat, by omega⟩
  have hq : q ≤ 65535 := by omega
  clear hz hz2
  obtain ⟨au, du, rfl⟩ := hu.shape
  have HSH := Lib.hid (fun w => shown_any w)
  have hB1 : Below w.heap.size w (w.alloc (.cells #[.slice au l.length du, .slice a b.length d] 40 (0, 0))) := (Below.refl w.heap.size w).alloc (Nat.le_refl _) _
  have HC := Lib.hid (show ∀ W, Below (w.heap.size + 1) (w.alloc (.cells #[.slice au l.length du, .slice a b.length d] 40 (0, 0))) W → W.cell? ⟨w.heap.size, 0, none⟩ = some (.slice au l.length du) ∧ W.cell? ⟨w.heap.size, 1, none⟩ = some (.slice a b.length d) ∧ Below w.heap.size w W from fun W h => by
    have h1 := heap_alloc_new w (.cells #[.slice au l.length du, .slice a b.length d] 40 (0, 0))
    refine ⟨?_, ?_, hB1.trans (h.mono (by omega))⟩
    · rw [h.cell (p := ⟨w.heap.size, 0, none⟩) (by show w.heap.size < _; omega)]; unfold World.cell?; rw [h1]; rfl
    · rw [h.cell (p := ⟨w.heap.size, 1, none⟩) (by show w.heap.size < _; omega)]; unfold World.cell?; rw [h1]; rfl)
  have HZ : Hid ((w.alloc (.cells #[.slice au l.length du, .slice a b.length d] 40 (0, 0))).heap.size = w.heap.size + 1) := Lib.hid (by simp)
  have HU := Lib.hid hu
  have HB := Lib.hid hb
  have HF := Lib.hid (far_any _ l _ (hu.below hB1 (Nat.le_refl _)) hl hm)
  have HM := Lib.hid hm
  have HOK := Lib.hid hok
  have HML := Lib.hid hs
  have hs' := hs
  have hl' := hl
  have hbl' := hbl
  unfold maxLen at hs' hl' hbl'
  clear hs hl hbl hu hb hm hok
  by_cases h1 : 70 < s.size
  · have d1 : decide ((70 : Int) < s.size) = true := decide_eq_true (by omega)
    go_enter Try.func5, Try.ntmps5
    go_wp2_with fail
    refine (HSH.out _).mono ?_
    rintro e w2 ⟨rfl, hB⟩
    go_wp2_with fail
    go_ret
    exact ⟨rfl, hB1.trans (hB.mono hB1.size)⟩
  have d1 : decide ((70 : Int) < s.size) = false := decide_eq_false (by omega)
  clear h1
  have h70 : Hid (∀ fb : Bool, fb = false → (fb = false → l.length ≤ 70) → l.length ≤ 70) := Lib.hid (fun _ h k => k h)
  by_cases h2 : 1000 < b.length
  · have d2 : decide ((1000 : Int) < b.length) = true := decide_eq_true (by omega)
    clear h2
    go_enter Try.func5, Try.ntmps5
    go_wp2_with fail
    refine HF.out.mono ?_
    rintro e w2 ⟨fb, rfl, -, hB2⟩
    rw [HZ.out] at hB2
    obtain ⟨c0, c1, hb2⟩ := HC.out w2 hB2
    have HB2 := Lib.hid hb2
    clear hB2 hb2
    cases fb
    all_goals
      go_wp2_with fail
      refine (HSH.out _).mono ?_
      rintro e w5 ⟨rfl, hB5⟩
      go_wp2_with fail
      go_ret
      exact ⟨rfl, HB2.out.trans (hB5.mono HB2.out.size)⟩
  have d2 : decide ((1000 : Int) < b.length) = false := decide_eq_false (by omega)
  have hb1000 : b.length ≤ 1000 := by omega
  clear h2
  have HBN := Lib.hid hb1000
  have HEN := Lib.hid (fun (W : World) (hW : Below w.heap.size w W) => encode_any s _ l W HML.out (HU.out.below hW (Nat.le_refl _)) HOK.out (by unfold maxLen; omega))
  unfold EncPost at HEN
  by_cases he : encE s.data.toList l = 0
  · have HD1 := Lib.hid (fun (W : World) (v : Value) (hv : ∃ x y, v = .slice x (encL s.data.toList l ++ b).length y ∧ (encL s.data.toList l ++ b).length ≤ y) (hb : BytesAt W v (encL s.data.toList l ++ b)) =>
      show Calls Try.prog 15 #[.string s, v] W fun e w' => ∃ u, e = .returned (.tuple #[u, .int .i64 (encL s.data.toList l).length, .int .i64 0]) ∧ ValsAt w' u l ∧ Below W.heap.size W w' from by
        have h := decode_any s v _ W HML.out hv hb (by rw [List.length_append]; have := encL_len s.data.toList l; unfold maxLen; omega)
        rw [round_dec b he HOK.out] at h
        exact h)
    have HD2 := Lib.hid (fun (W : World) (x : Option Addr) (y k : Nat) (hk : k < (encL s.data.toList l).length) (hy : k ≤ y) (hb : BytesAt W (.slice x k y) ((encL s.data.toList l).take k)) =>
      show Calls Try.prog 15 #[.string s, .slice x k y] W fun e w' => ∃ x d, e = .returned (.tuple #[.slice x 0 d, .int .i64 0, .int .i64 10]) ∧ Below W.heap.size W w' from by
        have hkl : ((encL s.data.toList l).take k).length = k := by rw [List.length_take]; omega
        have h := decode_any s (.slice x k y) _ W HML.out ⟨x, y, by rw [hkl], by rw [hkl]; exact hy⟩ hb (by rw [hkl]; have := encL_len s.data.toList l; unfold maxLen; omega)
        rw [round_cut k he HOK.out hk] at h
        refine h.mono fun e w' ⟨u, h1, h2, h3⟩ => ?_
        obtain ⟨x, d, rfl⟩ := h2.shape
        exact ⟨x, d, h1, h3⟩)
    have HEN := Lib.hid (fun (W : World) (hW : Below w.heap.size w W) => encode_cap s _ l W HML.out (HU.out.below hW (Nat.le_refl _)) HOK.out (by unfold maxLen; omega))
    unfold EncCap at HEN
    have hEn := encL_len s.data.toList l
    rw [he] at HEN
    have HSV := Lib.hid (fun (W : World) (v : Value) (hv : ValsAt W v l) (hW : Below w.heap.size w W) => sameV_any v _ l W hv (HU.out.below hW (Nat.le_refl _)) (by unfold maxLen; omega) (fun x hx => (HM.out x hx).2))
    generalize encL s.data.toList l = E at *
    obtain ⟨n, hn⟩ : ∃ n, E.length = n := ⟨_, rfl⟩
    have HN := Lib.hid hn
    rw [hn] at HD1 HD2 HEN hEn
    clear hn he
    go_enter Try.func5, Try.ntmps5
    go_wp2_with fail
    refine HF.out.mono ?_
    rintro e w2 ⟨fb, rfl, -, hX2⟩
    rw [HZ.out] at hX2
    obtain ⟨c0, c1, hb2⟩ := HC.out w2 hX2
    have HE2 := Lib.hid (HEN.out w2 hb2)
    have HB2 := Lib.hid hb2
    have HX2 := Lib.hid hX2
    clear hX2 hb2
    cases fb
    · go_wp2_with fail
      refine HE2.out.mono ?_
      rintro e w3 ⟨ac, dc, rfl, hc, hcap, hB3⟩
      have HX3 := Lib.hid (HX2.out.trans (hB3.mono (by have := HX2.out.size; rw [HZ.out] at this; exact this)))
      obtain ⟨c0, c1, hb3⟩ := HC.out w3 HX3.out
      have HB3 := Lib.hid hb3
      have HCC := Lib.hid (show BytesAt w3 (.slice ac E.length dc) E by rw [HN.out]; exact hc)
      obtain ⟨g1, k1, w4, g2, k2, w5, hr1, hr2, hy5, hk5, hB4, hB5⟩ := two_bytes (W := w3.drew) (hc.below (below_drew (Below.refl w3.heap.size w3)) (Nat.le_refl _)) (HB.out.below (below_drew hb3) (Nat.le_refl _)) (by rw [HN.out]; omega)
      obtain ⟨m, hm⟩ : ∃ m, (E ++ b).length = m := ⟨_, rfl⟩
      rw [HN.out] at hr1 hr2
      rw [hm] at hr2 hy5 hk5 HD1
      have hB34 : Below w3.heap.size w3 w4 := (below_drew (Below.refl w3.heap.size w3)).trans hB4
      have hB35 : Below w3.heap.size w3 w5 := (below_drew (Below.refl w3.heap.size w3)).trans hB5
      have hs3 : w.heap.size + 1 ≤ w3.heap.size := by have := HX3.out.size; rw [HZ.out] at this; exact this
      have HS3 := Lib.hid hs3
      have HB35 := Lib.hid hB35
      have hr1' : Sem.run Try.prog (appB 25 #[.slice (some ⟨w3.heap.size, 0, none⟩) 0 0, .slice ac n dc]) ((w3.alloc (.cells #[] 5 (0, 0))).drew) = .ok (.slice (some ⟨g1, 0, none⟩) n k1) w4 := hr1
      have c1d : w3.drew.cell? ⟨w.heap.size, 1, none⟩ = some (.slice a b.length d) := (HC.out _ (HX3.out.trans (below_drew (Below.refl _ w3)))).2.1
      have hA3 : Below w3.heap.size w3 (w3.alloc (.cells #[] 5 (0, 0))) := (Below.refl _ w3).alloc (Nat.le_refl _) _
      have c1a : (w3.alloc (.cells #[] 5 (0, 0))).cell? ⟨w.heap.size, 1, none⟩ = some (.slice a b.length d) := (HC.out _ (HX3.out.trans (hA3.mono hs3))).2.1
      have c1b : (w3.alloc (.cells #[] 5 (0, 0))).drew.cell? ⟨w.heap.size, 1, none⟩ = some (.slice a b.length d) := (HC.out _ (HX3.out.trans (below_drew (hA3.mono hs3)))).2.1
      have c14 := (HC.out _ (HX3.out.trans (hB34.mono hs3))).2.1
      have c15 := (HC.out _ (HX3.out.trans (hB35.mono hs3))).2.1
      have HD5 := Lib.hid (HD1.out w5 (.slice (some ⟨g2, 0, none⟩) m k2) ⟨_, _, rfl, hk5⟩ hy5)
      have HCW := Lib.hid (fun W (h : Below w5.heap.size w5 W) => show W.cell? ⟨w.heap.size, 1, none⟩ = some (.slice a b.length d) from (HC.out _ (HX3.out.trans (HB35.out.trans (h.mono HB35.out.size) |>.mono HS3.out))).2.1)
      have hEn' := hEn
      clear hc hB3 hb3 hm hr1 hy5 hk5 hB4 hB5 hB34 hB35 hA3 hs3
      go_wp2_with fail
      go_region_held3 (fun W' => W'.cell? ⟨w.heap.size, 1, none⟩ = some (.slice a b.length d)) (first | assumption | exact c1d | exact c1b | exact c1a)
        ((go_at_call 15; (with_reducible refine HD5.out.mono ?_); rintro e w6 ⟨u, rfl, hu, hB6⟩; have h16 := HCW.out w6 hB6))
      have HB6 := Lib.hid ((HC.out _ (HX3.out.trans (HB35.out.trans (hB6.mono HB35.out.size) |>.mono HS3.out))).2.2)
      have c06 := (HC.out _ (HX3.out.trans (HB35.out.trans (hB6.mono HB35.out.size) |>.mono HS3.out))).1
      have HB36 := Lib.hid (HB35.out.trans (hB6.mono HB35.out.size))
      have HV6 := Lib.hid (HSV.out w6 u hu HB6.out)
      obtain ⟨au6, du6, rfl⟩ := hu.shape
      clear hu hB6 hr1' hr2 c1d c1a c1b c14 c15 HD5 HCW
      go_wp2_with fail
      refine HV6.out.mono ?_
      rintro e w7 ⟨rfl, hB7⟩
      have HB7 := Lib.hid (HB6.out.trans (hB7.mono HB6.out.size))
      have HB37 := Lib.hid (HB36.out.trans (hB7.mono (HB36.out.size)))
      clear hB7 HV6
      by_cases h0 : n = 0
      · subst h0
        go_wp2_with fail
        refine (HSH.out _).mono ?_
        rintro e w8 ⟨rfl, hB8⟩
        go_wp2_with fail
        go_ret
        exact ⟨rfl, HB7.out.trans (hB8.mono HB7.out.size)⟩
      · have hnz : ((n : Int) == 0) = false := by simp; omega
        have hqw : IntKind.i64.wrap (q : Int) = q := by rw [IntKind.wrap_i64]; omega
        have hmod : Int.tmod (q : Int) (n : Int) = ((q % n : Nat) : Int) := rfl
        have hk : q % n < n := Nat.mod_lt _ (by omega)
        generalize q % n = k at *
        have hkd : k ≤ dc := by omega
        have HDC := Lib.hid (HD2.out w7 ac dc k hk hkd (((HCC.out.below HB37.out (Nat.le_refl _)).take k (by rw [HN.out]; omega))))
        go_wp2_with fail
        refine HDC.out.mono ?_
        rintro e w8 ⟨x8, d8, rfl, hB8⟩
        have HB8 := Lib.hid (HB7.out.trans (hB8.mono HB7.out.size))
        clear hB8
        go_wp2_with fail
        refine (HSH.out _).mono ?_
        rintro e w9 ⟨rfl, hB9⟩
        go_wp2_with fail
        go_ret
        exact ⟨rfl, HB8.out.trans (hB9.mono HB8.out.size)⟩
    · go_wp2_with fail
      refine (HSH.out _).mono ?_
      rintro e w5 ⟨rfl, hB5⟩
      go_wp2_with fail
      go_ret
      exact ⟨rfl, HB2.out.trans (hB5.mono HB2.out.size)⟩
  · have e1 := encL_bad he
    have hz : (((encE s.data.toList l : Nat) : Int) == 0) = false := by simp; omega
    rw [e1] at HEN
    generalize encE s.data.toList l = er at *
    clear e1 he
    go_enter Try.func5, Try.ntmps5
    go_wp2_with fail
    refine HF.out.mono ?_
    rintro e w2 ⟨fb, rfl, -, hB2⟩
    rw [HZ.out] at hB2
    obtain ⟨c0, c1, hb2⟩ := HC.out w2 hB2
    have HE2 := Lib.hid (HEN.out w2 hb2)
    have HB2 := Lib.hid hb2
    clear hB2 hb2
    cases fb
    · go_wp2_with fail
      refine HE2.out.mono ?_
      rintro e w3 ⟨c, rfl, hc, hB3⟩
      obtain ⟨ac, dc, rfl⟩ := hc.shape
      have HB3 := Lib.hid (HB2.out.trans (hB3.mono HB2.out.size))
      clear hc hB3
      go_wp2_with fail
      refine (HSH.out _).mono ?_
      rintro e w5 ⟨rfl, hB5⟩
      go_wp2_with fail
      go_ret
      exact ⟨rfl, HB3.out.trans (hB5.mono HB3.out.size)⟩
    · go_wp2_with fail
      refine (HSH.out _).mono ?_
      rintro e w5 ⟨rfl, hB5⟩
      go_wp2_with fail
      go_ret
      exact ⟨rfl, HB2.out.trans (hB5.mono HB2.out.size)⟩
end Go.Proofs.Ytnocmkjaifjgfaa.R
