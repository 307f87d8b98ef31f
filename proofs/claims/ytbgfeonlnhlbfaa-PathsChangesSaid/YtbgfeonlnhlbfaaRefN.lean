/- The reference: Move. -/
import Derived.Test.YtbgfeonlnhlbfaaRefM
namespace Go.Proofs.Ytbgfeonlnhlbfaa
open Go.RowKit
attribute [local go_sem ↓] Go.wp_at_zero Go.wp_at_succ

theorem threeE_both (ps fs ts : List ByteArray) : threeE ps fs ts = if bothE ps fs = 0 then checkE (bsL ts) else bothE ps fs := by
  unfold threeE bothE
  simp only [bsP, List.map_cons, List.map_nil, checksE]
  by_cases h1 : checkE (bsL ps) = 0
  · by_cases h2 : checkE (bsL fs) = 0
    · by_cases h3 : checkE (bsL ts) = 0
      · simp [h1, h2, h3]
      · simp [h1, h2, h3]
    · simp [h1, h2]
  · simp [h1]

set_option maxHeartbeats 8000000 in
set_option maxRecDepth 100000 in
theorem MoveR_any (v1 v2 v3 : Value) (ps fs ts : List ByteArray) (w : World) (h1 : StrsAt w v1 ps) (h2 : StrsAt w v2 fs) (h3 : StrsAt w v3 ts) (m1 : Modest ps) (m2 : Modest fs) (m3 : Modest ts) (l1 : ps.length ≤ 1000) (l2 : fs.length ≤ 1000) (l3 : ts.length ≤ 1000) :
    Calls Try.prog 33 #[v1, v2, v3] w fun e w' => ∃ v, e = .returned (.tuple #[v, .int .i64 (MoveE ps fs ts)]) ∧ StrsAt w' v (MoveP ps fs ts) ∧ Below w.heap.size w w' := by
  have HB := Lib.hid (bothR_any v1 v2 ps fs w h1 h2 m1 m2)
  have HC := Lib.hid (fun w1 (hb : Below w.heap.size w w1) => checkR_any v3 ts w1 (h3.below hb) m3)
  have HL := Lib.hid (fun w1 (hb : Below w.heap.size w w1) => commonR_any v1 v2 ps fs w1 (h1.below hb) (h2.below hb) l1 l2)
  have H1 := Lib.hid h1
  have H3 := Lib.hid h3
  have hcm := comN_le (bsL ps) (bsL fs)
  rw [List.length_map, List.length_map] at hcm
  have HTE := Lib.hid (threeE_both ps fs ts)
  obtain ⟨a2, c2, rfl⟩ := h2.shape
  obtain ⟨a3, c3, rfl⟩ := h3.shape
  by_cases h0 : bothE ps fs = 0
  · rw [if_pos h0] at HTE
    rw [h0] at HB
    by_cases ht : checkE (bsL ts) = 0
    · have h30 := Lib.hid (HTE.out.trans ht)
      have hz := bothE_zero.1 h0
      have lp8 : ps.length ≤ 8 := by have := (checkE_zero.1 hz.1).1; rwa [List.length_map] at this
      have lf8 : fs.length ≤ 8 := by have := (checkE_zero.1 hz.2).1; rwa [List.length_map] at this
      have lt8 : ts.length ≤ 8 := by have := (checkE_zero.1 ht).1; rwa [List.length_map] at this
      rw [ht] at HC
      by_cases hk : comN (bsL ps) (bsL fs) = fs.length
      · have hu : underB ps fs = true := decide_eq_true hk
        rw [hk] at HL hcm
        have hle := hcm.1
        have hdl : (ps.drop fs.length).length = ps.length - fs.length := List.length_drop
        by_cases h8 : 8 < ts.length + (ps.length - fs.length)
        · have HE := Lib.hid (show MoveE ps fs ts = 3 by unfold MoveE concE; rw [if_pos h30.out, if_pos hu, hdl, if_pos h8])
          have HP := Lib.hid (show MoveP ps fs ts = [] by unfold MoveP concP; rw [if_pos ⟨h30.out, hu⟩, hdl, if_pos h8])
          rw [HE.out, HP.out]
          obtain ⟨a1, c1, rfl⟩ := h1.shape
          have k8 : decide ((8 : Int) < (ts.length : Int) + (ps.length : Int) - (fs.length : Int)) = true := by simp; omega
          clear h1 h2 h3 m1 m2 m3
          clear h0 ht hz hk hu h30 HTE HE HP h8 hdl hcm
          go_enter Try.func33, Try.ntmps33
          go_wp2_with fail
          refine HB.out.mono ?_
          rintro e w1 ⟨rfl, hb1⟩
          go_wp2_with fail
          refine (HC.out w1 hb1).mono ?_
          rintro e w2 ⟨rfl, hb2⟩
          have hb12 := hb1.trans (hb2.mono hb1.size)
          clear hb2
          go_wp2_with fail
          refine (HL.out w2 hb12).mono ?_
          rintro e w3 ⟨rfl, n3, rfl⟩
          have hb3 := hb12.trans ((drewN_bel w2 n3).mono hb12.size)
          go_wp2_with fail
          go_ret2
          exact ⟨.slice none 0 0, rfl, .inl ⟨_, _, rfl, rfl⟩, hb3⟩
        · have HE := Lib.hid (show MoveE ps fs ts = 0 by unfold MoveE concE; rw [if_pos h30.out, if_pos hu, hdl, if_neg h8])
          have HP := Lib.hid (show MoveP ps fs ts = ts ++ ps.drop fs.length by unfold MoveP concP; rw [if_pos ⟨h30.out, hu⟩, hdl, if_neg h8])
          rw [HE.out, HP.out]
          have k8 : decide ((8 : Int) < (ts.length : Int) + (ps.length : Int) - (fs.length : Int)) = false := by simp; omega
          clear h0 ht hz hk hu h30 HTE HE HP h8 hcm
          have HDL := Lib.hid hdl
          clear hdl
          obtain ⟨dp, hdp⟩ : ∃ dp, ps.drop fs.length = dp := ⟨_, rfl⟩
          rw [hdp] at HDL ⊢
          have HPD := Lib.hid hdp
          clear hdp
          have q0 : (0 : Int) ≤ (fs.length : Int) := by omega
          have q1 : (fs.length : Int) ≤ (ps.length : Int) := by omega
          rcases h1 with ⟨a1, c1, rfl, rfl⟩ | ⟨b1, o1, c1, rfl, hc1, hb1', -⟩
          · have hf0 : fs = [] := List.eq_nil_of_length_eq_zero (by simpa using hle)
            subst hf0
            have HDP : Hid (∀ W, Below w.heap.size w W → StrsAt W (.slice a1 0 c1) dp) := Lib.hid (fun W _ => .inl ⟨_, _, rfl, by rw [← HPD.out]; rfl⟩)
            clear h2 h3 m1 m2 m3 q0 q1
            go_enter Try.func33, Try.ntmps33
            go_wp2_with fail
            refine HB.out.mono ?_
            rintro e w1 ⟨rfl, hb1⟩
            go_wp2_with fail
            refine (HC.out w1 hb1).mono ?_
            rintro e w2 ⟨rfl, hb2⟩
            have hb12 := hb1.trans (hb2.mono hb1.size)
            clear hb2
            go_wp2_with fail
            refine (HL.out w2 hb12).mono ?_
            rintro e w3 ⟨rfl, n3, rfl⟩
            have hb3 := hb12.trans ((drewN_bel w2 n3).mono hb12.size)
            go_wp2_with fail
            have hs3 := hb3.size
            have HSD : Hid (∀ W', Below w.heap.size w W' → Below w.heap.size w W'.drew) := Lib.hid (fun W' h => h.drew)
            have HSA : Hid (∀ W' ob, Below w.heap.size w W' → Below w.heap.size w (W'.alloc ob)) := Lib.hid (fun W' ob h => h.alloc h.size _)
            have HB2 : Hid (Below w.heap.size w ((w2.drewN n3).alloc (.cells #[] 9)).drew) := Lib.hid (hb3.alloc hs3 _).drew
            have HO2 : Hid (((w2.drewN n3).alloc (.cells #[] 9)).drew.ownsRow w.heap.size 9 1 (.slice (some ⟨(w2.drewN n3).heap.size, 0, none⟩) 0 0) 0 []) := Lib.hid (made0 (w2.drewN n3) _ hs3).drew
            have HGR : Hid (∀ W2, ((w2.drewN n3).alloc (.cells #[] 9)).drew.grownBy W2 (Value.slice (some ⟨(w2.drewN n3).heap.size, 0, none⟩) 0 0).ownBlock → Below w.heap.size w W2) := Lib.hid (fun W2 hg => HB2.out.grown hg HB2.out.size (fun j e => (HO2.out.lt j e).1))
            go_region_held3 (fun W' => Below w.heap.size w W') (first | assumption | exact HSD.out _ (by assumption) | exact HSA.out _ _ (by assumption) | exact HGR.out _ hgrow | exact Below.grown (a := w) (w := w4) (by assumption) hgrow2 (Below.size (by assumption)) (fun j e => (ho4.lt j e).1))
              ((first
                | (refine step_append_strs (by rfl) _ _ (by rfl) w.heap.size (.slice (some ⟨(w2.drewN n3).heap.size, 0, none⟩) 0 0) (.slice a3 ts.length c3) 0 [] ts (by rfl) (by rfl) HO2.out ⟨_, _, rfl⟩ (H3.out.below HB2.out) (by omega) HB2.out.size ?_; intro g1 e1 w4 ho4 hgrow)
                | (refine step_append_strs (by rfl) _ _ (by rfl) w.heap.size (.slice (some ⟨g1, 0, none⟩) (0 + ts.length) e1) (.slice a1 0 c1) (0 + ts.length) ([] ++ cellsL ts) dp (by rfl) (by rfl) ho4 ⟨_, _, rfl⟩ (HDP.out _ (HGR.out _ hgrow)) (by rw [HDL.out]; omega) (HGR.out _ hgrow).size ?_; intro g2 e2 w5 ho5 hgrow2)))
            all_goals go_wp2
            have hb4 := HGR.out _ hgrow
            have hb5 : Below w.heap.size w w5 := hb4.grown hgrow2 hb4.size (fun j e => (ho4.lt j e).1)
            have HF : Hid (StrsAt w5 (.slice (some ⟨g2, 0, none⟩) (ts.length + dp.length) e2) (ts ++ dp)) := Lib.hid (strs_of_row (base := w.heap.size) (by simpa [cellsL] using ho5))
            clear hb4 ho4 ho5 hgrow hgrow2
            go_ret2
            exact ⟨.slice (some ⟨g2, 0, none⟩) (ts.length + dp.length) e2, rfl, HF.out, hb5⟩
          · by_cases hcc : c1 = fs.length
            · subst hcc
              have HDP : Hid (∀ W, Below w.heap.size w W → StrsAt W (.slice (some ⟨b1, o1, none⟩) 0 0) dp) := Lib.hid (fun W _ => .inl ⟨_, _, rfl, by rw [← HPD.out]; exact List.drop_eq_nil_of_le (by omega)⟩)
              have q2 : (ps.length : Int) ≤ (fs.length : Int) := by omega
              clear h2 h3 m1 m2 m3 H1 HPD
              go_enter Try.func33, Try.ntmps33
              go_wp2_with fail
              refine HB.out.mono ?_
              rintro e w1 ⟨rfl, hb1⟩
              go_wp2_with fail
              refine (HC.out w1 hb1).mono ?_
              rintro e w2 ⟨rfl, hb2⟩
              have hb12 := hb1.trans (hb2.mono hb1.size)
              clear hb2
              go_wp2_with fail
              refine (HL.out w2 hb12).mono ?_
              rintro e w3 ⟨rfl, n3, rfl⟩
              have hb3 := hb12.trans ((drewN_bel w2 n3).mono hb12.size)
              go_wp2_with fail
              have hs3 := hb3.size
              have HSD : Hid (∀ W', Below w.heap.size w W' → Below w.heap.size w W'.drew) := Lib.hid (fun W' h => h.drew)
              have HSA : Hid (∀ W' ob, Below w.heap.size w W' → Below w.heap.size w (W'.alloc ob)) := Lib.hid (fun W' ob h => h.alloc h.size _)
              have HB2 : Hid (Below w.heap.size w ((w2.drewN n3).alloc (.cells #[] 9)).drew) := Lib.hid (hb3.alloc hs3 _).drew
              have HO2 : Hid (((w2.drewN n3).alloc (.cells #[] 9)).drew.ownsRow w.heap.size 9 1 (.slice (some ⟨(w2.drewN n3).heap.size, 0, none⟩) 0 0) 0 []) := Lib.hid (made0 (w2.drewN n3) _ hs3).drew
              have HGR : Hid (∀ W2, ((w2.drewN n3).alloc (.cells #[] 9)).drew.grownBy W2 (Value.slice (some ⟨(w2.drewN n3).heap.size, 0, none⟩) 0 0).ownBlock → Below w.heap.size w W2) := Lib.hid (fun W2 hg => HB2.out.grown hg HB2.out.size (fun j e => (HO2.out.lt j e).1))
              go_region_held3 (fun W' => Below w.heap.size w W') (first | assumption | exact HSD.out _ (by assumption) | exact HSA.out _ _ (by assumption) | exact HGR.out _ hgrow | exact Below.grown (a := w) (w := w4) (by assumption) hgrow2 (Below.size (by assumption)) (fun j e => (ho4.lt j e).1))
                ((first
                  | (refine step_append_strs (by rfl) _ _ (by rfl) w.heap.size (.slice (some ⟨(w2.drewN n3).heap.size, 0, none⟩) 0 0) (.slice a3 ts.length c3) 0 [] ts (by rfl) (by rfl) HO2.out ⟨_, _, rfl⟩ (H3.out.below HB2.out) (by omega) HB2.out.size ?_; intro g1 e1 w4 ho4 hgrow)
                  | (refine step_append_strs (by rfl) _ _ (by rfl) w.heap.size (.slice (some ⟨g1, 0, none⟩) (0 + ts.length) e1) (.slice (some ⟨b1, o1, none⟩) 0 0) (0 + ts.length) ([] ++ cellsL ts) dp (by rfl) (by rfl) ho4 ⟨_, _, rfl⟩ (HDP.out _ (HGR.out _ hgrow)) (by rw [HDL.out]; omega) (HGR.out _ hgrow).size ?_; intro g2 e2 w5 ho5 hgrow2)))
              all_goals go_wp2
              have hb4 := HGR.out _ hgrow
              have hb5 : Below w.heap.size w w5 := hb4.grown hgrow2 hb4.size (fun j e => (ho4.lt j e).1)
              have HF : Hid (StrsAt w5 (.slice (some ⟨g2, 0, none⟩) (ts.length + dp.length) e2) (ts ++ dp)) := Lib.hid (strs_of_row (base := w.heap.size) (by simpa [cellsL] using ho5))
              clear hb4 ho4 ho5 hgrow hgrow2
              go_ret2
              exact ⟨.slice (some ⟨g2, 0, none⟩) (ts.length + dp.length) e2, rfl, HF.out, hb5⟩
            · have HDP : Hid (∀ W, Below w.heap.size w W → StrsAt W (.slice (some ⟨b1, o1 + fs.length, none⟩) (ps.length - fs.length) (c1 - fs.length)) dp) := Lib.hid (fun W hb => by rw [← HPD.out]; exact (H1.out.below hb).dropS fs.length hle rfl)
              have q2 : (ps.length : Int) ≤ (c1 : Int) := by omega
              have q3 : ¬ (c1 : Int) = (fs.length : Int) := by omega
              clear h2 h3 m1 m2 m3 HPD
              go_enter Try.func33, Try.ntmps33
              go_wp2_with fail
              refine HB.out.mono ?_
              rintro e w1 ⟨rfl, hb1⟩
              go_wp2_with fail
              refine (HC.out w1 hb1).mono ?_
              rintro e w2 ⟨rfl, hb2⟩
              have hb12 := hb1.trans (hb2.mono hb1.size)
              clear hb2
              go_wp2_with fail
              refine (HL.out w2 hb12).mono ?_
              rintro e w3 ⟨rfl, n3, rfl⟩
              have hb3 := hb12.trans ((drewN_bel w2 n3).mono hb12.size)
              go_wp2_with fail
              have hs3 := hb3.size
              have HSD : Hid (∀ W', Below w.heap.size w W' → Below w.heap.size w W'.drew) := Lib.hid (fun W' h => h.drew)
              have HSA : Hid (∀ W' ob, Below w.heap.size w W' → Below w.heap.size w (W'.alloc ob)) := Lib.hid (fun W' ob h => h.alloc h.size _)
              have HB2 : Hid (Below w.heap.size w ((w2.drewN n3).alloc (.cells #[] 9)).drew) := Lib.hid (hb3.alloc hs3 _).drew
              have HO2 : Hid (((w2.drewN n3).alloc (.cells #[] 9)).drew.ownsRow w.heap.size 9 1 (.slice (some ⟨(w2.drewN n3).heap.size, 0, none⟩) 0 0) 0 []) := Lib.hid (made0 (w2.drewN n3) _ hs3).drew
              have HGR : Hid (∀ W2, ((w2.drewN n3).alloc (.cells #[] 9)).drew.grownBy W2 (Value.slice (some ⟨(w2.drewN n3).heap.size, 0, none⟩) 0 0).ownBlock → Below w.heap.size w W2) := Lib.hid (fun W2 hg => HB2.out.grown hg HB2.out.size (fun j e => (HO2.out.lt j e).1))
              go_region_held3 (fun W' => Below w.heap.size w W') (first | assumption | exact HSD.out _ (by assumption) | exact HSA.out _ _ (by assumption) | exact HGR.out _ hgrow | exact Below.grown (a := w) (w := w4) (by assumption) hgrow2 (Below.size (by assumption)) (fun j e => (ho4.lt j e).1))
                ((first
                  | (refine step_append_strs (by rfl) _ _ (by rfl) w.heap.size (.slice (some ⟨(w2.drewN n3).heap.size, 0, none⟩) 0 0) (.slice a3 ts.length c3) 0 [] ts (by rfl) (by rfl) HO2.out ⟨_, _, rfl⟩ (H3.out.below HB2.out) (by omega) HB2.out.size ?_; intro g1 e1 w4 ho4 hgrow)
                  | (refine step_append_strs (by rfl) _ _ (by rfl) w.heap.size (.slice (some ⟨g1, 0, none⟩) (0 + ts.length) e1) (.slice (some ⟨b1, o1 + fs.length, none⟩) (ps.length - fs.length) (c1 - fs.length)) (0 + ts.length) ([] ++ cellsL ts) dp (by rfl) (by rfl) ho4 ⟨_, _, rfl⟩ (HDP.out _ (HGR.out _ hgrow)) (by rw [HDL.out]; omega) (HGR.out _ hgrow).size ?_; intro g2 e2 w5 ho5 hgrow2)))
              all_goals go_wp2
              have hb4 := HGR.out _ hgrow
              have hb5 : Below w.heap.size w w5 := hb4.grown hgrow2 hb4.size (fun j e => (ho4.lt j e).1)
              have HF : Hid (StrsAt w5 (.slice (some ⟨g2, 0, none⟩) (ts.length + dp.length) e2) (ts ++ dp)) := Lib.hid (strs_of_row (base := w.heap.size) (by simpa [cellsL] using ho5))
              clear hb4 ho4 ho5 hgrow hgrow2
              go_ret2
              exact ⟨.slice (some ⟨g2, 0, none⟩) (ts.length + dp.length) e2, rfl, HF.out, hb5⟩
      · have hu : underB ps fs = false := decide_eq_false hk
        have HE := Lib.hid (show MoveE ps fs ts = 4 by unfold MoveE; rw [if_pos h30.out, if_neg (by rw [hu]; decide)])
        have HP := Lib.hid (show MoveP ps fs ts = [] by unfold MoveP; rw [if_neg (fun h => by rw [hu] at h; exact absurd h.2 (by decide))])
        rw [HE.out, HP.out]
        obtain ⟨a1, c1, rfl⟩ := h1.shape
        generalize comN (bsL ps) (bsL fs) = kk at *
        have k4 : ((kk : Int) != (fs.length : Int)) = true := by simp; omega
        clear h1 h2 h3 m1 m2 m3
        clear h0 ht hz hk hu h30 HTE HE HP hcm
        go_enter Try.func33, Try.ntmps33
        go_wp2_with fail
        refine HB.out.mono ?_
        rintro e w1 ⟨rfl, hb1⟩
        go_wp2_with fail
        refine (HC.out w1 hb1).mono ?_
        rintro e w2 ⟨rfl, hb2⟩
        have hb12 := hb1.trans (hb2.mono hb1.size)
        clear hb2
        go_wp2_with fail
        refine (HL.out w2 hb12).mono ?_
        rintro e w3 ⟨rfl, n3, rfl⟩
        have hb3 := hb12.trans ((drewN_bel w2 n3).mono hb12.size)
        go_wp2_with fail
        go_ret2
        exact ⟨.slice none 0 0, rfl, .inl ⟨_, _, rfl, rfl⟩, hb3⟩
    · have HE := Lib.hid (show MoveE ps fs ts = checkE (bsL ts) by unfold MoveE; rw [HTE.out, if_neg ht])
      have HP := Lib.hid (show MoveP ps fs ts = [] by unfold MoveP; rw [if_neg (fun h => ht (HTE.out.symm.trans h.1))])
      rw [HE.out, HP.out]
      obtain ⟨a1, c1, rfl⟩ := h1.shape
      obtain ⟨z, hz⟩ : ∃ z, z = checkE (bsL ts) := ⟨_, rfl⟩
      rw [← hz] at HC ht ⊢
      have hz' : (z != 0) = true := by simpa using ht
      have hz2 : (z == 0) = false := by simpa using ht
      clear h1 h2 h3 m1 m2 m3
      clear hz h0 HTE HE HP hcm
      go_enter Try.func33, Try.ntmps33
      go_wp2_with fail
      refine HB.out.mono ?_
      rintro e w1 ⟨rfl, hb1⟩
      go_wp2_with fail
      refine (HC.out w1 hb1).mono ?_
      rintro e w2 ⟨rfl, hb2⟩
      have hb12 := hb1.trans (hb2.mono hb1.size)
      clear hb2
      go_wp2_with fail
      go_ret2
      exact ⟨.slice none 0 0, rfl, .inl ⟨_, _, rfl, rfl⟩, hb12⟩
  · rw [if_neg h0] at HTE
    have HE := Lib.hid (show MoveE ps fs ts = bothE ps fs by unfold MoveE; rw [HTE.out, if_neg h0])
    have HP := Lib.hid (show MoveP ps fs ts = [] by unfold MoveP; rw [if_neg (fun h => h0 (HTE.out.symm.trans h.1))])
    rw [HE.out, HP.out]
    obtain ⟨a1, c1, rfl⟩ := h1.shape
    obtain ⟨z, hz⟩ : ∃ z, z = bothE ps fs := ⟨_, rfl⟩
    rw [← hz] at HB h0 ⊢
    have hz' : (z != 0) = true := by simpa using h0
    have hz2 : (z == 0) = false := by simpa using h0
    clear h1 h2 h3 m1 m2 m3
    clear hz HTE HE HP hcm
    go_enter Try.func33, Try.ntmps33
    go_wp2_with fail
    refine HB.out.mono ?_
    rintro e w1 ⟨rfl, hb1⟩
    go_wp2_with fail
    go_ret2
    exact ⟨.slice none 0 0, rfl, .inl ⟨_, _, rfl, rfl⟩, hb1⟩
end Go.Proofs.Ytbgfeonlnhlbfaa
