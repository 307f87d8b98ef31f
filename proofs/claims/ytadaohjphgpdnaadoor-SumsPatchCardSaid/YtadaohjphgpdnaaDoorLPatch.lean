/- The law SumsPatch: the walk. -/
import Derived.Test.YtadaohjphgpdnaaDoorRefPat
namespace Go.Proofs.YtadaohjphgpdnaaDoor
open Go.RowKit

set_option maxHeartbeats 400000 in
theorem same_any (u v : Value) (l : List UInt8) (w : World) (hu : BytesAt w u l) (hv : BytesAt w v l) (hl : l.length ≤ maxLen) :
    Calls Tryd.prog 24 #[u, v] w fun e w' => e = .returned (.bool true) ∧ Below w.heap.size w w' := by
  unfold maxLen at hl
  obtain ⟨s, d, rfl⟩ := hu.shape
  obtain ⟨s', d', rfl⟩ := hv.shape
  have HU := Lib.hid hu
  have HV := Lib.hid hv
  clear hu hv
  go_enter Tryd.func24, Tryd.ntmps24
  go_wp2_with fail
  go_loopw [5] (fun i wr => ∃ j : Nat, j ≤ l.length ∧ i = .int .i64 j ∧ Hid (Below w.heap.size w wr)) (fun i _ => l.length - (intOf i).toNat)
  case atStart => exact ⟨0, by omega, rfl, Lib.hid (Below.refl _ _)⟩
  case round =>
    obtain ⟨j, hj, rfl, hB⟩ := hrel
    by_cases hlt : j < l.length
    · rcases HU.out.below hB.out (Nat.le_refl _) with ⟨a, c, hva, hl0⟩ | ⟨g, i, c, hva, hg, hcs⟩
      · subst hl0; simp at hlt
      rcases HV.out.below hB.out (Nat.le_refl _) with ⟨a, c', hvb, hl0⟩ | ⟨g', i', c', hvb, hg', hcs'⟩
      · subst hl0; simp at hlt
      cases hva
      cases hvb
      have h1 := hcs j hlt
      have h2 := hcs' j hlt
      clear hcs hcs'
      go_wp2_with fail
      go_quiet (fail)
      go_wp2_with fail
      go_roundw
      case rel => exact ⟨j + 1, by omega, by go_num, Lib.hid (hB.out.trans ⟨rfl, rfl, rfl, Nat.le_refl _, fun _ _ => rfl⟩)⟩
      case measure => simp [intOf]; omega
    · obtain rfl : j = l.length := by omega
      go_wp2_with fail
      go_ret
      exact ⟨rfl, hB.out⟩

set_option maxHeartbeats 2000000 in
theorem sumsPatch_any (s : Option Addr) (d : Nat) (l : List UInt8) (at_ : Int) (want : Nat) (w : World) (hE : Env w) (hv : BytesAt w (.slice s l.length d) l) (hl : l.length ≤ maxLen) (hcap : l.length ≤ d) (hw : want < 4294967296) :
    Calls Tryd.prog 5 #[.slice s l.length d, .int .i64 at_, .int .u32 want] w fun e w' => e = .returned (.bool true) ∧ Below w.heap.size w w' := by
  have HS := Lib.hid (fun w (hE : Env w) => shown_any w hE)
  have h1 := hE.one
  by_cases a1 : 2000 < l.length
  · have d1 : decide ((2000 : Int) < l.length) = true := decide_eq_true (by omega)
    clear hv
    go_enter Tryd.func5, Tryd.ntmps5
    go_wp2_with fail
    refine (HS.out _ hE).mono ?_
    rintro e w2 ⟨rfl, hb⟩
    go_wp2_with fail
    go_ret
    exact ⟨rfl, hb⟩
  have d1 : decide ((2000 : Int) < l.length) = false := decide_eq_false (by omega)
  have hB0 := (Below.refl w.heap.size w).alloc (Nat.le_refl _) (.cells #[] 5 (0, 0))
  have HO0 := Lib.hid (made0 w w.heap.size (Nat.le_refl _))
  have HV0 := Lib.hid (hv.below hB0 (Nat.le_refl _))
  have HV := Lib.hid hv
  by_cases a2 : at_ < 0 ∨ (l.length : Int) - 4 < at_
  · have HP1 := Lib.hid (fun w (hv : BytesAt w (.slice s l.length d) l) => patch_no (.slice s l.length d) l at_ want w hv hl a2)
    have HP2 := Lib.hid (fun w (hv : BytesAt w (.slice s l.length d) l) => refPatch_no (.slice s l.length d) l at_ want w hv hl a2)
    clear hv a2
    go_enter Tryd.func5, Tryd.ntmps5
    go_wp2_with (at_builtin; refine wpList_append_bytes (by rfl) _ _ (by rfl) w.heap.size (.slice (some ⟨w.heap.size, 0, none⟩) 0 0) (.slice s l.length d) 0 [] l (by rfl) (by rfl) HO0.out ⟨_, _, rfl⟩ HV0.out (by omega) (by simp) ?_; intro g cap w1 hown hgr; rw [Nat.zero_add, List.nil_append] at hown; rw [Nat.zero_add]; have HB1 := Lib.hid (hB0.grown hgr (by simp) (fun k e => (HO0.out.lt k e).1)); have HOW := Lib.hid (show OwnBytes w1 w.heap.size g cap l from hown); clear hgr hown)
    have HA2 := Lib.hid (HP1.out w1 (HV.out.below HB1.out (Nat.le_refl _)))
    refine HA2.out.mono ?_
    rintro e w2 ⟨rfl, hb2⟩
    have hB2 := HB1.out.trans (hb2.mono HB1.out.size)
    have HOW2 := Lib.hid (HOW.out.below hb2)
    have HA3 := Lib.hid (HP2.out w2 (HV.out.below hB2 (Nat.le_refl _)))
    clear hb2 HA2 HOW HB1 HO0 HV0 hB0
    go_wp2_with fail
    refine HA3.out.mono ?_
    rintro e w3 ⟨rfl, hb3⟩
    have hB3 := hB2.trans (hb3.mono hB2.size)
    have HOW3 := Lib.hid (HOW2.out.below hb3)
    have HA4 := Lib.hid (same_any (.slice none 0 0) (.slice none 0 0) [] w3 (.inl ⟨_, _, rfl, rfl⟩) (.inl ⟨_, _, rfl, rfl⟩) (by simp))
    clear hb3 HA3 HOW2 hB2
    go_wp2_with fail
    refine HA4.out.mono ?_
    rintro e w4 ⟨rfl, hb4⟩
    have hB4 := hB3.trans (hb4.mono hB3.size)
    have HOW4 := Lib.hid (HOW3.out.below hb4)
    have HA5 := Lib.hid (same_any (.slice s l.length d) (.slice (some ⟨g, 0, none⟩) l.length cap) l w4 (HV.out.below hB4 (Nat.le_refl _)) HOW4.out.at_ hl)
    clear hb4 HA4 HOW3 hB3
    go_wp2_with fail
    refine HA5.out.mono ?_
    rintro e w5 ⟨rfl, hb5⟩
    have hB5 := hB4.trans (hb5.mono hB4.size)
    have HA6 := Lib.hid (HS.out w5 (hE.below hB5 h1))
    clear hb5 HA5 HOW4 hB4
    go_wp2_with fail
    refine HA6.out.mono ?_
    rintro e w6 ⟨rfl, hb6⟩
    have hB6 := hB5.trans (hb6.mono hB5.size)
    go_wp2_with fail
    go_ret
    exact ⟨rfl, hB6⟩
  · have a3 : ¬ at_ < 0 := fun q => a2 (.inl q)
    have a4 : ¬ (l.length : Int) - 4 < at_ := fun q => a2 (.inr q)
    obtain ⟨k, rfl⟩ := Int.eq_ofNat_of_zero_le (show 0 ≤ at_ by omega)
    have hk : k + 4 ≤ l.length := by omega
    have h2000 : l.length ≤ 2000 := by omega
    rcases id hv with ⟨a, c', hva, hl0⟩ | ⟨g0, i0, c', hva, hg, hcs⟩
    · subst hl0; simp at hk
    obtain ⟨rfl, rfl⟩ : s = some ⟨g0, i0, none⟩ ∧ d = c' := by cases hva; exact ⟨rfl, rfl⟩
    have HP1 := Lib.hid (fun w (hE : Env w) (hv : BytesAt w (.slice (some ⟨g0, i0, none⟩) l.length d) l) => callsIn_wide.1 (patch_in 8 (by omega) g0 i0 d l k want w hE hv hcap h2000 hk hw))
    have HP2 := Lib.hid (fun w (hv : BytesAt w (.slice (some ⟨g0, i0, none⟩) l.length d) l) => refPatch_any g0 i0 d l k want w hv hcap h2000 hk hw)
    have HPL := Kp.mk (patV_len l k want hk)
    have HPF := Kp.mk (fun i => patV_far l k want i hk)
    have HPC := Kp.mk (patV_crc l k want hw)
    generalize patV l k want = p at *
    clear hv hva hcs a1 a2 a3 a4
    go_enter Tryd.func5, Tryd.ntmps5
    go_wp2_with (at_builtin; refine wpList_append_bytes (by rfl) _ _ (by rfl) w.heap.size (.slice (some ⟨w.heap.size, 0, none⟩) 0 0) (.slice (some ⟨g0, i0, none⟩) l.length d) 0 [] l (by rfl) (by rfl) HO0.out ⟨_, _, rfl⟩ HV0.out (by omega) (by simp) ?_; intro g cap w1 hown hgr; rw [Nat.zero_add, List.nil_append] at hown; rw [Nat.zero_add]; have HB1 := Lib.hid (hB0.grown hgr (by simp) (fun k e => (HO0.out.lt k e).1)); have HOW := Lib.hid (show OwnBytes w1 w.heap.size g cap l from hown); clear hgr hown)
    have HA2 := Lib.hid (HP1.out w1 (hE.below HB1.out h1) (HV.out.below HB1.out (Nat.le_refl _)))
    refine HA2.out.mono ?_
    rintro e w2 ⟨_, rfl, ⟨xa, xc, hxv⟩, hx2, hb2⟩
    rw [HPL.out] at hxv
    subst hxv
    have hB2 := HB1.out.trans (hb2.mono HB1.out.size)
    have HOW2 := Lib.hid (HOW.out.below hb2)
    have HX2 := Lib.hid hx2
    have HA3 := Lib.hid (HP2.out w2 (HV.out.below hB2 (Nat.le_refl _)))
    clear hb2 HA2 HOW HB1 HO0 HV0 hB0 hx2
    go_wp2_with fail
    refine HA3.out.mono ?_
    rintro e w3 ⟨_, rfl, ⟨ya, yc, hyv⟩, hy3, hb3⟩
    rw [HPL.out] at hyv
    subst hyv
    have hB3 := hB2.trans (hb3.mono hB2.size)
    have HOW3 := Lib.hid (HOW2.out.below hb3)
    have HX3 := Lib.hid (HX2.out.below hb3 (Nat.le_refl _))
    have hpm : p.length ≤ maxLen := by rw [HPL.out]; exact hl
    have HPM := Lib.hid hpm
    have HA4 := Lib.hid (same_any (.slice (some xa) l.length xc) (.slice (some ya) l.length yc) p w3 HX3.out hy3 hpm)
    clear hb3 HA3 HOW2 hB2 HX2 hy3 hpm
    go_wp2_with fail
    refine HA4.out.mono ?_
    rintro e w4 ⟨rfl, hb4⟩
    have hB4 := hB3.trans (hb4.mono hB3.size)
    have HOW4 := Lib.hid (HOW3.out.below hb4)
    have HX4 := Lib.hid (HX3.out.below hb4 (Nat.le_refl _))
    have HA5 := Lib.hid (same_any (.slice (some ⟨g0, i0, none⟩) l.length d) (.slice (some ⟨g, 0, none⟩) l.length cap) l w4 (HV.out.below hB4 (Nat.le_refl _)) HOW4.out.at_ hl)
    clear hb4 HA4 HOW3 hB3 HX3
    go_wp2_with fail
    refine HA5.out.mono ?_
    rintro e w5 ⟨rfl, hb5⟩
    have hB5 := Lib.hid (hB4.trans (hb5.mono hB4.size))
    have HX5 := Lib.hid (HX4.out.below hb5 (Nat.le_refl _))
    clear hb5 HA5 HOW4 hB4 HX4
    go_wp2_with fail
    go_loopw [12] (fun i wr => ∃ j : Nat, j ≤ l.length ∧ i = .int .i64 j ∧ Hid (Below w.heap.size w wr) ∧ Hid (BytesAt wr (.slice (some xa) l.length xc) p)) (fun i _ => l.length - (intOf i).toNat)
    case atStart => exact ⟨0, by omega, rfl, hB5, HX5⟩
    case round =>
      obtain ⟨j, hj, rfl, hB, hX⟩ := hrel
      clear hB5 HX5
      by_cases hlt : j < l.length
      · rcases id hX.out with ⟨a, c, hva, hl0⟩ | ⟨g', i', c', hva, hg', hcs'⟩
        · have := HPL.out; subst hl0; simp at this; omega
        have hxc := hcs' j (by rw [HPL.out]; exact hlt)
        have hfar := HPF.out j
        rcases HV.out.below hB.out (Nat.le_refl _) with ⟨a, c, hvb, hl0⟩ | ⟨g2, i2, c2, hvb, hg2, hcs2⟩
        · subst hl0; simp at hlt
        have hlc := hcs2 j hlt
        have hpl : j < p.length := by rw [HPL.out]; exact hlt
        rw [List.getElem?_eq_getElem hlt, List.getElem?_eq_getElem hpl] at hfar
        obtain ⟨rfl, rfl⟩ : xa = ⟨g', i', none⟩ ∧ xc = c' := by
          simp only [Value.slice.injEq, Option.some.injEq] at hva
          exact ⟨hva.1, hva.2.2⟩
        obtain ⟨⟨rfl, rfl⟩, rfl⟩ : (g0 = g2 ∧ i0 = i2) ∧ d = c2 := by cases hvb; exact ⟨⟨rfl, rfl⟩, rfl⟩
        have hnx := byte_lt p j hpl
        have hnl := byte_lt l j hlt
        have HFAR := Kp.mk (fun q => congrArg UInt8.toNat (Option.some.inj (hfar q)))
        clear hfar hcs' hcs2 hva hvb
        generalize p[j].toNat = x at *
        generalize l[j].toNat = y at *
        by_cases heq : x = y
        · have e1 : ((x : Int) != y) = false := by rw [bne_eq_false_iff_eq]; omega
          clear heq
          go_wp2_with fail
          go_quiet (fail)
          go_wp2_with fail
          go_roundw
          case rel => exact ⟨j + 1, by omega, by go_num, Lib.hid (hB.out.trans ⟨rfl, rfl, rfl, Nat.le_refl _, fun _ _ => rfl⟩), Lib.hid (hX.out.heap' rfl)⟩
          case measure => simp [intOf]; omega
        · have e1 : ((x : Int) != y) = true := by rw [bne_iff_ne]; omega
          have hin : ¬ (j < k ∨ k + 3 < j) := fun q => heq (HFAR.out q)
          have e2 : decide (j < k) = false := decide_eq_false (by omega)
          have e3 : decide ((k : Int) + 3 < j) = false := decide_eq_false (by omega)
          clear heq hin
          go_wp2_with fail
          go_quiet (fail)
          go_wp2_with fail
          go_roundw
          case rel => exact ⟨j + 1, by omega, by go_num, Lib.hid (hB.out.trans ⟨rfl, rfl, rfl, Nat.le_refl _, fun _ _ => rfl⟩), Lib.hid (hX.out.heap' rfl)⟩
          case measure => simp [intOf]; omega
      · obtain rfl : j = l.length := by omega
        rename_i wr
        have HC := Lib.hid (crcAll_any (.slice (some xa) l.length xc) p wr (hE.below hB.out h1) hX.out HPM.out)
        rw [HPC.out] at HC
        go_wp2_with fail
        refine HC.out.mono ?_
        rintro e w6 ⟨rfl, hb6⟩
        have hB6 := hB.out.trans (hb6.mono hB.out.size)
        have HA7 := Lib.hid (HS.out w6 (hE.below hB6 h1))
        clear hb6 HC
        go_wp2_with fail
        refine HA7.out.mono ?_
        rintro e w8 ⟨rfl, hb8⟩
        have hB8 := hB6.trans (hb8.mono hB6.size)
        go_wp2_with fail
        go_ret
        exact ⟨rfl, hB8⟩
end Go.Proofs.YtadaohjphgpdnaaDoor
