/- The law SumsFound: the walk. -/
import Derived.Test.YtadaohjphgpdnaaDoorApp
namespace Go.Proofs.YtadaohjphgpdnaaDoor
open Go.RowKit

theorem found_shown (v : Value) (l : List UInt8) (at_ : Int) (c : Nat) (w : World) (hE : Env w) (hv : BytesAt w v l) (hl : l.length ≤ maxLen) (hc : c < 256)
    (h : 500 < l.length ∨ at_ < 0 ∨ (l.length : Int) ≤ at_ ∨ ∃ k : Nat, at_ = k ∧ ∃ hk : k < l.length, l[k].toNat = c) :
    Calls Tryd.prog 7 #[v, .int .i64 at_, .int .u8 c] w fun e w' => e = .returned (.bool true) ∧ Below w.heap.size w w' := by
  obtain ⟨s, d, rfl⟩ := hv.shape
  have HS := Lib.hid (shown_any w hE)
  by_cases a1 : 500 < l.length
  · have d1 : decide ((500 : Int) < l.length) = true := decide_eq_true (by omega)
    clear h hv a1
    go_enter Tryd.func7, Tryd.ntmps7
    go_wp2_with fail
    refine HS.out.mono ?_
    rintro e w2 ⟨rfl, hb⟩
    go_wp2_with fail
    go_ret
    exact ⟨rfl, hb⟩
  · have d1 : decide ((500 : Int) < l.length) = false := decide_eq_false (by omega)
    by_cases a2 : at_ < 0
    · have d2 : decide (at_ < 0) = true := decide_eq_true a2
      clear h hv a1 a2
      go_enter Tryd.func7, Tryd.ntmps7
      go_wp2_with fail
      refine HS.out.mono ?_
      rintro e w2 ⟨rfl, hb⟩
      go_wp2_with fail
      go_ret
      exact ⟨rfl, hb⟩
    · have d2 : decide (at_ < 0) = false := decide_eq_false a2
      by_cases a3 : (l.length : Int) ≤ at_
      · have d3 : decide ((l.length : Int) ≤ at_) = true := decide_eq_true a3
        clear h hv a1 a2 a3
        go_enter Tryd.func7, Tryd.ntmps7
        go_wp2_with fail
        refine HS.out.mono ?_
        rintro e w2 ⟨rfl, hb⟩
        go_wp2_with fail
        go_ret
        exact ⟨rfl, hb⟩
      · have d3 : decide ((l.length : Int) ≤ at_) = false := decide_eq_false a3
        rcases h with h | h | h | ⟨k, rfl, hk, hkc⟩
        · omega
        · omega
        · omega
        · rcases hv with ⟨a, c', hva, hl0⟩ | ⟨g, i, c', hva, hg, hcs⟩
          · subst hl0; simp at hk
          · obtain ⟨rfl, rfl⟩ : s = some ⟨g, i, none⟩ ∧ d = c' := by cases hva; exact ⟨rfl, rfl⟩
            have hcl := hcs k hk
            rw [hkc] at hcl
            have d4 : ((c : Int) == c) = true := beq_self_eq_true _
            clear hva hcs hkc a1 a2 a3
            go_enter Tryd.func7, Tryd.ntmps7
            go_wp2_with fail
            refine HS.out.mono ?_
            rintro e w2 ⟨rfl, hb⟩
            go_wp2_with fail
            go_ret
            exact ⟨rfl, hb⟩

set_option maxHeartbeats 2000000 in
theorem found_main (v : Value) (l : List UInt8) (k : Nat) (c : UInt8) (w : World) (hE : Env w) (hv : BytesAt w v l) (h500 : l.length ≤ 500) (hk : k < l.length) (hne : l[k] ≠ c) :
    Calls Tryd.prog 7 #[v, .int .i64 k, .int .u8 c.toNat] w fun e w' => e = .returned (.bool true) ∧ Below w.heap.size w w' := by
  obtain ⟨hcne, i, x, hi, hlk, hile, hx, hx256, hxne, hxat, hxcrc⟩ := found_all l k c hk hne
  have hloc : locV l (crcV (l.set k c)) = .tuple #[.int .i64 i, .int .u8 x, .int .i64 0] := by
    have := locErr_else (l := l) (want := crcV (l.set k c)) (by omega) hcne
    unfold locV
    rw [this.1, this.2, hlk]
    have e : locB l (crcV (l.set k c)) (some i) = x := by
      rw [hx]; show (l.getD i 0).toNat ^^^ _ = _
      rw [List.getD_eq_getElem?_getD, List.getElem?_eq_getElem hi]; rfl
    rw [e]; rfl
  have hwant := crcV_lt (l.set k c)
  have hmx : l.length ≤ maxLen := by unfold maxLen; omega
  obtain ⟨s, d, rfl⟩ := hv.shape
  have HS := Lib.hid (fun w (hE : Env w) => shown_any w hE)
  have h1 := hE.one
  rcases id hv with ⟨a, c', hva, hl0⟩ | ⟨g0, i0, c', hva, hg, hcs⟩
  · subst hl0; simp at hk
  obtain ⟨rfl, rfl⟩ : s = some ⟨g0, i0, none⟩ ∧ d = c' := by cases hva; exact ⟨rfl, rfl⟩
  have hck := hcs k hk
  have hci := hcs i hi
  have HCI := Lib.hid hci
  have d1 : decide ((500 : Int) < l.length) = false := decide_eq_false (by omega)
  have d2 : decide ((k : Int) < 0) = false := decide_eq_false (by omega)
  have d3 : decide (l.length ≤ k) = false := decide_eq_false (by omega)
  have d4 : ((l[k].toNat : Int) == c.toNat) = false := by rw [beq_eq_false_iff_ne]; intro e; exact hne (UInt8.toNat_inj.1 (by omega))
  have d5 : decide ((i : Int) < 0) = false := decide_eq_false (by omega)
  have d6 : decide (k < i) = false := decide_eq_false (by omega)
  have d7 : ((x : Int) != l[i].toNat) = true := by rw [bne_iff_ne]; omega
  have hB0 := (Below.refl w.heap.size w).alloc (Nat.le_refl _) (.cells #[] 5 (0, 0))
  have HO0 := Lib.hid (made0 w w.heap.size (Nat.le_refl _))
  have HV0 := Lib.hid (hv.below hB0 (Nat.le_refl _))
  have HV := Lib.hid hv
  have HXN := Lib.hid (show x.toUInt8.toNat = x by rw [Nat.toUInt8_eq, UInt8.toNat_ofNat']; omega)
  have HDIS := Lib.hid (show decide (i < k) = true ∨ (decide (i < k) = false ∧ ((x : Int) == c.toNat) = true) by
    by_cases hik : i < k
    · exact .inl (decide_eq_true (by omega))
    · have : x = c.toNat := hxat (by omega)
      exact .inr ⟨decide_eq_false (by omega), by rw [this]; exact beq_self_eq_true _⟩)
  have HLOC := Lib.hid (fun w (hE : Env w) (hv : BytesAt w (.slice (some ⟨g0, i0, none⟩) l.length d) l) => locate_any _ l (crcV (l.set k c)) w hE hv hmx hwant)
  rw [hloc] at HLOC
  have HC1 := Lib.hid (fun u w (hE : Env w) (hv : BytesAt w u (l.set k c)) => crcAll_any u (l.set k c) w hE hv (by rw [List.length_set]; exact hmx))
  have HC2 := Lib.hid (fun u w (hE : Env w) (hv : BytesAt w u (l.set i x.toUInt8)) => crcAll_any u (l.set i x.toUInt8) w hE hv (by rw [List.length_set]; exact hmx))
  rw [hxcrc] at HC2
  have HG := Lib.hid hg
  generalize crcV (l.set k c) = want at *
  clear hcne hlk hx hxne hxat hxcrc hloc hv hva hcs hmx hci
  go_enter Tryd.func7, Tryd.ntmps7
  go_wp2_with (at_builtin; refine wpList_append_bytes (by rfl) _ _ (by rfl) w.heap.size (.slice (some ⟨w.heap.size, 0, none⟩) 0 0) (.slice (some ⟨g0, i0, none⟩) l.length d) 0 [] l (by rfl) (by rfl) HO0.out ⟨_, _, rfl⟩ HV0.out (by omega) (by simp) ?_; intro g cap w1 hown hgr; rw [Nat.zero_add, List.nil_append] at hown; rw [Nat.zero_add]; have HB1 := Lib.hid (hB0.grown hgr (by simp) (fun k e => (HO0.out.lt k e).1)); have HOW := Lib.hid (show OwnBytes w1 w.heap.size g cap l from hown); have hcell := HOW.out.cell k hk; have hfz := HOW.out.frozen k; clear hgr hown)
  have HOW1 := Lib.hid (HOW.out.set k c)
  have hge := HOW.out.ge
  have HB2 := Lib.hid (HB1.out.setCell (p := ⟨g, k, none⟩) hge.1 (.int .u8 c.toNat))
  have HA1 := Lib.hid (HC1.out (.slice (some ⟨g, 0, none⟩) l.length cap) (w1.setCell ⟨g, k, none⟩ (.int .u8 c.toNat)) (hE.below HB2.out h1) (by have := HOW1.out.at_; rwa [List.length_set] at this))
  clear HO0 HV0 hB0 HOW hcell hfz
  refine HA1.out.mono ?_
  rintro e w2 ⟨rfl, hb2⟩
  have hB2 := HB2.out.trans (hb2.mono HB2.out.size)
  have HOW2 := Lib.hid (HOW1.out.below hb2)
  have HA2 := Lib.hid (HLOC.out w2 (hE.below hB2 h1) (HV.out.below hB2 (Nat.le_refl _)))
  clear hb2 HA1 HOW1 HB2 HB1
  go_wp2_with fail
  refine HA2.out.mono ?_
  rintro e w3 ⟨rfl, hb3⟩
  have hB3 := hB2.trans (hb3.mono hB2.size)
  have HOW3 := Lib.hid (HOW2.out.below hb3)
  have hB30 := hB3.alloc hB3.size (.cells #[] 5 (0, 0))
  have HO3 := Lib.hid (made0 w3 w3.heap.size (Nat.le_refl _))
  have HV3 := Lib.hid (HV.out.below hB30 (Nat.le_refl _))
  clear hb3 HA2 HOW2 hB2
  have hs3 := hB3.size
  rcases HDIS.out with d8 | ⟨d8, d9⟩
  all_goals
    go_wp2_with (at_builtin; refine wpList_append_bytes (by rfl) _ _ (by rfl) w3.heap.size (.slice (some ⟨w3.heap.size, 0, none⟩) 0 0) (.slice (some ⟨g0, i0, none⟩) l.length d) 0 [] l (by rfl) (by rfl) HO3.out ⟨_, _, rfl⟩ HV3.out (by omega) (by simp) ?_; intro g2 cap2 w4 hown hgr; rw [Nat.zero_add, List.nil_append] at hown; rw [Nat.zero_add]; have hb34 : Below w3.heap.size w3 w4 := ((Below.refl _ _).alloc (Nat.le_refl _) _).grown hgr (by simp) (fun k e => (HO3.out.lt k e).1); have HB34 := Lib.hid hb34; have HB4 := Lib.hid (hB3.trans (hb34.mono hs3)); have HOW := Lib.hid (show OwnBytes w4 w3.heap.size g2 cap2 l from hown); have hcell := HOW.out.cell i hi; have hfz := HOW.out.frozen i; have hge2 := HOW.out.ge; have hci5 : (w4.setCell ⟨g2, i, none⟩ (.int .u8 x)).cell? ⟨g0, i0 + i, none⟩ = some (.int .u8 l[i].toNat) := (World.cell?_of_block (w := w4) (a := ⟨g0, i0 + i, none⟩) ((Put.one g2 i (.int .u8 x) w4).other g0 (by omega))).trans ((HB4.out.cell (p := ⟨g0, i0 + i, none⟩) HG.out).trans HCI.out); clear hgr hown hb34)
    have HOW5 := Lib.hid (HOW.out.set i x.toUInt8)
    rw [HXN.out] at HOW5
    have P5 := Put.one g2 i (.int .u8 x) w4
    have HB5 := Lib.hid (HB4.out.trans (P5.below (B := w.heap.size) (by omega)))
    have hge3 := HOW3.out.ge
    have HC5 := Lib.hid (((HOW3.out.below HB34.out).at_).put P5 (fun g' i' n' c' e => by cases e; exact .inl (by omega)))
    rw [List.length_set] at HC5
    have HD5 := Lib.hid HOW5.out.at_
    rw [List.length_set] at HD5
    have HA5 := Lib.hid (HC2.out (.slice (some ⟨g2, 0, none⟩) l.length cap2) (w4.setCell ⟨g2, i, none⟩ (.int .u8 x)) (hE.below HB5.out h1) HD5.out)
    clear P5 hcell hfz hci5
    refine HA5.out.mono ?_
    rintro e w6 ⟨rfl, hb6⟩
    have hB6 := HB5.out.trans (hb6.mono HB5.out.size)
    have HA6 := Lib.hid (HC1.out (.slice (some ⟨g, 0, none⟩) l.length cap) w6 (hE.below hB6 h1) (HC5.out.below hb6 (Nat.le_refl _)))
    clear hb6 HA5
    go_wp2_with fail
    refine HA6.out.mono ?_
    rintro e w7 ⟨rfl, hb7⟩
    have hB7 := hB6.trans (hb7.mono hB6.size)
    have HA7 := Lib.hid (HS.out w7 (hE.below hB7 h1))
    clear hb7 HA6
    go_wp2_with fail
    refine HA7.out.mono ?_
    rintro e w8 ⟨rfl, hb8⟩
    have hB8 := hB7.trans (hb8.mono hB7.size)
    go_wp2_with fail
    go_ret
    exact ⟨rfl, hB8⟩

theorem sumsFound_any (v : Value) (l : List UInt8) (at_ : Int) (c : Nat) (w : World) (hE : Env w) (hv : BytesAt w v l) (hl : l.length ≤ maxLen) (hc : c < 256) :
    Calls Tryd.prog 7 #[v, .int .i64 at_, .int .u8 c] w fun e w' => e = .returned (.bool true) ∧ Below w.heap.size w w' := by
  by_cases h : 500 < l.length ∨ at_ < 0 ∨ (l.length : Int) ≤ at_ ∨ ∃ k : Nat, at_ = k ∧ ∃ hk : k < l.length, l[k].toNat = c
  · exact found_shown v l at_ c w hE hv hl hc h
  · have h1 : ¬ 500 < l.length := fun q => h (.inl q)
    have h2 : ¬ at_ < 0 := fun q => h (.inr (.inl q))
    have h3 : ¬ (l.length : Int) ≤ at_ := fun q => h (.inr (.inr (.inl q)))
    obtain ⟨k, rfl⟩ := Int.eq_ofNat_of_zero_le (show 0 ≤ at_ by omega)
    have hk : k < l.length := by omega
    have hcc : c.toUInt8.toNat = c := by rw [Nat.toUInt8_eq, UInt8.toNat_ofNat']; omega
    have := found_main v l k c.toUInt8 w hE hv (by omega) hk (fun e => h (.inr (.inr (.inr ⟨k, rfl, hk, by rw [e, hcc]⟩))))
    rwa [hcc] at this
end Go.Proofs.YtadaohjphgpdnaaDoor
