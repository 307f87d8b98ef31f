/- The reference's quoted: the walk. -/
import Derived.Test.YtnmkcohfhomenaaDoorRQuoted
namespace Go.Proofs.YtnmkcohfhomenaaDoor
open Go.RowKit

theorem quotedV_no {s : ByteArray} (h : ¬ ∃ r, s.data.toList = 34 :: r) : quotedV s = .tuple #[.string ⟨#[]⟩, .int .i64 0] := by
  have : cutQ s.data.toList = none := by
    cases hl : s.data.toList with
    | nil => rfl
    | cons a r =>
      show (if a.toNat = 34 then _ else none) = none
      rw [if_neg]; intro ha
      exact h ⟨r, by rw [hl, show a = 34 from UInt8.toNat.inj ha]⟩
  unfold quotedV; rw [this]

theorem ext_list (s : ByteArray) (k n : Nat) (h : k + n ≤ s.size) : (s.extract k (k + n)).toList = (s.data.toList.drop k).take n := by
  rw [Lib.toList_data, ByteArray.data_extract, Array.toList_extract]
  show (s.data.toList.drop k).take (k + n - k) = _
  rw [Nat.add_sub_cancel_left]
theorem form_iff {s : ByteArray} {k : Nat} {c : UInt8} (h : k + (encB c).length ≤ s.size) : ((s.extract k (k + (encB c).length)).toList == encB c) = true ↔ formAt s k c := by
  rw [beq_iff_eq, ext_list s k _ h]
  constructor
  · intro e
    refine ⟨(s.data.toList.drop k).drop (encB c).length, ?_⟩
    have h2 := List.take_append_drop (encB c).length (s.data.toList.drop k)
    rw [e] at h2; exact h2.symm
  · rintro ⟨r, hr⟩; rw [hr]; exact List.take_left
theorem form_fits {s : ByteArray} {k : Nat} {c : UInt8} (hk : k ≤ s.size) (h : formAt s k c) : k + (encB c).length ≤ s.size := by
  obtain ⟨r, hr⟩ := h
  have := congrArg List.length hr
  rw [List.length_drop, size_len, List.length_append] at this
  have := (encB_len c).2
  omega
theorem no_more {s : ByteArray} {k j : Nat} {c : UInt8} (hc : c.toNat = j) (h : ∀ c' : UInt8, c'.toNat < j → ¬ formAt s k c') (hn : ¬ formAt s k c) : ∀ c' : UInt8, c'.toNat < j + 1 → ¬ formAt s k c' := by
  intro c' hlt
  by_cases e : c'.toNat = j
  · rw [UInt8.toNat.inj (e.trans hc.symm)]; exact hn
  · exact h c' (by omega)

set_option maxHeartbeats 2000000 in
set_option maxRecDepth 100000 in
theorem quotedR_any (s : ByteArray) (w : World) (hs : s.size ≤ 1000000000) :
    Calls Tryd.prog 45 #[.string s] w fun e w' => e = .returned (quotedV s) ∧ Below w.heap.size w w' := by
  by_cases h0 : 0 < s.size
  · by_cases h34 : s[0].toNat = 34
    · obtain ⟨i0, hi, hz0, hz1, hz2⟩ := info_parts Tryd.infoByte
      have hl : ∃ r, s.data.toList = 34 :: r := ⟨_, by rw [list_one s h0, show s[0] = 34 from UInt8.toNat.inj h34]⟩
      have hQ0 : Hid (QtRel s w (.slice none 0 0) 1 w) := Lib.hid (by obtain ⟨r, hr⟩ := hl; exact qt_start s w r hr)
      have e0 : ((s.size : Int) == 0) = false := by rw [beq_eq_false_iff_ne]; omega
      have e1 : ((s[0].toNat : Int) != 34) = false := by simp; omega
      clear hl h34
      go_enter Tryd.func45, Tryd.ntmps45
      go_wp2_with fail
      go_loopw [4, 5] (fun v i wr => ∃ k : Nat, 1 ≤ k ∧ k ≤ s.size ∧ i = .int .i64 k ∧ Hid (QtRel s w v k wr)) (fun _ i _ => s.size - (intOf i).toNat)
      case atStart => exact ⟨1, Nat.le_refl _, h0, rfl, hQ0⟩
      case round =>
        obtain ⟨k, hk1, hk, rfl, hq⟩ := hrel
        by_cases hlt : k < s.size
        · have hltI : (k : Int) < s.size := by omega
          by_cases h34 : s[k].toNat = 34
          · have b34 : ((s[k].toNat : Int) != 34) = false := by simp; omega
            obtain ⟨b, hrow, hv⟩ := qt_quote hq.out hlt h34
            have HF := Lib.hid hv
            have hcv := str_of_row hrow
            have hne : ((k : Int) == s.size) = false := by rw [beq_eq_false_iff_ne]; omega
            have hbel := hq.out.choose_spec.2.1
            clear hv h34
            go_wp2_with fail
            go_ret2
            exact ⟨congrArg Ending.returned HF.out.symm, hbel⟩
          · have b34 : ((s[k].toNat : Int) != 34) = true := by simp; omega
            go_wp2_with fail
            go_loopw [4, 5, 6, 7] (fun v i f c wr2 => ∃ (j k2 : Nat) (fb : Bool), c = .int .i64 j ∧ f = .bool fb ∧ i = .int .i64 k2 ∧ j ≤ 256 ∧ k2 ≤ s.size ∧ Hid (QtRel s w v k2 wr2) ∧ Hid ((fb = false ∧ k2 = k ∧ ∀ c' : UInt8, c'.toNat < j → ¬ formAt s k c') ∨ (fb = true ∧ k < k2))) (fun _ _ _ c _ => 256 - (intOf c).toNat)
            case atStart => exact ⟨0, k, false, rfl, rfl, rfl, by omega, hk, hq, Lib.hid (.inl ⟨rfl, rfl, fun c' h => by omega⟩)⟩
            case round =>
              obtain ⟨j, k2, fb, rfl, rfl, rfl, hj, hk2, hq2, hh⟩ := hrel
              cases fb with
              | true =>
                have hgt : k < k2 := by
                  rcases hh.out with ⟨h1, _⟩ | ⟨_, h1⟩
                  · cases h1
                  · exact h1
                by_cases hj2 : j < 256
                · go_wp2_with fail
                  go_roundw
                  case rel => exact ⟨k2, by omega, hk2, rfl, hq2⟩
                  case measure => simp [intOf]; omega
                · go_wp2_with fail
                  go_roundw
                  case rel => exact ⟨k2, by omega, hk2, rfl, hq2⟩
                  case measure => simp [intOf]; omega
              | false =>
                obtain ⟨rfl, hno⟩ : k2 = k ∧ ∀ c' : UInt8, c'.toNat < j → ¬ formAt s k c' := by
                  rcases hh.out with ⟨_, h1, h2⟩ | ⟨h1, _⟩
                  · exact ⟨h1, h2⟩
                  · cases h1
                have HNO := Lib.hid hno
                clear hh hno
                by_cases hj2 : j < 256
                · obtain ⟨c, hc⟩ : ∃ c : UInt8, c.toNat = j := ⟨UInt8.ofNat j, by rw [UInt8.toNat_ofNat', Nat.mod_eq_of_lt hj2]⟩
                  have HC := escR_any c wr
                  rw [hc] at HC
                  have HC := Lib.hid HC
                  have he4 := (encB_len c)
                  have hes : (⟨(encB c).toArray⟩ : ByteArray).size = (encB c).length := (size_len ⟨(encB c).toArray⟩).symm
                  obtain ⟨b, hrow, hbel, hq3, hlb⟩ := hq2.out
                  have HQ3 := Lib.hid hq3
                  clear hq3
                  have hbz := hbel.size
                  by_cases hfit : k2 + (encB c).length ≤ s.size
                  · have hfI : ((encB c).length : Int) ≤ (s.size : Int) - k2 := by omega
                    cases heq : ((s.extract k2 (k2 + (encB c).length)).toList == encB c) with
                    | false =>
                      have hh' := Lib.hid (no_more hc HNO.out (fun hf => by rw [(form_iff hfit).2 hf] at heq; cases heq))
                      clear hc
                      go_wp2_with fail
                      refine HC.out.mono ?_
                      rintro e w2 ⟨rfl, hB2⟩
                      go_wp2_with fail
                      go_roundw
                      case rel => exact ⟨j + 1, k2, false, by go_num, rfl, rfl, by omega, hk2, Lib.hid ⟨b, ownsRow_below hrow hB2, hbel.trans (hB2.mono hbz), HQ3.out, hlb⟩, Lib.hid (.inl ⟨rfl, rfl, hh'.out⟩)⟩
                      case measure => simp [intOf]; omega
                    | true =>
                      have hform := Lib.hid ((form_iff hfit).1 heq)
                      have HH := Lib.hid h34
                      have hcell : Hid (Lib.byteCells (b ++ [c]) = Lib.byteCells b ++ [.int .u8 j]) := Lib.hid (by rw [byteCells_append, ← hc]; rfl)
                      clear hc
                      go_wp2_with fail
                      refine HC.out.mono ?_
                      rintro e w2 ⟨rfl, hB2⟩
                      have hrow2 := ownsRow_below hrow hB2
                      have hs2 := hB2.size
                      go_wp2_with (at_builtin; refine wpList_append_own _ rfl _ _ 38 rfl w.heap.size 5 i0 (.int .u8 0) 1 1 Tryd.underlying38 hi hz0 hz1 hz2 rfl (by decide) _ _ _ rfl (hrow2.alloc _) ⟨w2.heap.size, 0, none⟩ 1 1 [.int .u8 j] rfl rfl (cell_one_new _ _ _) (by simp [Value.oneCell']) (by unfold maxLen; omega) (by omega) (by simp; omega) ?_; intro v3 w3 hown3 hgrow3 _)
                      have hB3 : Below w.heap.size w w3 := ((hbel.trans (hB2.mono hbz)).alloc (by omega) _).grown hgrow3 (by simp; omega) (fun q e => (hrow2.lt q e).1)
                      have hst := Lib.hid (qt_step (w2 := w3) (v2 := v3) hlt HH.out hform.out HQ3.out hlb (by rw [hcell.out, List.length_append]; exact hown3) hB3)
                      go_roundw
                      case rel => exact ⟨j + 1, k2 + (encB c).length, true, by go_num, rfl, by go_num, by omega, hst.out.1, Lib.hid hst.out.2, Lib.hid (.inr ⟨rfl, by omega⟩)⟩
                      case measure => simp [intOf]; omega
                  · have hh' := Lib.hid (no_more hc HNO.out (fun hf => hfit (form_fits hk2 hf)))
                    have hfI : ¬ ((encB c).length : Int) ≤ (s.size : Int) - k2 := by omega
                    clear hc
                    go_wp2_with fail
                    refine HC.out.mono ?_
                    rintro e w2 ⟨rfl, hB2⟩
                    go_wp2_with fail
                    go_roundw
                    case rel => exact ⟨j + 1, k2, false, by go_num, rfl, rfl, by omega, hk2, Lib.hid ⟨b, ownsRow_below hrow hB2, hbel.trans (hB2.mono hbz), HQ3.out, hlb⟩, Lib.hid (.inl ⟨rfl, rfl, hh'.out⟩)⟩
                    case measure => simp [intOf]; omega
                · have hj3 : j = 256 := by omega
                  have HF := Lib.hid (qt_bad hq2.out hlt h34 (fun c' => HNO.out c' (by have := c'.toNat_lt; omega)))
                  have hbel := hq2.out.choose_spec.2.1
                  subst hj3
                  go_wp2_with fail
                  go_ret2
                  exact ⟨congrArg Ending.returned HF.out.symm, hbel⟩
        · have hek : k = s.size := by omega
          have HF : Hid (quotedV s = .tuple #[.string ⟨#[]⟩, .int .i64 0]) := Lib.hid (qt_end (by rw [← hek]; exact hq.out))
          have hbel := hq.out.choose_spec.2.1
          subst hek
          go_wp2_with fail
          go_ret2
          exact ⟨congrArg Ending.returned HF.out.symm, hbel⟩
    · have HF := Lib.hid (quotedV_no (s := s) (by rintro ⟨r, hr⟩; rw [list_one s h0] at hr; injection hr with h1 _; exact h34 (by rw [h1]; rfl)))
      have e0 : ((s.size : Int) == 0) = false := by rw [beq_eq_false_iff_ne]; omega
      have e1 : ((s[0].toNat : Int) != 34) = true := by simp; omega
      clear h34
      go_enter Tryd.func45, Tryd.ntmps45
      go_wp2_with fail
      go_ret2
      exact ⟨congrArg Ending.returned HF.out.symm, Below.refl _ _⟩
  · have he := empty_of s h0
    subst he
    have HF := Lib.hid (quotedV_no (s := ⟨#[]⟩) (by rintro ⟨r, hr⟩; cases hr))
    go_enter Tryd.func45, Tryd.ntmps45
    go_wp2_with fail
    go_ret2
    exact ⟨congrArg Ending.returned HF.out.symm, Below.refl _ _⟩
end Go.Proofs.YtnmkcohfhomenaaDoor
