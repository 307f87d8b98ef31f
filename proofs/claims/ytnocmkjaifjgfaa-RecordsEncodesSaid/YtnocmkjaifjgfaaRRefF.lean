/- The reference's Encode, Size. -/
import Derived.Test.YtnocmkjaifjgfaaRRefE
import Derived.Deep.RegionWith
namespace Go.Proofs.Ytnocmkjaifjgfaa.R
open Go.RowKit
attribute [local go_sem ↓] appB_eq

theorem valL_pos {c : Nat} (v : Rv) (h : kindB c = true) : 0 < (valL c v).length := by
  rcases letters h with ⟨hw, _, _, _⟩ | rfl | rfl | rfl
  · have hc : ¬ c = 118 ∧ ¬ c = 115 ∧ ¬ c = 108 := by
      rcases wid_cases c with h | ⟨h, _⟩ | ⟨h, _⟩ | ⟨h, _⟩ | ⟨h, _⟩ <;> omega
    unfold valL
    rw [if_neg hc.1, if_neg hc.2.1, if_neg hc.2.2, lowL_len]; exact hw
  · exact grpF_pos 9 _
  · have := grpF_pos 9 v.str.size
    show 0 < (grpL v.str.size ++ v.str.data.toList).length
    rw [List.length_append]; unfold grpL; omega
  · have := grpF_pos 9 v.list.length
    show 0 < (grpL v.list.length ++ lowsL v.list).length
    rw [List.length_append]; unfold grpL; omega

set_option maxHeartbeats 4000000 in
theorem refEncode_any (s : ByteArray) (v : Value) (l : List Rv) (w : World) (hs : s.size ≤ maxLen) (hv : ValsAt w v l) (hok : ∀ x ∈ l, x.Ok) (hl : l.length ≤ maxLen) :
    Calls Try.prog 11 #[.string s, v] w (EncCap w s.data.toList l) := by
  have HV := Lib.hid hv
  have HOK := Lib.hid hok
  have HS := Lib.hid (size_data s)
  have HFO := Lib.hid (form_any s w hs)
  obtain ⟨a, d, rfl⟩ := hv.shape
  unfold maxLen at hl hs
  clear hv hok
  by_cases hE : formE s.data.toList = 0
  case neg =>
    have hz : ((formE s.data.toList : Int) == 0) = false := by simp; omega
    have HE := Lib.hid (show encE s.data.toList l = formE s.data.toList by unfold encE; rw [if_pos hE])
    have HF := Lib.hid hE
    generalize formE s.data.toList = q at *
    clear hE
    go_enter Try.func11, Try.ntmps11
    go_wp2_with fail
    refine HFO.out.mono ?_
    rintro e w2 ⟨rfl, rfl⟩
    go_wp2_with fail
    go_ret2
    exact enc_no HE.out HF.out (Below.refl _ _)
  have HE0 := Lib.hid hE
  rw [hE] at HFO
  obtain ⟨hs64, hkind⟩ := formE_kind hE
  rw [HS.out] at hs64
  have HKD := Lib.hid hkind
  clear hkind hE
  by_cases hn : l.length = s.data.toList.length
  case neg =>
    have HE := Lib.hid (show encE s.data.toList l = 2 by unfold encE; rw [if_neg (by rw [HE0.out]; decide), if_pos hn])
    rw [HS.out] at hn
    have hne : ((l.length : Int) != s.size) = true := by simp; omega
    clear hn
    go_enter Try.func11, Try.ntmps11
    go_wp2_with fail
    refine HFO.out.mono ?_
    rintro e w2 ⟨rfl, rfl⟩
    go_wp2_with fail
    go_ret2
    exact enc_no (e := 2) HE.out (by decide) (Below.refl _ _)
  have HN := Lib.hid hn
  rw [HS.out] at hn
  rw [hn] at HV ⊢
  clear hn
  go_enter Try.func11, Try.ntmps11
  go_wp2_with fail
  refine HFO.out.mono ?_
  rintro e w2 ⟨rfl, rfl⟩
  go_wp2_with fail
  go_loopw [7, 8, 9, 10] (fun b i _ _ wr => ∃ (k : Nat) (q : List UInt8), k ≤ s.size ∧ q.length ≤ 410 * k ∧ i = .int .i64 k ∧ Hid (Row wr w.heap.size b q) ∧ Hid (Below w.heap.size w wr) ∧ Hid (valsE s.data.toList l = valsE (s.data.toList.drop k) (l.drop k)) ∧ Hid (valsL s.data.toList l = q ++ valsL (s.data.toList.drop k) (l.drop k))) (fun _ i _ _ _ => s.size - (intOf i).toNat)
  case atStart => exact ⟨0, [], by omega, by simp, rfl, Lib.hid (Row.nil _ _), Lib.hid (Below.refl _ _), Lib.hid rfl, Lib.hid rfl⟩
  case round =>
    obtain ⟨k, q, hk, hql, rfl, hR, hBW, hE1, hL1⟩ := hrel
    by_cases hlt : k < s.size
    · have hk' : k < s.data.toList.length := by rw [HS.out]; exact hlt
      have hkl : k < l.length := by rw [HN.out]; exact hk'
      have hck : s.data.toList[k] = s[k] := by rw [Array.getElem_toList]; rfl
      rcases HV.out with ⟨a', c', hva, hl0⟩ | ⟨g2, o2, c2, hva, hg2, hcs⟩
      · rw [hl0] at hkl; simp at hkl
      obtain ⟨rfl, rfl⟩ : a = some ⟨g2, o2, none⟩ ∧ d = c2 := by injection hva with h1 h2 h3; exact ⟨h1, h3⟩
      obtain ⟨e0, e1, x, e2, hx⟩ := hcs k hkl
      have hce0 := (bcell hBW.out g2 (o2 + k * 3) hg2).trans e0
      have hce1 := (bcell hBW.out g2 (o2 + k * 3 + 1) hg2).trans e1
      have hce2 := (bcell hBW.out g2 (o2 + k * 3 + 2) hg2).trans e2
      have HE2 := Lib.hid (show valsE s.data.toList l = if valE s.data.toList[k].toNat l[k] ≠ 0 then valE s.data.toList[k].toNat l[k] else valsE (s.data.toList.drop (k + 1)) (l.drop (k + 1)) by
        rw [hE1.out, List.drop_eq_getElem_cons hk', List.drop_eq_getElem_cons hkl]; rfl)
      have HL2 := Lib.hid (show valsL s.data.toList l = (q ++ valL s.data.toList[k].toNat l[k]) ++ valsL (s.data.toList.drop (k + 1)) (l.drop (k + 1)) by
        rw [hL1.out, List.drop_eq_getElem_cons hk', List.drop_eq_getElem_cons hkl, List.append_assoc]; rfl)
      have hkc := HKD.out k hk'
      have HVL := Lib.hid (valL_len s.data.toList[k].toNat l[k])
      have HVP := Lib.hid (valL_pos l[k] hkc)
      have HX := Lib.hid (fun (W : World) (hb : Below wr.heap.size wr W) => value_any s.data.toList[k].toNat l[k] x W hkc (HOK.out _ (List.getElem_mem hkl)) (hx.below (hBW.out.trans (hb.mono hBW.out.size)) (Nat.le_refl _)))
      unfold ValPost at HX
      rw [hck] at HE2 HL2 HVL HVP HX
      obtain ⟨er, hq⟩ : ∃ er, er = valE s[k].toNat l[k] := ⟨_, rfl⟩
      rw [← hq] at HX HE2 HVL
      have hszw := hBW.out.size
      obtain ⟨ax, dx, rfl⟩ := hx.shape
      generalize valL s[k].toNat l[k] = nl at *
      generalize l[k] = rv at *
      clear hq hva hcs e0 e1 e2 hkc hck hx
      go_wp2_with fail
      go_region_with (go_at_call 22; (with_reducible refine (HX.out _ ?hs).mono ?_); (case hs => first | exact Below.refl _ _ | exact below_drew (Below.refl _ _) | exact below_drewN (Below.refl _ _) _); rintro e w4 ⟨u, rfl, hu, hb4⟩)
      all_goals
        have hb4' : Below wr.heap.size wr w4 := by first | exact hb4 | exact (below_drew (Below.refl wr.heap.size wr)).trans hb4
        clear hb4 hce0 hce1 hce2
        by_cases h0 : er = 0
        · have hu0 := hu h0
          subst h0
          have hvl := HVL.out rfl
          have hvp := HVP.out
          obtain ⟨v6, w6, hr6, hrow6, hm6⟩ := run_append_row (ty := 25) (hR.out.kept (Kept.of_below hb4' (fun _ => False)) (fun _ _ h => h)) hu0.at_ hvp (by omega) (Nat.le_trans hszw hb4'.size)
          obtain ⟨a5, d5, rfl⟩ := hu0.shape
          have hr6' : Sem.run Try.prog (appB 25 #[u7, .slice a5 nl.length d5]) w4 = .ok v6 w6 := hr6
          have HB4 := Lib.hid (hBW.out.trans (hb4'.mono hszw))
          have HB6 := Lib.hid (HB4.out.trans (hm6.kept.toBelow HB4.out.size (fun i hi e => by have := (hR.out.ge e).1; omega)))
          have HR6 := Lib.hid hrow6
          have hq6 : (q ++ nl).length ≤ 410 * (k + 1) := by rw [List.length_append]; omega
          clear hu hu0 hb4' hr6 hrow6 hm6
          generalize nl.length = nn at *
          go_wp2_with fail
          go_roundw
          case rel => exact ⟨k + 1, q ++ nl, by omega, hq6, by go_num, HR6, HB6, Lib.hid (by rw [HE2.out, if_neg (by decide)]), HL2⟩
          case measure => simp [intOf]; omega
        · have hqz : ((er : Int) == 0) = false := by simp; omega
          have HF : Hid (encE s.data.toList l = er) := Lib.hid (by
            unfold encE
            rw [if_neg (by rw [HE0.out]; decide), if_neg (by rw [HN.out]; exact fun h => h rfl), HE2.out, if_pos h0, if_pos h0])
          have HQ := Lib.hid h0
          have HB4 := Lib.hid (hBW.out.trans (hb4'.mono hszw))
          clear h0 hu hb4'
          go_wp2_with fail
          go_ret2
          exact enc_no HF.out HQ.out HB4.out
    · obtain rfl : k = s.size := by omega
      have HEV : Hid (valsE s.data.toList l = 0) := Lib.hid (by
        rw [hE1.out, List.drop_of_length_le (Nat.le_of_eq HS.out)]; rfl)
      have HLV : Hid (valsL s.data.toList l = q) := Lib.hid (by
        rw [hL1.out, List.drop_of_length_le (Nat.le_of_eq HS.out)]; simp [valsL])
      have HEC : Hid (encE s.data.toList l = if 4000 < q.length then 3 else 0) := Lib.hid (by
        unfold encE
        rw [if_neg (by rw [HE0.out]; decide), if_neg (by rw [HN.out]; exact fun h => h rfl), if_neg (by rw [HEV.out]; decide), HLV.out])
      obtain ⟨a0, d0, rfl⟩ := hR.out.shape
      by_cases h4 : 4000 < q.length
      · have d4 : decide ((4000 : Int) < q.length) = true := decide_eq_true (by omega)
        have HE3 : Hid (encE s.data.toList l = 3) := Lib.hid (by rw [HEC.out, if_pos h4])
        clear h4
        go_wp2_with fail
        go_ret2
        exact enc_no (e := 3) HE3.out (by decide) hBW.out
      · have d4 : decide ((4000 : Int) < q.length) = false := decide_eq_false (by omega)
        have HE3 : Hid (encE s.data.toList l = 0) := Lib.hid (by rw [HEC.out, if_neg h4])
        clear h4
        go_wp2_with fail
        go_ret2
        exact enc_yes HE3.out HLV.out hR.out hBW.out
theorem refSize_any (s : ByteArray) (v : Value) (l : List Rv) (w : World) (hs : s.size ≤ maxLen) (hv : ValsAt w v l) (hok : ∀ x ∈ l, x.Ok) (hl : l.length ≤ maxLen) :
    Calls Try.prog 13 #[.string s, v] w fun e w' => e = .returned (.tuple #[.int .i64 (encL s.data.toList l).length, .int .i64 (encE s.data.toList l : Nat)]) ∧ Below w.heap.size w w' := by
  have HE := Lib.hid (refEncode_any s v l w hs hv hok hl)
  obtain ⟨a, d, rfl⟩ := hv.shape
  clear hv hok hs
  go_enter Try.func13, Try.ntmps13
  go_wp2_with fail
  refine HE.out.mono ?_
  rintro e w2 ⟨a2, d2, rfl, hu, hc, hb⟩
  have HB := Lib.hid hb
  clear hu hb
  go_wp2_with fail
  go_ret2
  exact ⟨rfl, HB.out⟩
end Go.Proofs.Ytnocmkjaifjgfaa.R
