/- PathsRound: the walk. -/
import Derived.Test.YtbgfeonlnhlbfaaMoves
import Derived.Test.YtbgfeonlnhlbfaaParent
import Derived.Test.YtbgfeonlnhlbfaaOrderV
namespace Go.Proofs.Ytbgfeonlnhlbfaa
open Go.RowKit

theorem toB_back (s : ByteArray) (l : Bs) (h : s.data.toList = l) : (⟨l.toArray⟩ : ByteArray) = s := (of_list s l h).symm
theorem join_parent {P : List ByteArray} (h : checkE (bsL P) = 0) (hn : P ≠ []) : JoinE (parentP P) (parentL P) = 0 ∧ JoinP (parentP P) (parentL P) = P ∧ parentE P = 0 ∧ (parentL P).size ≤ 24 := by
  have hp : parentP P = P.take (P.length - 1) := by unfold parentP; rw [if_pos h]
  have hpos : 0 < P.length := by cases P with | nil => exact absurd rfl hn | cons a r => simp
  have hl : parentL P = P[P.length - 1] := by unfold parentL; rw [if_pos h, List.getLastD_eq_getLast?, List.getLast?_eq_getElem?, List.getElem?_eq_getElem (by omega)]; rfl
  have hz := checkE_zero.1 h
  have h8 : P.length ≤ 8 := by have := hz.1; rwa [bsL_len] at this
  have hnm : nameE (parentL P).data.toList = 0 := by rw [hl]; exact hz.2 _ (List.mem_map.2 ⟨_, List.getElem_mem _, rfl⟩)
  have hck : checkE (bsL (parentP P)) = 0 := by rw [hp, bsL_take]; exact check_take h _
  have hlen : ¬ 8 < (parentP P).length + [parentL P].length := by rw [hp, List.length_take, List.length_singleton]; omega
  refine ⟨?_, ?_, ?_, ?_⟩
  · unfold JoinE concE; rw [if_pos hck, if_pos hnm, if_neg hlen]
  · unfold JoinP concP; rw [if_pos ⟨hck, hnm⟩, if_neg hlen, hp, hl]
    rw [← List.take_succ_eq_append_getElem (by omega), show P.length - 1 + 1 = P.length by omega, List.take_length]
  · unfold parentE; rw [if_pos h, if_neg hn]
  · have := (nameE_ok hnm).2.1; rwa [size_len] at this
theorem text_len {P : List ByteArray} (h : checkE (bsL P) = 0) : (printT (bsL P)).length ≤ 1000 := by
  unfold printT; rw [if_pos h]
  have hz := checkE_zero.1 h
  unfold textL; split
  · simp
  · have := joinS_len (bsL P) 24 (fun s hs => (nameE_ok (hz.2 s hs)).2.1)
    have := hz.1
    omega
theorem parse_print {P : List ByteArray} (h : checkE (bsL P) = 0) : parseE (printT (bsL P)) = 0 ∧ bsL (parseA ⟨(printT (bsL P)).toArray⟩) = bsL P := by
  have h2 := parse_text h
  have h3 : printT (bsL P) = textL (bsL P) := by unfold printT; rw [if_pos h]
  rw [h3]
  refine ⟨h2.1, ?_⟩
  unfold parseA; rw [bsL_toB]; exact h2.2
theorem print_parse {s : ByteArray} (h : parseE s.data.toList = 0) : checkE (bsL (parseA s)) = 0 ∧ (⟨(printT (bsL (parseA s))).toArray⟩ : ByteArray) = s := by
  have h2 := text_parse h
  have h3 : bsL (parseA s) = parseP s.data.toList := by unfold parseA; exact bsL_toB _
  rw [h3]
  refine ⟨h2.1, ?_⟩
  unfold printT; rw [if_pos h2.1, h2.2]
theorem printT_bad {P : List ByteArray} (h : checkE (bsL P) ≠ 0) : printT (bsL P) = [] := by unfold printT; rw [if_neg h]

/-- The list that came in, and what Parse asks for. -/
structure In1 (w : World) (v : Value) (P : List ByteArray) (W : World) : Prop where
  bel : Below w.heap.size w W
  p : StrsAt W v P
  env : EnvM W
theorem In1.below {w : World} {v : Value} {P : List ByteArray} {W W' : World} (h : In1 w v P W) (hb : Below W.heap.size W W') : In1 w v P W' :=
  ⟨h.bel.trans (hb.mono h.bel.size), h.p.below hb, h.env.below h.env.pos hb⟩

set_option maxHeartbeats 8000000 in
set_option maxRecDepth 100000 in
theorem round_any (v : Value) (P : List ByteArray) (s : ByteArray) (w0 : World) (hE : EnvM w0) (hv : StrsAt w0 v P) (lp : P.length ≤ 9223372036854775807) (ls : s.size ≤ maxLen) :
    Calls Try.prog 7 #[v, .string s] w0 fun e w' => e = .returned (.bool true) ∧ Below w0.heap.size w0 w' := by
  unfold maxLen at ls
  have HX0 : Hid (In1 w0 v P w0) := Lib.hid ⟨Below.refl _ _, hv, hE⟩
  obtain ⟨av, cv, rfl⟩ := hv.shape
  clear hv hE
  cases hP : longB P with
  | true =>
    go_enter Try.func7, Try.ntmps7
    have K0 := Lib.hid (long_any _ P w0 HX0.out.p lp)
    rw [hP] at K0
    go_wp2_with fail
    refine K0.out.mono ?_
    rintro e w1 ⟨rfl, hbx⟩
    have HX1 := Lib.hid (HX0.out.below hbx)
    clear hbx
    have AW := Lib.hid (awake_any w1 HX1.out.env)
    go_wp2_with fail
    refine AW.out.mono ?_
    rintro e w2 ⟨rfl, hbz⟩
    have HBZ := Lib.hid (HX1.out.bel.trans (hbz.mono HX1.out.bel.size))
    clear hbz
    go_wp2_with fail
    go_ret
    exact ⟨rfl, HBZ.out⟩
  | false =>
    have MP := Lib.hid (long_modest hP)
    have lP : P.length ≤ 20 := (longB_no hP).1
    by_cases h600 : 600 < s.size
    · have d600 : decide (600 < s.size) = true := decide_eq_true h600
      go_enter Try.func7, Try.ntmps7
      have K0 := Lib.hid (long_any _ P w0 HX0.out.p lp)
      rw [hP] at K0
      go_wp2_with fail
      refine K0.out.mono ?_
      rintro e w1 ⟨rfl, hbx⟩
      have HX1 := Lib.hid (HX0.out.below hbx)
      clear hbx
      have AW := Lib.hid (awake_any w1 HX1.out.env)
      go_wp2_with fail
      refine AW.out.mono ?_
      rintro e w2 ⟨rfl, hbz⟩
      have HBZ := Lib.hid (HX1.out.bel.trans (hbz.mono HX1.out.bel.size))
      clear hbz
      go_wp2_with fail
      go_ret
      exact ⟨rfl, HBZ.out⟩
    · have d600 : decide (600 < s.size) = false := decide_eq_false h600
      have ls2 : s.size ≤ 1000 := by omega
      obtain ⟨zs, hzs⟩ : ∃ zs, Hid (parseE s.data.toList = zs) := ⟨_, Lib.hid rfl⟩
      obtain ⟨zp, hzp⟩ : ∃ zp, Hid (checkE (bsL P) = zp) := ⟨_, Lib.hid rfl⟩
      by_cases es : zs = 0
      · subst es
        by_cases ep : zp = 0
        · subst ep
          by_cases hnil : P = []
          · subst hnil
            go_enter Try.func7, Try.ntmps7
            have K0 := Lib.hid (long_any _ [] w0 HX0.out.p lp)
            rw [hP] at K0
            go_wp2_with fail
            refine K0.out.mono ?_
            rintro e w1 ⟨rfl, hbx⟩
            have HX1 := Lib.hid (HX0.out.below hbx)
            clear hbx
            have K1 := Lib.hid (Parse_any s w1 HX1.out.env ls2)
            rw [show parseE s.data.toList = 0 from hzs.out] at K1
            go_wp2_with fail
            refine K1.out.mono ?_
            rintro e w2 ⟨u1, rfl, hu1, hbx⟩
            have HX2 := Lib.hid (HX1.out.below hbx)
            have HU2 := Lib.hid hu1
            obtain ⟨au1, cu1, rfl⟩ := hu1.shape
            clear hu1
            clear hbx
            have RP := Lib.hid (print_parse hzs.out)
            have MQ : Hid (Modest (parseA s)) := Lib.hid (checked_small RP.out.1).modest
            have K2 := Lib.hid (Print_any _ (parseA s) w2 HU2.out MQ.out)
            rw [RP.out.1] at K2
            rw [RP.out.2] at K2
            go_wp2_with fail
            refine K2.out.mono ?_
            rintro e w3 ⟨rfl, hbx⟩
            have HX3 := Lib.hid (HX2.out.below hbx)
            clear hbx
            obtain ⟨T, HT⟩ : ∃ T, Hid ((⟨(printT (bsL [])).toArray⟩ : ByteArray) = T) := ⟨_, Lib.hid rfl⟩
            have RT := Lib.hid (parse_print hzp.out)
            have lT : T.size ≤ 1000 := by rw [← HT.out, ← size_len]; exact text_len hzp.out
            have eT : Hid (parseE T.data.toList = 0) := Lib.hid (by rw [← HT.out]; exact RT.out.1)
            have sT : Hid (sameB [] (parseA T) = true) := Lib.hid (by rw [← HT.out]; exact sameB_iff.2 RT.out.2.symm)
            have lQ : (parseA T).length ≤ 140737488355328 := by rw [← HT.out, ← bsL_len, RT.out.2, bsL_len]; simp
            have K3 := Lib.hid (Print_any _ [] w3 HX3.out.p MP.out)
            rw [show checkE (bsL []) = 0 from hzp.out] at K3
            rw [HT.out] at K3
            go_wp2_with fail
            refine K3.out.mono ?_
            rintro e w4 ⟨rfl, hbx⟩
            have HX4 := Lib.hid (HX3.out.below hbx)
            clear hbx
            have K4 := Lib.hid (Parse_any T w4 HX4.out.env lT)
            rw [eT.out] at K4
            go_wp2_with fail
            refine K4.out.mono ?_
            rintro e w5 ⟨u2, rfl, hu2, hbx⟩
            have HX5 := Lib.hid (HX4.out.below hbx)
            have HV5 := Lib.hid hu2
            obtain ⟨au2, cu2, rfl⟩ := hu2.shape
            clear hu2
            clear hbx
            have K5 := Lib.hid (sameR_any _ _ [] (parseA T) w5 HX5.out.p HV5.out (by simp) lQ)
            rw [sT.out] at K5
            go_wp2_with fail
            refine K5.out.mono ?_
            rintro e w6 ⟨rfl, hbx⟩
            have HX6 := Lib.hid (HX5.out.below hbx)
            clear hbx
            have K6 := Lib.hid (Parent_any _ [] w6 HX6.out.p MP.out)
            rw [show parentE [] = 4 by decide +kernel] at K6
            go_wp2_with fail
            refine K6.out.mono ?_
            rintro e w7 ⟨u3, rfl, hu3, hbx⟩
            have HX7 := Lib.hid (HX6.out.below hbx)
            obtain ⟨au3, cu3, rfl⟩ := hu3.shape
            clear hu3
            clear hbx
            have AW := Lib.hid (awake_any w7 HX7.out.env)
            go_wp2_with fail
            refine AW.out.mono ?_
            rintro e w8 ⟨rfl, hbz⟩
            have HBZ := Lib.hid (HX7.out.bel.trans (hbz.mono HX7.out.bel.size))
            clear hbz
            go_wp2_with fail
            go_ret
            exact ⟨rfl, HBZ.out⟩
          · have hne' : ((P.length : Int) == 0) = false := by simp; exact hnil
            go_enter Try.func7, Try.ntmps7
            have K0 := Lib.hid (long_any _ P w0 HX0.out.p lp)
            rw [hP] at K0
            go_wp2_with fail
            refine K0.out.mono ?_
            rintro e w1 ⟨rfl, hbx⟩
            have HX1 := Lib.hid (HX0.out.below hbx)
            clear hbx
            have K1 := Lib.hid (Parse_any s w1 HX1.out.env ls2)
            rw [show parseE s.data.toList = 0 from hzs.out] at K1
            go_wp2_with fail
            refine K1.out.mono ?_
            rintro e w2 ⟨u1, rfl, hu1, hbx⟩
            have HX2 := Lib.hid (HX1.out.below hbx)
            have HU2 := Lib.hid hu1
            obtain ⟨au1, cu1, rfl⟩ := hu1.shape
            clear hu1
            clear hbx
            have RP := Lib.hid (print_parse hzs.out)
            have MQ : Hid (Modest (parseA s)) := Lib.hid (checked_small RP.out.1).modest
            have K2 := Lib.hid (Print_any _ (parseA s) w2 HU2.out MQ.out)
            rw [RP.out.1] at K2
            rw [RP.out.2] at K2
            go_wp2_with fail
            refine K2.out.mono ?_
            rintro e w3 ⟨rfl, hbx⟩
            have HX3 := Lib.hid (HX2.out.below hbx)
            clear hbx
            obtain ⟨T, HT⟩ : ∃ T, Hid ((⟨(printT (bsL P)).toArray⟩ : ByteArray) = T) := ⟨_, Lib.hid rfl⟩
            have RT := Lib.hid (parse_print hzp.out)
            have lT : T.size ≤ 1000 := by rw [← HT.out, ← size_len]; exact text_len hzp.out
            have eT : Hid (parseE T.data.toList = 0) := Lib.hid (by rw [← HT.out]; exact RT.out.1)
            have sT : Hid (sameB P (parseA T) = true) := Lib.hid (by rw [← HT.out]; exact sameB_iff.2 RT.out.2.symm)
            have lQ : (parseA T).length ≤ 140737488355328 := by rw [← HT.out, ← bsL_len, RT.out.2, bsL_len]; omega
            have K3 := Lib.hid (Print_any _ P w3 HX3.out.p MP.out)
            rw [show checkE (bsL P) = 0 from hzp.out] at K3
            rw [HT.out] at K3
            go_wp2_with fail
            refine K3.out.mono ?_
            rintro e w4 ⟨rfl, hbx⟩
            have HX4 := Lib.hid (HX3.out.below hbx)
            clear hbx
            have K4 := Lib.hid (Parse_any T w4 HX4.out.env lT)
            rw [eT.out] at K4
            go_wp2_with fail
            refine K4.out.mono ?_
            rintro e w5 ⟨u2, rfl, hu2, hbx⟩
            have HX5 := Lib.hid (HX4.out.below hbx)
            have HV5 := Lib.hid hu2
            obtain ⟨au2, cu2, rfl⟩ := hu2.shape
            clear hu2
            clear hbx
            have K5 := Lib.hid (sameR_any _ _ P (parseA T) w5 HX5.out.p HV5.out (by omega) lQ)
            rw [sT.out] at K5
            go_wp2_with fail
            refine K5.out.mono ?_
            rintro e w6 ⟨rfl, hbx⟩
            have HX6 := Lib.hid (HX5.out.below hbx)
            clear hbx
            have RJ := Lib.hid (join_parent hzp.out hnil)
            obtain ⟨D, HD⟩ : ∃ D, Hid (parentP P = D) := ⟨_, Lib.hid rfl⟩
            obtain ⟨lst, HL⟩ : ∃ lst, Hid (parentL P = lst) := ⟨_, Lib.hid rfl⟩
            have MD : Hid (Modest D) := Lib.hid (by rw [← HD.out]; unfold parentP; rw [if_pos hzp.out]; exact ⟨by rw [List.length_take]; omega, fun t ht => MP.out.2 t (List.mem_of_mem_take ht)⟩)
            have lL : lst.size ≤ maxLen := by rw [← HL.out]; have := RJ.out.2.2.2; unfold maxLen; omega
            have K6 := Lib.hid (Parent_any _ P w6 HX6.out.p MP.out)
            rw [RJ.out.2.2.1] at K6
            rw [HD.out] at K6
            rw [HL.out] at K6
            go_wp2_with fail
            refine K6.out.mono ?_
            rintro e w7 ⟨u3, rfl, hu3, hbx⟩
            have HX7 := Lib.hid (HX6.out.below hbx)
            have HD7 := Lib.hid hu3
            obtain ⟨au3, cu3, rfl⟩ := hu3.shape
            clear hu3
            clear hbx
            have K7 := Lib.hid (Join_any _ D lst w7 HD7.out MD.out lL)
            rw [show JoinE D lst = 0 by rw [← HD.out, ← HL.out]; exact RJ.out.1] at K7
            rw [show JoinP D lst = P by rw [← HD.out, ← HL.out]; exact RJ.out.2.1] at K7
            go_wp2_with fail
            refine K7.out.mono ?_
            rintro e w8 ⟨u4, rfl, hu4, hbx⟩
            have HX8 := Lib.hid (HX7.out.below hbx)
            have HW8 := Lib.hid hu4
            obtain ⟨au4, cu4, rfl⟩ := hu4.shape
            clear hu4
            clear hbx
            have K8 := Lib.hid (sameR_any _ _ P P w8 HX8.out.p HW8.out (by omega) (by omega))
            rw [show sameB P P = true from sameB_iff.2 rfl] at K8
            go_wp2_with fail
            refine K8.out.mono ?_
            rintro e w9 ⟨rfl, hbx⟩
            have HX9 := Lib.hid (HX8.out.below hbx)
            clear hbx
            have AW := Lib.hid (awake_any w9 HX9.out.env)
            go_wp2_with fail
            refine AW.out.mono ?_
            rintro e w10 ⟨rfl, hbz⟩
            have HBZ := Lib.hid (HX9.out.bel.trans (hbz.mono HX9.out.bel.size))
            clear hbz
            go_wp2_with fail
            go_ret
            exact ⟨rfl, HBZ.out⟩
        · have ep' : (zp != 0) = true := by simpa using ep
          go_enter Try.func7, Try.ntmps7
          have K0 := Lib.hid (long_any _ P w0 HX0.out.p lp)
          rw [hP] at K0
          go_wp2_with fail
          refine K0.out.mono ?_
          rintro e w1 ⟨rfl, hbx⟩
          have HX1 := Lib.hid (HX0.out.below hbx)
          clear hbx
          have K1 := Lib.hid (Parse_any s w1 HX1.out.env ls2)
          rw [show parseE s.data.toList = 0 from hzs.out] at K1
          go_wp2_with fail
          refine K1.out.mono ?_
          rintro e w2 ⟨u1, rfl, hu1, hbx⟩
          have HX2 := Lib.hid (HX1.out.below hbx)
          have HU2 := Lib.hid hu1
          obtain ⟨au1, cu1, rfl⟩ := hu1.shape
          clear hu1
          clear hbx
          have RP := Lib.hid (print_parse hzs.out)
          have MQ : Hid (Modest (parseA s)) := Lib.hid (checked_small RP.out.1).modest
          have K2 := Lib.hid (Print_any _ (parseA s) w2 HU2.out MQ.out)
          rw [RP.out.1] at K2
          rw [RP.out.2] at K2
          go_wp2_with fail
          refine K2.out.mono ?_
          rintro e w3 ⟨rfl, hbx⟩
          have HX3 := Lib.hid (HX2.out.below hbx)
          clear hbx
          have PB := Lib.hid (printT_bad (P := P) (by rw [hzp.out]; exact ep))
          have K3 := Lib.hid (Print_any _ P w3 HX3.out.p MP.out)
          rw [show checkE (bsL P) = zp from hzp.out] at K3
          rw [PB.out] at K3
          go_wp2_with fail
          refine K3.out.mono ?_
          rintro e w4 ⟨rfl, hbx⟩
          have HX4 := Lib.hid (HX3.out.below hbx)
          clear hbx
          have K4 := Lib.hid (check_any _ P w4 HX4.out.p MP.out)
          rw [show checkE (bsL P) = zp from hzp.out] at K4
          go_wp2_with fail
          refine K4.out.mono ?_
          rintro e w5 ⟨rfl, hbx⟩
          have HX5 := Lib.hid (HX4.out.below hbx)
          clear hbx
          have AW := Lib.hid (awake_any w5 HX5.out.env)
          go_wp2_with fail
          refine AW.out.mono ?_
          rintro e w6 ⟨rfl, hbz⟩
          have HBZ := Lib.hid (HX5.out.bel.trans (hbz.mono HX5.out.bel.size))
          clear hbz
          go_wp2_with fail
          go_ret
          exact ⟨rfl, HBZ.out⟩
      · have es' : (zs == 0) = false := by simpa using es
        by_cases ep : zp = 0
        · subst ep
          by_cases hnil : P = []
          · subst hnil
            go_enter Try.func7, Try.ntmps7
            have K0 := Lib.hid (long_any _ [] w0 HX0.out.p lp)
            rw [hP] at K0
            go_wp2_with fail
            refine K0.out.mono ?_
            rintro e w1 ⟨rfl, hbx⟩
            have HX1 := Lib.hid (HX0.out.below hbx)
            clear hbx
            have K1 := Lib.hid (Parse_any s w1 HX1.out.env ls2)
            rw [show parseE s.data.toList = zs from hzs.out] at K1
            go_wp2_with fail
            refine K1.out.mono ?_
            rintro e w2 ⟨u1, rfl, hu1, hbx⟩
            have HX2 := Lib.hid (HX1.out.below hbx)
            have HU2 := Lib.hid hu1
            obtain ⟨au1, cu1, rfl⟩ := hu1.shape
            clear hu1
            clear hbx
            obtain ⟨T, HT⟩ : ∃ T, Hid ((⟨(printT (bsL [])).toArray⟩ : ByteArray) = T) := ⟨_, Lib.hid rfl⟩
            have RT := Lib.hid (parse_print hzp.out)
            have lT : T.size ≤ 1000 := by rw [← HT.out, ← size_len]; exact text_len hzp.out
            have eT : Hid (parseE T.data.toList = 0) := Lib.hid (by rw [← HT.out]; exact RT.out.1)
            have sT : Hid (sameB [] (parseA T) = true) := Lib.hid (by rw [← HT.out]; exact sameB_iff.2 RT.out.2.symm)
            have lQ : (parseA T).length ≤ 140737488355328 := by rw [← HT.out, ← bsL_len, RT.out.2, bsL_len]; simp
            have K2 := Lib.hid (Print_any _ [] w2 HX2.out.p MP.out)
            rw [show checkE (bsL []) = 0 from hzp.out] at K2
            rw [HT.out] at K2
            go_wp2_with fail
            refine K2.out.mono ?_
            rintro e w3 ⟨rfl, hbx⟩
            have HX3 := Lib.hid (HX2.out.below hbx)
            clear hbx
            have K3 := Lib.hid (Parse_any T w3 HX3.out.env lT)
            rw [eT.out] at K3
            go_wp2_with fail
            refine K3.out.mono ?_
            rintro e w4 ⟨u2, rfl, hu2, hbx⟩
            have HX4 := Lib.hid (HX3.out.below hbx)
            have HV4 := Lib.hid hu2
            obtain ⟨au2, cu2, rfl⟩ := hu2.shape
            clear hu2
            clear hbx
            have K4 := Lib.hid (sameR_any _ _ [] (parseA T) w4 HX4.out.p HV4.out (by simp) lQ)
            rw [sT.out] at K4
            go_wp2_with fail
            refine K4.out.mono ?_
            rintro e w5 ⟨rfl, hbx⟩
            have HX5 := Lib.hid (HX4.out.below hbx)
            clear hbx
            have K5 := Lib.hid (Parent_any _ [] w5 HX5.out.p MP.out)
            rw [show parentE [] = 4 by decide +kernel] at K5
            go_wp2_with fail
            refine K5.out.mono ?_
            rintro e w6 ⟨u3, rfl, hu3, hbx⟩
            have HX6 := Lib.hid (HX5.out.below hbx)
            obtain ⟨au3, cu3, rfl⟩ := hu3.shape
            clear hu3
            clear hbx
            have AW := Lib.hid (awake_any w6 HX6.out.env)
            go_wp2_with fail
            refine AW.out.mono ?_
            rintro e w7 ⟨rfl, hbz⟩
            have HBZ := Lib.hid (HX6.out.bel.trans (hbz.mono HX6.out.bel.size))
            clear hbz
            go_wp2_with fail
            go_ret
            exact ⟨rfl, HBZ.out⟩
          · have hne' : ((P.length : Int) == 0) = false := by simp; exact hnil
            go_enter Try.func7, Try.ntmps7
            have K0 := Lib.hid (long_any _ P w0 HX0.out.p lp)
            rw [hP] at K0
            go_wp2_with fail
            refine K0.out.mono ?_
            rintro e w1 ⟨rfl, hbx⟩
            have HX1 := Lib.hid (HX0.out.below hbx)
            clear hbx
            have K1 := Lib.hid (Parse_any s w1 HX1.out.env ls2)
            rw [show parseE s.data.toList = zs from hzs.out] at K1
            go_wp2_with fail
            refine K1.out.mono ?_
            rintro e w2 ⟨u1, rfl, hu1, hbx⟩
            have HX2 := Lib.hid (HX1.out.below hbx)
            have HU2 := Lib.hid hu1
            obtain ⟨au1, cu1, rfl⟩ := hu1.shape
            clear hu1
            clear hbx
            obtain ⟨T, HT⟩ : ∃ T, Hid ((⟨(printT (bsL P)).toArray⟩ : ByteArray) = T) := ⟨_, Lib.hid rfl⟩
            have RT := Lib.hid (parse_print hzp.out)
            have lT : T.size ≤ 1000 := by rw [← HT.out, ← size_len]; exact text_len hzp.out
            have eT : Hid (parseE T.data.toList = 0) := Lib.hid (by rw [← HT.out]; exact RT.out.1)
            have sT : Hid (sameB P (parseA T) = true) := Lib.hid (by rw [← HT.out]; exact sameB_iff.2 RT.out.2.symm)
            have lQ : (parseA T).length ≤ 140737488355328 := by rw [← HT.out, ← bsL_len, RT.out.2, bsL_len]; omega
            have K2 := Lib.hid (Print_any _ P w2 HX2.out.p MP.out)
            rw [show checkE (bsL P) = 0 from hzp.out] at K2
            rw [HT.out] at K2
            go_wp2_with fail
            refine K2.out.mono ?_
            rintro e w3 ⟨rfl, hbx⟩
            have HX3 := Lib.hid (HX2.out.below hbx)
            clear hbx
            have K3 := Lib.hid (Parse_any T w3 HX3.out.env lT)
            rw [eT.out] at K3
            go_wp2_with fail
            refine K3.out.mono ?_
            rintro e w4 ⟨u2, rfl, hu2, hbx⟩
            have HX4 := Lib.hid (HX3.out.below hbx)
            have HV4 := Lib.hid hu2
            obtain ⟨au2, cu2, rfl⟩ := hu2.shape
            clear hu2
            clear hbx
            have K4 := Lib.hid (sameR_any _ _ P (parseA T) w4 HX4.out.p HV4.out (by omega) lQ)
            rw [sT.out] at K4
            go_wp2_with fail
            refine K4.out.mono ?_
            rintro e w5 ⟨rfl, hbx⟩
            have HX5 := Lib.hid (HX4.out.below hbx)
            clear hbx
            have RJ := Lib.hid (join_parent hzp.out hnil)
            obtain ⟨D, HD⟩ : ∃ D, Hid (parentP P = D) := ⟨_, Lib.hid rfl⟩
            obtain ⟨lst, HL⟩ : ∃ lst, Hid (parentL P = lst) := ⟨_, Lib.hid rfl⟩
            have MD : Hid (Modest D) := Lib.hid (by rw [← HD.out]; unfold parentP; rw [if_pos hzp.out]; exact ⟨by rw [List.length_take]; omega, fun t ht => MP.out.2 t (List.mem_of_mem_take ht)⟩)
            have lL : lst.size ≤ maxLen := by rw [← HL.out]; have := RJ.out.2.2.2; unfold maxLen; omega
            have K5 := Lib.hid (Parent_any _ P w5 HX5.out.p MP.out)
            rw [RJ.out.2.2.1] at K5
            rw [HD.out] at K5
            rw [HL.out] at K5
            go_wp2_with fail
            refine K5.out.mono ?_
            rintro e w6 ⟨u3, rfl, hu3, hbx⟩
            have HX6 := Lib.hid (HX5.out.below hbx)
            have HD6 := Lib.hid hu3
            obtain ⟨au3, cu3, rfl⟩ := hu3.shape
            clear hu3
            clear hbx
            have K6 := Lib.hid (Join_any _ D lst w6 HD6.out MD.out lL)
            rw [show JoinE D lst = 0 by rw [← HD.out, ← HL.out]; exact RJ.out.1] at K6
            rw [show JoinP D lst = P by rw [← HD.out, ← HL.out]; exact RJ.out.2.1] at K6
            go_wp2_with fail
            refine K6.out.mono ?_
            rintro e w7 ⟨u4, rfl, hu4, hbx⟩
            have HX7 := Lib.hid (HX6.out.below hbx)
            have HW7 := Lib.hid hu4
            obtain ⟨au4, cu4, rfl⟩ := hu4.shape
            clear hu4
            clear hbx
            have K7 := Lib.hid (sameR_any _ _ P P w7 HX7.out.p HW7.out (by omega) (by omega))
            rw [show sameB P P = true from sameB_iff.2 rfl] at K7
            go_wp2_with fail
            refine K7.out.mono ?_
            rintro e w8 ⟨rfl, hbx⟩
            have HX8 := Lib.hid (HX7.out.below hbx)
            clear hbx
            have AW := Lib.hid (awake_any w8 HX8.out.env)
            go_wp2_with fail
            refine AW.out.mono ?_
            rintro e w9 ⟨rfl, hbz⟩
            have HBZ := Lib.hid (HX8.out.bel.trans (hbz.mono HX8.out.bel.size))
            clear hbz
            go_wp2_with fail
            go_ret
            exact ⟨rfl, HBZ.out⟩
        · have ep' : (zp != 0) = true := by simpa using ep
          go_enter Try.func7, Try.ntmps7
          have K0 := Lib.hid (long_any _ P w0 HX0.out.p lp)
          rw [hP] at K0
          go_wp2_with fail
          refine K0.out.mono ?_
          rintro e w1 ⟨rfl, hbx⟩
          have HX1 := Lib.hid (HX0.out.below hbx)
          clear hbx
          have K1 := Lib.hid (Parse_any s w1 HX1.out.env ls2)
          rw [show parseE s.data.toList = zs from hzs.out] at K1
          go_wp2_with fail
          refine K1.out.mono ?_
          rintro e w2 ⟨u1, rfl, hu1, hbx⟩
          have HX2 := Lib.hid (HX1.out.below hbx)
          have HU2 := Lib.hid hu1
          obtain ⟨au1, cu1, rfl⟩ := hu1.shape
          clear hu1
          clear hbx
          have PB := Lib.hid (printT_bad (P := P) (by rw [hzp.out]; exact ep))
          have K2 := Lib.hid (Print_any _ P w2 HX2.out.p MP.out)
          rw [show checkE (bsL P) = zp from hzp.out] at K2
          rw [PB.out] at K2
          go_wp2_with fail
          refine K2.out.mono ?_
          rintro e w3 ⟨rfl, hbx⟩
          have HX3 := Lib.hid (HX2.out.below hbx)
          clear hbx
          have K3 := Lib.hid (check_any _ P w3 HX3.out.p MP.out)
          rw [show checkE (bsL P) = zp from hzp.out] at K3
          go_wp2_with fail
          refine K3.out.mono ?_
          rintro e w4 ⟨rfl, hbx⟩
          have HX4 := Lib.hid (HX3.out.below hbx)
          clear hbx
          have AW := Lib.hid (awake_any w4 HX4.out.env)
          go_wp2_with fail
          refine AW.out.mono ?_
          rintro e w5 ⟨rfl, hbz⟩
          have HBZ := Lib.hid (HX4.out.bel.trans (hbz.mono HX4.out.bel.size))
          clear hbz
          go_wp2_with fail
          go_ret
          exact ⟨rfl, HBZ.out⟩
end Go.Proofs.Ytbgfeonlnhlbfaa
