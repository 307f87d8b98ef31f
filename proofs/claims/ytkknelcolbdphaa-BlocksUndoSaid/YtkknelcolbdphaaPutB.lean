/- put, Take, Free. -/
import Derived.Test.YtkknelcolbdphaaChkL
import Derived.Test.YtkknelcolbdphaaAwake
namespace Go.Proofs.Ytkknelcolbdphaa
open Go.RowKit
set_option maxRecDepth 100000

theorem anyP_succ {U : List Bool} {L : List Int} {u : Bool} {k : Nat} (hk : k < L.length) : anyP U L u (k + 1) = (anyP U L u k || (U.getD (L.getD k 0).toNat false == u)) := by
  have hg : L.getD k 0 = L[k] := by rw [List.getD_eq_getElem?_getD, List.getElem?_eq_getElem hk]; rfl
  unfold anyP
  rw [List.take_succ_eq_append_getElem hk, List.any_append, hg]
  simp
theorem anyP_mono {U : List Bool} {L : List Int} {u : Bool} {k : Nat} (h : anyP U L u k = true) : ∀ m, k ≤ m → m ≤ L.length → anyP U L u m = true := by
  intro m hm hl
  induction m with
  | zero => have : k = 0 := by omega
            rw [this] at h; exact h
  | succ m ih =>
    by_cases e : k = m + 1
    · rw [← e]; exact h
    · rw [anyP_succ (by omega), ih (by omega) (by omega)]; rfl
theorem listE_in {n : Nat} {L : List Int} (h : listE n L = 0) : ∀ k, k < L.length → 0 ≤ L.getD k 0 ∧ L.getD k 0 < (n : Int) := fun k hk => okAt_in (listN_ok h k hk)
theorem nats_of {w : World} {v : Value} {L : List Int} (h : IntsAt w v L) (h0 : ∀ k, k < L.length → 0 ≤ L.getD k 0) : NatsAt w v (L.map Int.toNat) := by
  rcases h with ⟨a, c, rfl, rfl⟩ | ⟨b, o, c, rfl, hb, hc⟩
  · exact .inl ⟨a, c, rfl, rfl⟩
  · refine .inr ⟨b, o, c, by rw [List.length_map], hb, fun k hk => ?_⟩
    rw [List.length_map] at hk
    rw [hc k hk]
    have h1 := h0 k hk
    have hg : L.getD k 0 = L[k] := by rw [List.getD_eq_getElem?_getD, List.getElem?_eq_getElem hk]; rfl
    rw [hg] at h1
    rw [List.getElem_map]
    unfold intV natV
    congr 2
    omega
theorem toNat_mem {n : Nat} {L : List Int} (h : listE n L = 0) : ∀ b ∈ L.map Int.toNat, b < n := by
  intro b hb
  obtain ⟨x, hx, rfl⟩ := List.mem_map.1 hb
  obtain ⟨k, hk, rfl⟩ := List.getElem_of_mem hx
  have h1 := listE_in h k hk
  have hg : L.getD k 0 = L[k] := by rw [List.getD_eq_getElem?_getD, List.getElem?_eq_getElem hk]; rfl
  rw [hg] at h1
  omega
/-- The copy's end: the state lies in the result's box. -/
theorem put_end {l : Lay} {U : List Bool} {w w2 w4 W : World} {v : Value} {q : Nat} (hb : Below w.heap.size w w2) (hR : Row w2 (w.heap.size + 1) zeroSt 33) (h : Below w2.heap.size w2 W) (hq : w2.heap.size ≤ q) (ho : OwnB W q v U) :
    Row ((((W.setCell ⟨w.heap.size + 1, 0, none⟩ (.int .i64 l.s)).setCell ⟨w.heap.size + 1, 1, none⟩ (.int .i64 l.j)).setCell ⟨w.heap.size + 1, 2, none⟩ (.int .i64 l.n)).setCell ⟨w.heap.size + 1, 3, none⟩ v) (w.heap.size + 1) (stA l v) 33 ∧
    OwnB ((((W.setCell ⟨w.heap.size + 1, 0, none⟩ (.int .i64 l.s)).setCell ⟨w.heap.size + 1, 1, none⟩ (.int .i64 l.j)).setCell ⟨w.heap.size + 1, 2, none⟩ (.int .i64 l.n)).setCell ⟨w.heap.size + 1, 3, none⟩ v) w.heap.size v U ∧
    Below w.heap.size w ((((W.setCell ⟨w.heap.size + 1, 0, none⟩ (.int .i64 l.s)).setCell ⟨w.heap.size + 1, 1, none⟩ (.int .i64 l.j)).setCell ⟨w.heap.size + 1, 2, none⟩ (.int .i64 l.n)).setCell ⟨w.heap.size + 1, 3, none⟩ v) := by
  have hlt := hR.lt
  have hsz := h.size
  exact ⟨(hR.below h hR.lt).sets4 _ _ _ _, (ho.sets4 (b := w.heap.size + 1) (by omega) (fun g o n c e => by have := (ho.lt g (by rw [e]; rfl)).1; omega) _ _ _ _).sub (by omega), below_sets4 (hb.trans (h.mono hb.size)) _ (by omega) _ _ _ _⟩
set_option maxHeartbeats 8000000 in
theorem put_any {w : World} {l : Lay} {v vl : Value} {U : List Bool} {L : List Int} {u : Bool} (x : Int) (hv : BoolsAt w v U) (hl : IntsAt w vl L) (hU : U.length ≤ 1000) (hLl : L.length ≤ 100000) (hx : x ≠ 0) :
    Calls Try.prog 46 #[.agg (stA l v), vl, .bool u, .int .i64 x] w (StPost l (putU l U L u x) (putE l U L u x) w) := by
  obtain ⟨s, c, rfl⟩ := hv.val
  obtain ⟨sl, cl, rfl⟩ := hl.val
  obtain ⟨w2, hw2, hr1, hr2, hb2⟩ := box_two l (.slice s U.length c) w
  have HR1 := Lib.hid hr1
  have HR2 := Lib.hid hr2
  have HB2 := Lib.hid hb2
  have HV := Lib.hid (hv.below hb2 (Nat.le_refl _))
  have HL := Lib.hid (hl.below hb2 (Nat.le_refl _))
  have HC := Lib.hid (check_any l U s c w2)
  obtain ⟨x0, x1, x2, x3⟩ := hr1.four'
  clear hr1 hr2 hb2 hv hl
  obtain ⟨E, hEE⟩ : ∃ E, chkE l U = E := ⟨_, rfl⟩
  rw [hEE] at HC
  unfold stA at hw2 HC ⊢
  go_enter Try.func46, Try.ntmps46
  go_wp2_with (rw [hw2])
  refine HC.out.mono ?_
  rintro e w3 ⟨rfl, hb3⟩
  have HB3 := Lib.hid hb3
  clear hb3 x0 x1 x2 x3 hw2
  by_cases hE : E = 0
  · subst hE
    obtain ⟨hn8, hn245⟩ := chkE_len hEE
    have HCL := Lib.hid (checkList_any U.length (HL.out.below HB3.out (Nat.le_refl _)) (by omega) hLl)
    obtain ⟨F, hF⟩ : ∃ F, listE U.length L = F := ⟨_, rfl⟩
    rw [hF] at HCL
    obtain ⟨x0, x1, x2, x3⟩ := (HR1.out.below HB3.out HR1.out.lt).four'
    go_wp2_with fail
    refine HCL.out.mono ?_
    rintro e w4 ⟨rfl, hb4⟩
    have HB4 := Lib.hid (HB3.out.trans (hb4.mono HB3.out.size))
    clear hb4 x0 x1 x2 x3
    by_cases hF0 : F = 0
    · subst hF0
      have HLI := Lib.hid (listE_in hF)
      have HMB := Lib.hid (toNat_mem hF)
      have HPE : Hid (putE l U L u x = if anyP U L u L.length then x else 0) := Lib.hid (by unfold putE; rw [if_pos hEE, if_pos hF])
      clear hEE hF
      go_wp2_with fail
      go_loopw [33] (fun i wr => ∃ k : Nat, k ≤ L.length ∧ i = .int .i64 k ∧ Hid (anyP U L u k = false) ∧ Hid (Below w2.heap.size w2 wr)) (fun i _ => L.length - (intOf i).toNat)
      case atStart => exact ⟨0, Nat.zero_le _, rfl, Lib.hid (by unfold anyP; rw [List.take_zero]; rfl), HB4⟩
      case round =>
        obtain ⟨k, hk, rfl, hA, hB⟩ := hrel
        have HBX := hB
        by_cases hlt : k < L.length
        · have hd : decide ((k : Int) < L.length) = true := by simpa using hlt
          obtain ⟨g, o, rfl, h1⟩ := (HL.out.below hB.out (Nat.le_refl _)).at_ k hlt
          have hgd : L[k] = L.getD k 0 := by rw [List.getD_eq_getElem?_getD, List.getElem?_eq_getElem hlt]; rfl
          rw [hgd] at h1
          have HS := Lib.hid (anyP_succ (U := U) (u := u) hlt)
          have hki := HLI.out k hlt
          obtain ⟨b, hb⟩ := Int.eq_ofNat_of_zero_le hki.1
          rw [hb] at h1 hki HS
          rw [Int.toNat_natCast] at HS
          unfold intV at h1
          obtain ⟨gu, ou, rfl, h2⟩ := (HV.out.below hB.out (Nat.le_refl _)).at_ b (by omega)
          have hgu : U[b]'(by omega) = U.getD b false := by rw [List.getD_eq_getElem?_getD, List.getElem?_eq_getElem (by omega)]; rfl
          rw [hgu] at h2
          obtain ⟨x0, x1, x2, x3⟩ := (HR1.out.below hB.out HR1.out.lt).four'
          have hbl : b < U.length := by omega
          clear hgd hgu hb hki
          cases hq : (U.getD b false == u) with
          | true =>
            have HAT : Hid (anyP U L u L.length = true) := Lib.hid (anyP_mono (k := k + 1) (by rw [HS.out, hq]; simp) L.length (by omega) (Nat.le_refl _))
            have HE : Hid (putE l U L u x = x) := Lib.hid (by rw [HPE.out, HAT.out]; rfl)
            have HU2 : Hid (putU l U L u x = U) := Lib.hid (by unfold putU; rw [if_neg (by rw [HE.out]; exact hx)])
            generalize U.getD b false = y at *
            clear HS
            have HCP := Lib.hid (copyOf_any (l := l) (HV.out.below HBX.out (Nat.le_refl _)) hU)
            unfold stA at HCP
            go_wp2_with fail
            refine HCP.out.mono ?_
            rintro e w6 ⟨v6, rfl, ho6, hb6⟩
            obtain ⟨s6, c6, rfl⟩ := ho6.at_.val
            have HB6 := Lib.hid (HBX.out.trans (hb6.mono HBX.out.size))
            have HBK := Lib.hid (put_end (l := l) (w4 := w) HB2.out HR2.out HB6.out HBX.out.size ho6)
            obtain ⟨y0, y1, y2, y3⟩ := (HR2.out.below HB6.out HR2.out.lt).four
            have yf := (HR2.out.below HB6.out HR2.out.lt).froz
            clear hb6 ho6 x0 x1 x2 x3 h1 h2
            unfold stA
            go_wp2_with fail
            exact bodyPost_ret (bodyRet_st rfl rfl rfl HBK.out.1 rfl) rfl ⟨_, by rw [HE.out]; rfl, by rw [HU2.out]; exact HBK.out.2.1, HBK.out.2.2⟩
          | false =>
            have HAN : Hid (anyP U L u (k + 1) = false) := Lib.hid (by rw [HS.out, hA.out, hq]; rfl)
            generalize U.getD b false = y at *
            clear HS
            go_wp2_with fail
            go_roundw
            case rel => exact ⟨k + 1, by omega, by go_num, HAN, hB⟩
            case measure => simp [intOf]; omega
        · obtain rfl : k = L.length := by omega
          have hd : decide ((L.length : Int) < L.length) = false := by simp
          have HE : Hid (putE l U L u x = 0) := Lib.hid (by rw [HPE.out, hA.out]; rfl)
          have HU2 : Hid (putU l U L u x = withL U (L.map Int.toNat) u) := Lib.hid (by unfold putU; rw [if_pos HE.out])
          obtain ⟨x0, x1, x2, x3⟩ := (HR1.out.below HBX.out HR1.out.lt).four'
          have HCP := Lib.hid (with_any (l := l) (u := u) (HV.out.below HBX.out (Nat.le_refl _)) (nats_of (HL.out.below HBX.out (Nat.le_refl _)) (fun k hk => (HLI.out k hk).1)) hU (by rw [List.length_map]; exact hLl) HMB.out)
          unfold stA at HCP
          go_wp2_with fail
          refine HCP.out.mono ?_
          rintro e w6 ⟨v6, rfl, ho6, hb6⟩
          obtain ⟨s6, c6, rfl⟩ := ho6.at_.val
          rw [withL_len] at ho6 ⊢
          have HB6 := Lib.hid (HBX.out.trans (hb6.mono HBX.out.size))
          have HBK := Lib.hid (put_end (l := l) (w4 := w) HB2.out HR2.out HB6.out HBX.out.size ho6)
          obtain ⟨y0, y1, y2, y3⟩ := (HR2.out.below HB6.out HR2.out.lt).four
          have yf := (HR2.out.below HB6.out HR2.out.lt).froz
          clear hb6 ho6 x0 x1 x2 x3
          unfold stA
          go_wp2_with fail
          exact bodyPost_ret (bodyRet_st rfl rfl rfl HBK.out.1 rfl) rfl ⟨_, by rw [HE.out]; rfl, by rw [HU2.out]; exact HBK.out.2.1, HBK.out.2.2⟩

    · have hd := decB hF0
      have HE : Hid (putE l U L u x = F) := Lib.hid (by unfold putE; rw [if_pos hEE, if_neg (by rw [hF]; exact hF0), hF])
      have HU2 : Hid (putU l U L u x = U) := Lib.hid (by unfold putU; rw [if_neg (by rw [HE.out]; exact hF0)])
      have HBX := HB4
      clear hEE hF
      obtain ⟨x0, x1, x2, x3⟩ := (HR1.out.below HBX.out HR1.out.lt).four'
      have HCP := Lib.hid (copyOf_any (l := l) (HV.out.below HBX.out (Nat.le_refl _)) hU)
      unfold stA at HCP
      go_wp2_with fail
      refine HCP.out.mono ?_
      rintro e w6 ⟨v6, rfl, ho6, hb6⟩
      obtain ⟨s6, c6, rfl⟩ := ho6.at_.val
      have HB6 := Lib.hid (HBX.out.trans (hb6.mono HBX.out.size))
      have HBK := Lib.hid (put_end (l := l) (w4 := w) HB2.out HR2.out HB6.out HBX.out.size ho6)
      obtain ⟨y0, y1, y2, y3⟩ := (HR2.out.below HB6.out HR2.out.lt).four
      have yf := (HR2.out.below HB6.out HR2.out.lt).froz
      clear hb6 ho6 x0 x1 x2 x3
      unfold stA
      go_wp2_with fail
      exact bodyPost_ret (bodyRet_st rfl rfl rfl HBK.out.1 rfl) rfl ⟨_, by rw [HE.out]; rfl, by rw [HU2.out]; exact HBK.out.2.1, HBK.out.2.2⟩

  · have hd := decB hE
    have HE : Hid (putE l U L u x = E) := Lib.hid (by unfold putE; rw [if_neg (by rw [hEE]; exact hE), hEE])
    have HU2 : Hid (putU l U L u x = U) := Lib.hid (by unfold putU; rw [if_neg (by rw [HE.out]; exact hE)])
    have HBX := HB3
    clear hEE
    obtain ⟨x0, x1, x2, x3⟩ := (HR1.out.below HBX.out HR1.out.lt).four'
    have HCP := Lib.hid (copyOf_any (l := l) (HV.out.below HBX.out (Nat.le_refl _)) hU)
    unfold stA at HCP
    go_wp2_with fail
    refine HCP.out.mono ?_
    rintro e w6 ⟨v6, rfl, ho6, hb6⟩
    obtain ⟨s6, c6, rfl⟩ := ho6.at_.val
    have HB6 := Lib.hid (HBX.out.trans (hb6.mono HBX.out.size))
    have HBK := Lib.hid (put_end (l := l) (w4 := w) HB2.out HR2.out HB6.out HBX.out.size ho6)
    obtain ⟨y0, y1, y2, y3⟩ := (HR2.out.below HB6.out HR2.out.lt).four
    have yf := (HR2.out.below HB6.out HR2.out.lt).froz
    clear hb6 ho6 x0 x1 x2 x3
    unfold stA
    go_wp2_with fail
    exact bodyPost_ret (bodyRet_st rfl rfl rfl HBK.out.1 rfl) rfl ⟨_, by rw [HE.out]; rfl, by rw [HU2.out]; exact HBK.out.2.1, HBK.out.2.2⟩
theorem putU_len (l : Lay) (U : List Bool) (L : List Int) (u : Bool) (x : Int) : (putU l U L u x).length = U.length := by
  unfold putU
  split
  · exact withL_len _ _ _
  · rfl
set_option maxHeartbeats 2000000 in
theorem take_any {w : World} {l : Lay} {v vl : Value} {U : List Bool} {L : List Int} (hv : BoolsAt w v U) (hl : IntsAt w vl L) (hU : U.length ≤ 1000) (hLl : L.length ≤ 100000) :
    Calls Try.prog 25 #[.agg (stA l v), vl] w (StPost l (putU l U L true 9) (putE l U L true 9) w) := by
  obtain ⟨s, c, rfl⟩ := hv.val
  obtain ⟨sl, cl, rfl⟩ := hl.val
  obtain ⟨w2, hw2, hr1, hr2, hb2⟩ := box_two l (.slice s U.length c) w
  have HR2 := Lib.hid hr2
  have HB2 := Lib.hid hb2
  have HP := Lib.hid (put_any (l := l) (u := true) 9 (hv.below hb2 (Nat.le_refl _)) (hl.below hb2 (Nat.le_refl _)) hU hLl (by decide))
  obtain ⟨x0, x1, x2, x3⟩ := hr1.four'
  have hul := putU_len l U L true 9
  have HUL := Lib.hid hul
  clear hr1 hr2 hb2 hv hl
  unfold stA at hw2 HP ⊢
  go_enter Try.func25, Try.ntmps25
  go_wp2_with (rw [hw2])
  refine HP.out.mono ?_
  rintro e w6 ⟨v6, rfl, ho6, hb6⟩
  obtain ⟨s6, c6, rfl⟩ := ho6.at_.val
  have HBK := Lib.hid (put_end (l := l) (w4 := w) HB2.out HR2.out hb6 (Nat.le_refl _) ho6)
  obtain ⟨y0, y1, y2, y3⟩ := (HR2.out.below hb6 HR2.out.lt).four
  have yf := (HR2.out.below hb6 HR2.out.lt).froz
  clear hb6 ho6 x0 x1 x2 x3 hw2 hul
  unfold stA
  go_wp2_with fail
  exact bodyPost_ret (bodyRet_st rfl rfl rfl HBK.out.1 rfl) rfl ⟨_, rfl, HBK.out.2.1, HBK.out.2.2⟩
set_option maxHeartbeats 2000000 in
theorem free_any {w : World} {l : Lay} {v vl : Value} {U : List Bool} {L : List Int} (hv : BoolsAt w v U) (hl : IntsAt w vl L) (hU : U.length ≤ 1000) (hLl : L.length ≤ 100000) :
    Calls Try.prog 27 #[.agg (stA l v), vl] w (StPost l (putU l U L false 4) (putE l U L false 4) w) := by
  obtain ⟨s, c, rfl⟩ := hv.val
  obtain ⟨sl, cl, rfl⟩ := hl.val
  obtain ⟨w2, hw2, hr1, hr2, hb2⟩ := box_two l (.slice s U.length c) w
  have HR2 := Lib.hid hr2
  have HB2 := Lib.hid hb2
  have HP := Lib.hid (put_any (l := l) (u := false) 4 (hv.below hb2 (Nat.le_refl _)) (hl.below hb2 (Nat.le_refl _)) hU hLl (by decide))
  obtain ⟨x0, x1, x2, x3⟩ := hr1.four'
  have hul := putU_len l U L false 4
  have HUL := Lib.hid hul
  clear hr1 hr2 hb2 hv hl
  unfold stA at hw2 HP ⊢
  go_enter Try.func27, Try.ntmps27
  go_wp2_with (rw [hw2])
  refine HP.out.mono ?_
  rintro e w6 ⟨v6, rfl, ho6, hb6⟩
  obtain ⟨s6, c6, rfl⟩ := ho6.at_.val
  have HBK := Lib.hid (put_end (l := l) (w4 := w) HB2.out HR2.out hb6 (Nat.le_refl _) ho6)
  obtain ⟨y0, y1, y2, y3⟩ := (HR2.out.below hb6 HR2.out.lt).four
  have yf := (HR2.out.below hb6 HR2.out.lt).froz
  clear hb6 ho6 x0 x1 x2 x3 hw2 hul
  unfold stA
  go_wp2_with fail
  exact bodyPost_ret (bodyRet_st rfl rfl rfl HBK.out.1 rfl) rfl ⟨_, rfl, HBK.out.2.1, HBK.out.2.2⟩
end Go.Proofs.Ytkknelcolbdphaa
