/- Encode, Size. -/
import Derived.Test.YtnocmkjaifjgfaaDoorREncF
namespace Go.Proofs.YtnocmkjaifjgfaaDoor.R
open Go.RowKit
attribute [local go_sem] run_store_func run_store_nilFunc

theorem letters {c : Nat} (h : kindB c = true) : (0 < widV c ∧ wfV c = 44 ∧ rfV c = 45 ∧ szV c = widV c) ∨ c = 118 ∨ c = 115 ∨ c = 108 := by
  unfold kindB at h
  simp at h
  rcases h with rfl | rfl | rfl | rfl | rfl | rfl | rfl
  · exact .inl ⟨by decide, rfl, rfl, rfl⟩
  · exact .inl ⟨by decide, rfl, rfl, rfl⟩
  · exact .inl ⟨by decide, rfl, rfl, rfl⟩
  · exact .inl ⟨by decide, rfl, rfl, rfl⟩
  · exact .inr (.inl rfl)
  · exact .inr (.inr (.inl rfl))
  · exact .inr (.inr (.inr rfl))
theorem formE_kind {l : List UInt8} (h : formE l = 0) : l.length ≤ 64 ∧ ∀ j (hj : j < l.length), kindB l[j].toNat = true := by
  unfold formE at h
  by_cases h1 : 64 < l.length
  · rw [if_pos h1] at h; omega
  · rw [if_neg h1] at h
    refine ⟨by omega, fun j hj => ?_⟩
    cases ha : l.all (fun c => kindB c.toNat) with
    | false => rw [ha] at h; simp at h
    | true => exact List.all_eq_true.1 ha _ (List.getElem_mem hj)
theorem valL_len (c : Nat) (v : Rv) (h : valE c v = 0) : (valL c v).length ≤ 410 := by
  have hn : ¬ badF c v = true := fun e => by unfold valE at h; rw [if_pos e] at h; omega
  have hs : ¬ (400 < v.str.size ∨ 60 < v.list.length) := fun e => by
    unfold valE at h
    rw [if_neg hn] at h
    split at h
    · omega
    · omega
  unfold valL
  split
  · have := grpL_len v.num; omega
  · split
    · have := grpL_len v.str.size
      have := size_data v.str
      rw [List.length_append]; omega
    · split
      · have := grpL_len v.list.length
        have := lowsL_len v.list
        rw [List.length_append]; omega
      · rw [lowL_len]; have := wid_le c; omega
/-- What Encode leaves. -/
def EncPost (w : World) (s : List UInt8) (l : List Rv) (e : Ending) (w' : World) : Prop :=
  ∃ v, e = .returned (.tuple #[v, .int .i64 (encE s l : Nat)]) ∧ BytesAt w' v (encL s l) ∧ Below w.heap.size w w'
/-- As EncPost, with what the slice may hold. -/
def EncCap (w : World) (s : List UInt8) (l : List Rv) (e : Ending) (w' : World) : Prop :=
  ∃ a d, e = .returned (.tuple #[.slice a (encL s l).length d, .int .i64 (encE s l : Nat)]) ∧ BytesAt w' (.slice a (encL s l).length d) (encL s l) ∧ (encL s l).length ≤ d ∧ Below w.heap.size w w'
theorem enc_no {w w' : World} {s : List UInt8} {l : List Rv} {e : Nat} (hE : encE s l = e) (he : e ≠ 0) (hb : Below w.heap.size w w') : EncCap w s l (.returned (.tuple #[.slice none 0 0, .int .i64 (e : Nat)])) w' := by
  have h0 : encL s l = [] := by unfold encL; rw [if_neg (by rw [hE]; exact he)]
  unfold EncCap
  rw [h0, hE]
  exact ⟨none, 0, rfl, BytesAt.none_ _ _, Nat.le_refl _, hb⟩
theorem Row.cap {w : World} {base n d : Nat} {a : Option Addr} {l : List UInt8} (h : Row w base (.slice a n d) l) : l.length ≤ d := by
  rcases h.2 with ⟨h, h0⟩ | ⟨g', cap', cur, h, _, _, hn, _⟩
  · omega
  · cases h; exact hn
theorem enc_yes {w w' : World} {s : List UInt8} {l : List Rv} {base d : Nat} {a : Option Addr} {r : List UInt8} (hE : encE s l = 0) (hV : valsL s l = r) (hr : Row w' base (.slice a r.length d) r) (hb : Below w.heap.size w w') : EncCap w s l (.returned (.tuple #[.slice a r.length d, .int .i64 0])) w' := by
  have h0 : encL s l = r := by unfold encL; rw [if_pos hE, hV]
  unfold EncCap
  rw [h0, hE]
  exact ⟨a, d, rfl, hr.at_, hr.cap, hb⟩
/-- The method at the letter c. -/
theorem write_any (W0 : World) (b : Nat) (v : Value) (c : Nat) (rv : Rv) (x : Value) (l0 : List UInt8) (w : World) (hk : kindB c = true) (hok : rv.Ok) (hx : NumsAt W0 x rv.list) (hW0 : W0.heap.size ≤ b) (hB0 : Below W0.heap.size W0 w) (hW : WrAt w b v l0) (hl : l0.length ≤ 800000) :
    Calls Tryd.prog (wfV c) #[.pointer (some ⟨b, 0, none⟩), .agg #[.int .u64 rv.num, .string rv.str, x], .int .i64 (szV c : Nat)] w (WrPost w b l0 c rv) := by
  rcases letters hk with ⟨h1, h2, _, h3⟩ | rfl | rfl | rfl
  · rw [h2, h3]; exact fixed_any b v c rv x l0 w h1 hok.num hx.shape hW (by omega)
  · exact grouped_any b v rv x _ l0 w hok.num hx.shape hW (by omega)
  · exact str_any b v rv x l0 w hx.shape hW (by omega)
  · exact list_any W0 b v rv x l0 w hx hok.list hW0 hB0 hW (by omega)

set_option maxHeartbeats 4000000 in
theorem encode_cap (s : ByteArray) (v : Value) (l : List Rv) (w : World) (hs : s.size ≤ maxLen) (hv : ValsAt w v l) (hok : ∀ x ∈ l, x.Ok) (hl : l.length ≤ maxLen) :
    Calls Tryd.prog 16 #[.string s, v] w (EncCap w s.data.toList l) := by
  have HV := Lib.hid hv
  have HOK := Lib.hid hok
  have HS := Lib.hid (size_data s)
  have HKO := Lib.hid (kindsOf_any s w hs)
  obtain ⟨a, d, rfl⟩ := hv.shape
  unfold maxLen at hl hs
  clear hv hok
  go_enter Tryd.func16, Tryd.ntmps16
  go_wp2_with fail
  refine HKO.out.mono ?_
  rintro e w2 ⟨hb2, ⟨hE, rfl⟩ | ⟨hE, g, hg, hKI, rfl⟩⟩
  · have hz : ((formE s.data.toList : Int) == 0) = false := by simp; omega
    have HE := Lib.hid (show encE s.data.toList l = formE s.data.toList by unfold encE; rw [if_pos hE])
    have HF := Lib.hid hE
    generalize formE s.data.toList = q at *
    clear hE
    go_wp2_with fail
    go_ret2
    exact enc_no HE.out HF.out hb2
  · have HE0 := Lib.hid hE
    have HK1 := Lib.hid hKI
    have HB2 := Lib.hid hb2
    rw [HS.out] at hKI
    by_cases hn : l.length = s.data.toList.length
    · have HN := Lib.hid hn
      rw [HS.out] at hn
      obtain ⟨hs64, hkind⟩ := formE_kind hE
      rw [HS.out] at hs64
      have HKD := Lib.hid hkind
      have HW0 : Hid (WrAt (w2.alloc (.cells #[.slice none 0 0] 54 (0, 0))) w2.heap.size (.slice none 0 0) []) := Lib.hid ⟨by simp, by simp, Row.nil _ _⟩
      have HB0 := Lib.hid ((Below.refl w2.heap.size w2).alloc (Nat.le_refl _) (.cells #[.slice none 0 0] 54 (0, 0)))
      have hz2 := hb2.size
      have hgl := hKI.lt
      rw [HS.out]
      rw [hn] at HV ⊢
      clear hKI hE hn hkind hb2
      go_wp2_with fail
      go_loopw [9, 10, 11, 27] (fun _ _ _ i wr => ∃ (k : Nat) (r : List UInt8) (s0 : Value), k ≤ s.size ∧ r.length ≤ 410 * k ∧ i = .int .i64 k ∧ Hid (WrAt wr w2.heap.size s0 r) ∧ Hid (Below w2.heap.size w2 wr) ∧ Hid (valsE s.data.toList l = valsE (s.data.toList.drop k) (l.drop k)) ∧ Hid (valsL s.data.toList l = r ++ valsL (s.data.toList.drop k) (l.drop k))) (fun _ _ _ i _ => s.size - (intOf i).toNat)
      case atStart => exact ⟨0, [], _, by omega, by simp, rfl, HW0, HB0, Lib.hid rfl, Lib.hid rfl⟩
      case round =>
        obtain ⟨k, r, s0, hk, hrl, rfl, hR, hBW, hE1, hL1⟩ := hrel
        by_cases hlt : k < s.size
        · have hk' : k < s.data.toList.length := by rw [HS.out]; exact hlt
          have hkl : k < l.length := by rw [HN.out]; exact hk'
          obtain ⟨cs, hbk, hcz, hrd⟩ := HK1.out
          obtain ⟨r0, r1, _⟩ := hrd k hk' hk'
          have hcg0 := (bcell hBW.out g (k * 3) hgl).trans ((hbk.cell _).trans r0)
          have hcg1 := (bcell hBW.out g (k * 3 + 1) hgl).trans ((hbk.cell _).trans r1)
          have hcg2 := (bcell hBW.out g (k * 3 + 2) hgl).trans ((hbk.cell _).trans (hrd k hk' hk').2.2)
          have hBw := HB2.out.trans (hBW.out.mono hz2)
          rcases HV.out with ⟨a', c', hva, hl0⟩ | ⟨g2, o2, c2, hva, hg2, hcs⟩
          · rw [hl0] at hkl; simp at hkl
          obtain ⟨rfl, rfl⟩ : a = some ⟨g2, o2, none⟩ ∧ d = c2 := by injection hva with h1 h2 h3; exact ⟨h1, h3⟩
          obtain ⟨e0, e1, x, e2, hx⟩ := hcs k hkl
          have hce0 := (bcell hBw g2 (o2 + k * 3) hg2).trans e0
          have hce1 := (bcell hBw g2 (o2 + k * 3 + 1) hg2).trans e1
          have hce2 := (bcell hBw g2 (o2 + k * 3 + 2) hg2).trans e2
          have HE2 := Lib.hid (show valsE s.data.toList l = if valE s.data.toList[k].toNat l[k] ≠ 0 then valE s.data.toList[k].toNat l[k] else valsE (s.data.toList.drop (k + 1)) (l.drop (k + 1)) by
            rw [hE1.out, List.drop_eq_getElem_cons hk', List.drop_eq_getElem_cons hkl]; rfl)
          have HL2 := Lib.hid (show valsL s.data.toList l = (r ++ valL s.data.toList[k].toNat l[k]) ++ valsL (s.data.toList.drop (k + 1)) (l.drop (k + 1)) by
            rw [hL1.out, List.drop_eq_getElem_cons hk', List.drop_eq_getElem_cons hkl, List.append_assoc]; rfl)
          have hkc := HKD.out k hk'
          have HVL := Lib.hid (valL_len s.data.toList[k].toNat l[k])
          have HX := Lib.hid (fun (W : World) (hb : Below wr.heap.size wr W) =>
            (write_any w w2.heap.size s0 s.data.toList[k].toNat l[k] x r W hkc (HOK.out _ (List.getElem_mem hkl)) hx hz2 (hBw.trans (hb.mono (hBw.size))) (hR.out.kept (Kept.of_below hb (fun _ => False)) (fun h => h) (fun _ _ h => h)) (by omega)).mono
              (R' := fun e w' => e = .returned (.int .i64 (valE s.data.toList[k].toNat l[k] : Nat)) ∧ Below w2.heap.size w2 w' ∧ (valE s.data.toList[k].toNat l[k] = 0 → ∃ v', WrAt w' w2.heap.size v' (r ++ valL s.data.toList[k].toNat l[k])))
              (fun e w' h => ⟨h.1, (hBW.out.trans (hb.mono hBW.out.size)).trans h.2.1, h.2.2⟩))
          obtain ⟨f, hf, hff⟩ : ∃ f, wfV s.data.toList[k].toNat = f ∧ (f = 44 ∨ f = 46 ∨ f = 48 ∨ f = 50) := by
            refine ⟨_, rfl, ?_⟩
            unfold wfV
            split
            · exact .inr (.inl rfl)
            · split
              · exact .inr (.inr (.inl rfl))
              · split
                · exact .inr (.inr (.inr rfl))
                · exact .inl rfl
          rw [hf] at hcg1 HX
          have HAL := Lib.hid ((Below.refl wr.heap.size wr).alloc (Nat.le_refl _) (.cells #[.int .i64 (szV s.data.toList[k].toNat), .func (.func f) #[] #[], .func (.func (rfV s.data.toList[k].toNat)) #[] #[]] 58 (0, 0)))
          have hwl := hBW.out.size
          have hg2l : g2 < wr.heap.size := by omega
          obtain ⟨q, hq⟩ : ∃ q, q = valE s.data.toList[k].toNat l[k] := ⟨_, rfl⟩
          rw [← hq] at HX HE2 HVL
          generalize s.data.toList[k].toNat = c at *
          generalize valL c l[k] = nl at *
          generalize l[k] = rv at *
          clear hq hf hrd hva hcs hbk hcz r0 r1 e0 e1 e2 hkc hBw hx
          by_cases hq0 : q = 0
          · subst hq0
            have hvl := HVL.out rfl
            have hcf : ∀ args w, (callFunc f args).run Tryd.prog w = .ok (.enter f args) w := by
              rcases hff with rfl | rfl | rfl | rfl <;> (intro args w; rfl)
            clear hff
            go_wp2_with fail
            go_region_with ((with_reducible refine (HX.out _ ?hs).mono ?_); (case hs => first | exact HAL.out | exact below_drew HAL.out | exact below_drewN HAL.out _); rintro e w4 ⟨rfl, hb4, hr4⟩)
            all_goals
              go_wp2
              obtain ⟨v4, hw4⟩ := hr4 (by trivial)
              clear hcf
              go_roundw
              case rel => exact ⟨k + 1, _, v4, by omega, by rw [List.length_append]; omega, by go_num, Lib.hid hw4, Lib.hid hb4, Lib.hid (by rw [HE2.out, if_neg (by decide)]), HL2⟩
              case measure => simp [intOf]; omega
          · have hqz : ((q : Int) == 0) = false := by simp; omega
            have HF : Hid (encE s.data.toList l = q) := Lib.hid (by
              unfold encE
              rw [if_neg (by rw [HE0.out]; decide), if_neg (by rw [HN.out]; exact fun h => h rfl), HE2.out, if_pos hq0, if_pos hq0])
            have HQ := Lib.hid hq0
            clear hq0
            have hcf : ∀ args w, (callFunc f args).run Tryd.prog w = .ok (.enter f args) w := by
              rcases hff with rfl | rfl | rfl | rfl <;> (intro args w; rfl)
            clear hff
            go_wp2_with fail
            go_region_with ((with_reducible refine (HX.out _ ?hs).mono ?_); (case hs => first | exact HAL.out | exact below_drew HAL.out | exact below_drewN HAL.out _); rintro e w4 ⟨rfl, hb4, hr4⟩)
            all_goals
              go_wp2
              go_ret2
              exact enc_no HF.out HQ.out (HB2.out.trans (hb4.mono hz2))
        · obtain rfl : k = s.size := by omega
          have HEV : Hid (valsE s.data.toList l = 0) := Lib.hid (by
            rw [hE1.out, List.drop_of_length_le (Nat.le_of_eq HS.out)]; rfl)
          have HLV : Hid (valsL s.data.toList l = r) := Lib.hid (by
            rw [hL1.out, List.drop_of_length_le (Nat.le_of_eq HS.out)]; simp [valsL])
          have HEC : Hid (encE s.data.toList l = if 4000 < r.length then 3 else 0) := Lib.hid (by
            unfold encE
            rw [if_neg (by rw [HE0.out]; decide), if_neg (by rw [HN.out]; exact fun h => h rfl), if_neg (by rw [HEV.out]; decide), HLV.out])
          have hcw := hR.out.cell
          obtain ⟨a0, d0, rfl⟩ := hR.out.row.shape
          have hBF := Lib.hid (HB2.out.trans (hBW.out.mono hz2))
          by_cases h4 : 4000 < r.length
          · have d4 : decide ((4000 : Int) < r.length) = true := decide_eq_true (by omega)
            have HE3 : Hid (encE s.data.toList l = 3) := Lib.hid (by rw [HEC.out, if_pos h4])
            clear h4
            go_wp2_with fail
            go_ret2
            exact enc_no (e := 3) HE3.out (by decide) hBF.out
          · have d4 : decide ((4000 : Int) < r.length) = false := decide_eq_false (by omega)
            have HE3 : Hid (encE s.data.toList l = 0) := Lib.hid (by rw [HEC.out, if_neg h4])
            clear h4
            go_wp2_with fail
            go_ret2
            exact enc_yes HE3.out HLV.out hR.out.row hBF.out
    · have HE := Lib.hid (show encE s.data.toList l = 2 by unfold encE; rw [if_neg (by rw [HE0.out]; decide), if_pos hn])
      rw [HS.out] at hn
      have hne : ((l.length : Int) == s.size) = false := by simp; omega
      rw [HS.out]
      clear hKI hE hn
      go_wp2_with fail
      go_ret2
      exact enc_no (e := 2) HE.out (by decide) hb2

theorem encode_any (s : ByteArray) (v : Value) (l : List Rv) (w : World) (hs : s.size ≤ maxLen) (hv : ValsAt w v l) (hok : ∀ x ∈ l, x.Ok) (hl : l.length ≤ maxLen) :
    Calls Tryd.prog 16 #[.string s, v] w (EncPost w s.data.toList l) :=
  (encode_cap s v l w hs hv hok hl).mono fun _ _ ⟨_, _, h1, h2, _, h4⟩ => ⟨_, h1, h2, h4⟩
theorem encL_len (s : List UInt8) (l : List Rv) : (encL s l).length ≤ 4000 := by
  unfold encL
  by_cases h : encE s l = 0
  · rw [if_pos h]
    unfold encE at h
    split at h
    · omega
    split at h
    · omega
    split at h
    · omega
    split at h
    · omega
    · omega
  · rw [if_neg h]; simp
end Go.Proofs.YtnocmkjaifjgfaaDoor.R
