/- isDecimal, Int, Digits. -/
import Derived.Test.YtnmkcohfhomenaaDoorSplit
namespace Go.Proofs.YtnmkcohfhomenaaDoor
open Go.RowKit

theorem split_any (line : ByteArray) (w : World) (hE : Env w) (hm : line.size ≤ maxLen) :
    Calls Tryd.prog 23 #[.string line] w fun e w' => ∃ v, e = .returned (.tuple #[v, .int .i64 (splitN line.data.toList)]) ∧
      w'.ownsRow w.heap.size 50 2 v (splitF line.data.toList).length (fldCells (splitF line.data.toList)) ∧ Below w.heap.size w w' := by
  unfold maxLen at hm
  by_cases h : line.size ≤ 8192
  · exact callsIn_wide.1 (split_in 5 (Nat.le_refl _) line w hE h)
  · have h' : 8192 < line.size := by omega
    have hN : splitN line.data.toList = 3 := by unfold splitN; rw [if_pos (by rw [size_len]; exact h')]
    have hF : splitF line.data.toList = [] := by unfold splitF; rw [hN]; rfl
    have HN := Lib.hid hN; have HF := Lib.hid hF
    clear h hN hF
    go_enter Tryd.func23, Tryd.ntmps23
    go_wp2
    have k0 : ((w.alloc (.cells #[.slice none 0 0] 32)).alloc (.cells #[.int .i64 0] 23)).heap.size = w.heap.size + 2 := by simp
    refine bodyPost_ret (v := .tuple #[.slice none 0 0, .int .i64 3]) (by simp [results, Tryd.results23, go_sem]) rfl ?_
    refine ⟨_, by rw [HN.out], by rw [HF.out]; exact World.ownsRow_nil _ _ _ _, ?_⟩
    exact ((Below.refl _ w).alloc (Nat.le_refl _) _).alloc (by simp) _

def decD (l : List UInt8) : Bool := !l.isEmpty && !((l.headD 0).toNat == 48 && !(l == [48])) && l.all fun c => digB c.toNat

theorem all_take (p : UInt8 → Bool) (l : List UInt8) (k : Nat) (h : l.all p = true) : (l.take k).all p = true := by
  rw [List.all_eq_true] at *; intro x hx; exact h x (List.mem_of_mem_take hx)
theorem decD_no (s : ByteArray) (k : Nat) (h : k < s.size) (hb : digB s[k].toNat = false) : decD s.data.toList = false := by
  unfold decD
  have : (s.data.toList.all fun c => digB c.toNat) = false := by
    rw [List.all_eq_false]
    exact ⟨s[k], by have e : s[k] = s.data.toList[k]'(by rw [size_len]; exact h) := rfl
                    rw [e]; exact List.getElem_mem _, by simp [hb]⟩
  rw [this, Bool.and_false]

set_option maxHeartbeats 1000000 in
theorem isDecimal_any (s : ByteArray) (w : World) (hs : s.size ≤ maxLen) :
    Calls Tryd.prog 35 #[.string s] w fun e w' => e = .returned (.bool (decD s.data.toList)) ∧ w = w' := by
  unfold maxLen at hs
  by_cases h0 : 0 < s.size
  · have hne := isEmpty_false s h0
    have hh := Lib.hid (head_at s h0)
    have hne2 : Hid (s.data.toList.isEmpty = false) := Lib.hid (by rw [← Lib.toList_data]; exact hne)
    by_cases h48 : (s[0].toNat == 48 && !(s.data.toList == [48])) = true
    · have HF : Hid (decD s.data.toList = false) := Lib.hid (by unfold decD; rw [hh.out, h48]; simp)
      rw [Bool.and_eq_true] at h48
      obtain ⟨ha, hb⟩ := h48
      have e1 : ((s[0].toNat : Int) == 48) = true := by simp at ha ⊢; omega
      have e2 : (s.toList == [48]) = false := by rw [Lib.toList_data]; simpa using hb
      clear ha hb
      go_enter Tryd.func35, Tryd.ntmps35
      go_wp2
      go_ret
      exact ⟨ret_bool HF.out.symm, rfl⟩
    · have h48' : (s[0].toNat == 48 && !(s.data.toList == [48])) = false := by simpa using h48
      have HD : Hid (∀ r : Bool, (s.data.toList.all fun c => digB c.toNat) = r → decD s.data.toList = r) := Lib.hid (by
        intro r hr; unfold decD; rw [hh.out, h48', hne2.out, hr]; simp)
      have hcase : (((s[0].toNat : Int) == 48) = true ∧ (s.toList == [48]) = true) ∨ ((s[0].toNat : Int) == 48) = false := by
        rw [Lib.toList_data]
        by_cases ha : s[0].toNat = 48
        · left; refine ⟨by simp; omega, by rw [ha] at h48'; simpa using h48'⟩
        · right; simp; omega
      clear h48 h48'
      rcases hcase with ⟨e1, e2⟩ | e1
      all_goals
        go_enter Tryd.func35, Tryd.ntmps35
        go_wp2
        go_loop [17] (fun i => ∃ k : Nat, k ≤ s.size ∧ i = .int .i64 k ∧ Hid (∀ j (hj : j < s.size), j < k → digB s[j].toNat = true)) (fun i => s.size - (intOf i).toNat)
        case atStart => exact ⟨0, Nat.zero_le _, rfl, Lib.hid (fun j _ h => by omega)⟩
        case round =>
          obtain ⟨k, hk, rfl, hr⟩ := hrel
          by_cases hlt : k < s.size
          · cases hb : digB s[k].toNat with
            | true =>
              have hr' : Hid (∀ j (hj : j < s.size), j < k + 1 → digB s[j].toNat = true) := Lib.hid (fun j hj h => by
                by_cases e : j = k
                · subst e; exact hb
                · exact hr.out j hj (by omega))
              go_wp2_with (go_at_call 40; refine (isDigit_any _ _).mono ?_; rintro e w' ⟨rfl, rfl⟩)
              go_round
              case rel => exact ⟨k + 1, by omega, by go_num, hr'⟩
              case measure => simp [intOf]; omega
            | false =>
              have HF := Lib.hid (decD_no s k hlt hb)
              go_wp2_with (go_at_call 40; refine (isDigit_any _ _).mono ?_; rintro e w' ⟨rfl, rfl⟩)
              go_ret
              exact ⟨ret_bool HF.out.symm, rfl⟩
          · have HF : Hid (decD s.data.toList = true) := Lib.hid (HD.out true (by
              rw [List.all_eq_true]; intro c hc
              obtain ⟨j, hj, rfl⟩ := List.mem_iff_getElem.1 hc
              have hj' : j < s.size := by rw [← size_len]; exact hj
              exact hr.out j hj' (by omega)))
            go_wp2
            go_ret
            exact ⟨ret_bool HF.out.symm, rfl⟩
  · have he := empty_of s h0
    subst he
    go_enter Tryd.func35, Tryd.ntmps35
    go_wp2
    go_ret
    exact ⟨ret_bool (by decide), rfl⟩
/-- What Int gives back. -/
def intV (l : List UInt8) (low high : Int) : Value :=
  if decD (Lib.trimPrefix l [45]) = false ∨ l = [45, 48] then .tuple #[.int .i64 0, .int .i64 6] else
  match Lib.parseIntB 64 l with
  | .ok v => if v < low ∨ high < v then .tuple #[.int .i64 0, .int .i64 7] else .tuple #[.int .i64 v, .int .i64 0]
  | _ => .tuple #[.int .i64 0, .int .i64 7]

theorem parseM_end (M : Nat) : ∀ (l : List UInt8) (acc : Nat), (l.all fun c => digB c.toNat) = true → (∃ u, Lib.parseUintM M acc l = .ok u) ∨ Lib.parseUintM M acc l = .range
  | [], acc, _ => .inl ⟨acc, rfl⟩
  | c :: r, acc, h => by
    rw [List.all_cons, Bool.and_eq_true] at h
    have hc : 48 ≤ c.toNat ∧ c.toNat ≤ 57 := by have := h.1; unfold digB at this; simp at this; omega
    rw [Lib.parseUintM, if_pos hc]
    split
    · exact .inr rfl
    · split
      · exact .inr rfl
      · exact parseM_end M r _ h.2
theorem parse_end {l : List UInt8} (h : decD (Lib.trimPrefix l [45]) = true) : (∃ v, Lib.parseIntB 64 l = .ok v) ∨ Lib.parseIntB 64 l = .range := by
  cases l with
  | nil => exact absurd h (by decide)
  | cons c r =>
    have key : ∀ x : List UInt8, decD x = true → (∃ u, Lib.parseUintB 64 x = .ok u) ∨ Lib.parseUintB 64 x = .range := fun x hx => by
      unfold decD at hx; rw [Bool.and_eq_true, Bool.and_eq_true] at hx
      unfold Lib.parseUintB
      rw [if_neg (fun e => by rw [e] at hx; simp at hx)]
      exact parseM_end _ x 0 hx.2
    have hx : decD (if c.toNat = 43 ∨ c.toNat = 45 then r else c :: r) = true := by
      by_cases h45 : c = 45
      · subst h45; rw [if_pos (.inr rfl)]; exact h
      · have e : Lib.trimPrefix (c :: r) [45] = c :: r := by
          unfold Lib.trimPrefix
          rw [if_neg]
          rw [show Lib.hasPrefix (c :: r) [45] = ((45 : UInt8) == c && true) from rfl, Bool.and_true, beq_eq_false_iff_ne.2 (Ne.symm h45)]; decide
        rw [e] at h
        rw [if_neg]
        · exact h
        · unfold decD at h; rw [Bool.and_eq_true] at h
          have h2 := h.2; rw [List.all_cons, Bool.and_eq_true] at h2
          have h3 := h2.1; unfold digB at h3; simp at h3; omega
    unfold Lib.parseIntB
    rcases key _ hx with ⟨u, hu⟩ | hu
    · simp only [hu]
      split
      · exact .inr rfl
      · split
        · exact .inr rfl
        · exact .inl ⟨_, rfl⟩
    · simp only [hu]; exact .inr trivial
theorem bytesWorld_below (w : World) (e : TypeId) (s : ByteArray) : Below w.heap.size w (Lib.bytesWorld w e s) :=
  ⟨rfl, rfl, rfl, by rw [Lib.bytesWorld_size]; omega, fun k hk => Lib.bytesWorld_at_old w _ _ k hk⟩

set_option maxHeartbeats 1000000 in
theorem int_any (s : ByteArray) (low high : Int) (w : World) (hE : Env w) (hs : s.size ≤ 281474976710656) :
    Calls Tryd.prog 13 #[.string s, .int .i64 low, .int .i64 high] w fun e w' => e = .returned (intV s.data.toList low high) ∧ Below w.heap.size w w' := by
  obtain ⟨ts, pts, hsyn⟩ := hE.syn
  obtain ⟨tr, ptr, hrng⟩ := hE.rng
  have hsz : (⟨(Lib.trimPrefix s.data.toList [45]).toArray⟩ : ByteArray).size ≤ maxLen := by
    rw [← size_len]
    have hl := size_len s
    show (Lib.trimPrefix s.data.toList [45]).length ≤ maxLen
    unfold Lib.trimPrefix maxLen
    split
    · rw [List.length_drop]; omega
    · omega
  have hT := isDecimal_any ⟨(Lib.trimPrefix s.data.toList [45]).toArray⟩ w hsz
  have hT' : Calls Tryd.prog 35 #[.string ⟨(Lib.trimPrefix s.data.toList [45]).toArray⟩] w fun e w' => e = .returned (.bool (decD (Lib.trimPrefix s.data.toList [45]))) ∧ w = w' := hT
  cases hd : decD (Lib.trimPrefix s.data.toList [45]) with
  | false =>
    rw [hd] at hT'
    have HF : Hid (intV s.data.toList low high = .tuple #[.int .i64 0, .int .i64 6]) := Lib.hid (by unfold intV; rw [if_pos (.inl hd)])
    have HT := Lib.hid hT'
    clear hd hT hT'
    go_enter Tryd.func13, Tryd.ntmps13
    go_wp2_with fail
    refine (Tryd.strings_TrimPrefix _ _ _).mono ?_
    rintro e w' ⟨rfl, rfl⟩
    go_wp2_with fail
    refine HT.out.mono ?_
    rintro e w2 ⟨rfl, rfl⟩
    go_wp2
    go_ret2
    exact ⟨congrArg Ending.returned HF.out.symm, Below.refl _ _⟩
  | true =>
    rw [hd] at hT'
    have HT := Lib.hid hT'
    clear hT hT'
    by_cases h0 : s.data.toList = [45, 48]
    · have HF : Hid (intV s.data.toList low high = .tuple #[.int .i64 0, .int .i64 6]) := Lib.hid (by unfold intV; rw [if_pos (.inr h0)])
      have e0 : (s.toList == [45, 48]) = true := by rw [Lib.toList_data]; simpa using h0
      clear hd h0
      go_enter Tryd.func13, Tryd.ntmps13
      go_wp2_with fail
      refine (Tryd.strings_TrimPrefix _ _ _).mono ?_
      rintro e w' ⟨rfl, rfl⟩
      go_wp2_with fail
      refine HT.out.mono ?_
      rintro e w2 ⟨rfl, rfl⟩
      go_wp2
      go_ret2
      exact ⟨congrArg Ending.returned HF.out.symm, Below.refl _ _⟩
    · have e0 : (s.toList == [45, 48]) = false := by rw [Lib.toList_data]; simpa using h0
      have hI : intV s.data.toList low high = match Lib.parseIntB 64 s.data.toList with
        | .ok v => if v < low ∨ high < v then .tuple #[.int .i64 0, .int .i64 7] else .tuple #[.int .i64 v, .int .i64 0]
        | _ => .tuple #[.int .i64 0, .int .i64 7] := by
        unfold intV; rw [if_neg (by rw [hd]; simp [h0])]
      have HPE := Lib.hid (parse_end hd)
      clear hd h0
      cases hp : Lib.parseIntB 64 s.data.toList with
      | ok v =>
        rw [hp] at hI
        have HI := Lib.hid hI
        have HP := Lib.hid hp
        clear hI hp
        by_cases hr : v < low ∨ high < v
        · have HF : Hid (intV s.data.toList low high = .tuple #[.int .i64 0, .int .i64 7]) := Lib.hid (by rw [HI.out]; exact if_pos hr)
          go_enter Tryd.func13, Tryd.ntmps13
          go_wp2_with fail
          refine (Tryd.strings_TrimPrefix _ _ _).mono ?_
          rintro e w' ⟨rfl, rfl⟩
          go_wp2_with fail
          refine HT.out.mono ?_
          rintro e w2 ⟨rfl, rfl⟩
          go_wp2_with fail
          refine (Tryd.strconv_ParseInt_10_at64_ok _ (by omega) v HP.out _).mono ?_
          rintro e w2 ⟨rfl, hw⟩
          have hB : Below w'.heap.size w' w2 := by
            rcases hw with rfl | ⟨t, rfl⟩
            · exact Below.refl _ _
            · exact bytesWorld_below _ _ _
          clear hw
          go_wp2
          all_goals go_ret2
          all_goals exact ⟨congrArg Ending.returned HF.out.symm, hB⟩
        · have HF : Hid (intV s.data.toList low high = .tuple #[.int .i64 v, .int .i64 0]) := Lib.hid (by rw [HI.out]; exact if_neg hr)
          have r1 : low ≤ v := by omega
          have r2 : v ≤ high := by omega
          clear hr
          go_enter Tryd.func13, Tryd.ntmps13
          go_wp2_with fail
          refine (Tryd.strings_TrimPrefix _ _ _).mono ?_
          rintro e w' ⟨rfl, rfl⟩
          go_wp2_with fail
          refine HT.out.mono ?_
          rintro e w2 ⟨rfl, rfl⟩
          go_wp2_with fail
          refine (Tryd.strconv_ParseInt_10_at64_ok _ (by omega) v HP.out _).mono ?_
          rintro e w2 ⟨rfl, hw⟩
          have hB : Below w'.heap.size w' w2 := by
            rcases hw with rfl | ⟨t, rfl⟩
            · exact Below.refl _ _
            · exact bytesWorld_below _ _ _
          clear hw
          go_wp2
          all_goals go_ret2
          all_goals exact ⟨congrArg Ending.returned HF.out.symm, hB⟩
      | range =>
        rw [hp] at hI
        have HF : Hid (intV s.data.toList low high = .tuple #[.int .i64 0, .int .i64 7]) := Lib.hid hI
        have HP := Lib.hid hp
        clear hI hp
        go_enter Tryd.func13, Tryd.ntmps13
        go_wp2_with fail
        refine (Tryd.strings_TrimPrefix _ _ _).mono ?_
        rintro e w' ⟨rfl, rfl⟩
        go_wp2_with fail
        refine HT.out.mono ?_
        rintro e w2 ⟨rfl, rfl⟩
        go_wp2_with fail
        refine (Tryd.strconv_ParseInt_10_at64_range_var _ hs HP.out _ _ _ hrng).mono ?_
        rintro e w2 ⟨N, rfl, _, _, hB⟩
        go_wp2
        all_goals go_ret2
        all_goals exact ⟨congrArg Ending.returned HF.out.symm, hB⟩
      | _ =>
        exfalso
        rcases HPE.out with ⟨v, h⟩ | h
        · rw [hp] at h; cases h
        · rw [hp] at h; cases h

theorem grow_below (w : World) (k : Nat) (os : Array Obj) : Below w.heap.size w (Go.Sort.grow (w.drewN k) os) := by
  refine (below_drewN (Below.refl _ w) k).trans ⟨rfl, rfl, rfl, by show _ ≤ (_ ++ os).size; simp, fun i hi => ?_⟩
  show ((w.drewN k).heap ++ os)[i]? = _
  rw [Array.getElem?_append_left (by simpa using hi)]
theorem digits_any (n : Int) (w : World) (h0 : -9223372036854775808 ≤ n) (h1 : n ≤ 9223372036854775807) (htab : Lib.TabIs Tryd.prog w "internal/strconv.uint64pow10" .u64 Lib.pow10Tab) :
    Calls Tryd.prog 17 #[.int .i64 n] w fun e w' => e = .returned (.string ⟨(Lib.itoa n).toArray⟩) ∧ Below w.heap.size w w' := by
  have hF := Lib.hid (Tryd.strconv_FormatInt_10 n h0 h1 w htab)
  clear h0 h1 htab
  go_enter Tryd.func17, Tryd.ntmps17
  go_wp2_with fail
  refine hF.out.mono ?_
  rintro e w' ⟨rfl, k, os, hw⟩
  have hB : Below w.heap.size w w' := by rw [hw]; exact grow_below w k os
  clear hw
  go_wp2
  go_ret
  exact ⟨rfl, hB⟩
end Go.Proofs.YtnmkcohfhomenaaDoor
