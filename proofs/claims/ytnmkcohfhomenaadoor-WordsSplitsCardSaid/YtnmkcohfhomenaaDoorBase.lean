/- The small functions on one byte: letters, digits, plain bytes. -/
import Derived.Test.YtnmkcohfhomenaaDoorProg
import Derived.WalkKit
import Derived.WalkLawsBesides
import Derived.WalkSpells
import Derived.Outline
import Derived.Below
import Derived.Deep.QuietTactic
import Derived.BigQuiet
import Derived.Lib.Hide
import Derived.Lib.Strings
import Derived.ShutString
namespace Go.Proofs.YtnmkcohfhomenaaDoor
open Go.RowKit

def letB (c : Int) : Bool := decide (97 ≤ c ∧ c ≤ 122)
def digB (c : Int) : Bool := decide (48 ≤ c ∧ c ≤ 57)
def plainB (c : Int) : Bool := decide (32 ≤ c ∧ c ≤ 126 ∧ c ≠ 34 ∧ c ≠ 92)

theorem ret_bool {a b : Bool} (h : a = b) : Ending.returned (.bool a) = .returned (.bool b) := by rw [h]

theorem isLetter_any (c : Int) (w : World) :
    Calls Tryd.prog 39 #[.int .u8 c] w fun e w' => e = .returned (.bool (letB c)) ∧ w = w' := by
  go_enter Tryd.func39, Tryd.ntmps39
  go_wp2
  all_goals go_ret
  all_goals exact ⟨ret_bool (by rw [Bool.eq_iff_iff]; simp [letB]; omega), rfl⟩

theorem isDigit_any (c : Int) (w : World) :
    Calls Tryd.prog 40 #[.int .u8 c] w fun e w' => e = .returned (.bool (digB c)) ∧ w = w' := by
  go_enter Tryd.func40, Tryd.ntmps40
  go_wp2
  all_goals go_ret
  all_goals exact ⟨ret_bool (by rw [Bool.eq_iff_iff]; simp [digB]; omega), rfl⟩

theorem isPlain_any (c : Int) (w : World) :
    Calls Tryd.prog 70 #[.int .u8 c] w fun e w' => e = .returned (.bool (plainB c)) ∧ w = w' := by
  go_enter Tryd.func70, Tryd.ntmps70
  go_wp2
  all_goals go_ret
  all_goals exact ⟨ret_bool (by rw [Bool.eq_iff_iff]; simp [plainB]; first | done | omega), rfl⟩

theorem lower_any (c : Int) (w : World) :
    Calls Tryd.prog 41 #[.int .u8 c] w fun e w' => e = .returned (.bool (letB c)) ∧ w = w' := by
  go_enter Tryd.func41, Tryd.ntmps41
  go_wp2
  all_goals go_ret
  all_goals exact ⟨ret_bool (by rw [Bool.eq_iff_iff]; simp [letB]; omega), rfl⟩

theorem digit_any (c : Int) (w : World) :
    Calls Tryd.prog 42 #[.int .u8 c] w fun e w' => e = .returned (.bool (digB c)) ∧ w = w' := by
  go_enter Tryd.func42, Tryd.ntmps42
  go_wp2
  all_goals go_ret
  all_goals exact ⟨ret_bool (by rw [Bool.eq_iff_iff]; simp [digB]; omega), rfl⟩

theorem plain_any (c : Int) (w : World) :
    Calls Tryd.prog 71 #[.int .u8 c] w fun e w' => e = .returned (.bool (plainB c)) ∧ w = w' := by
  go_enter Tryd.func71, Tryd.ntmps71
  go_wp2
  all_goals go_ret
  all_goals exact ⟨ret_bool (by rw [Bool.eq_iff_iff]; simp [plainB]; first | done | omega), rfl⟩

/-! ### Name: a loop over a string -/
def nameRest (l : List UInt8) : Bool := l.all fun c => letB c.toNat || digB c.toNat || (c.toNat : Int) == 45
def nameS (l : List UInt8) : Bool := decide (l.length ≤ 16) && letB (l.headD 0).toNat && nameRest l

theorem take_snoc (s : ByteArray) (k : Nat) (h : k < s.size) : s.data.toList.take (k + 1) = s.data.toList.take k ++ [s[k]] := by
  rw [List.take_succ_eq_append_getElem (by simpa using h)]; rfl
theorem size_len (s : ByteArray) : s.data.toList.length = s.size := (Lib.size_eq s).symm
theorem take_all (s : ByteArray) (k : Nat) (h : s.size ≤ k) : s.data.toList.take k = s.data.toList := List.take_of_length_le (by rw [size_len]; exact h)
theorem headD_at (l : List UInt8) (h : 0 < l.length) : l.headD 0 = l[0] := by
  cases l with
  | nil => simp at h
  | cons a r => rfl
theorem head_at (s : ByteArray) (h : 0 < s.size) : s.data.toList.headD 0 = s[0] :=
  headD_at _ (by rw [size_len]; exact h)
theorem isEmpty_false (s : ByteArray) (h : 0 < s.size) : s.toList.isEmpty = false := by
  rw [Lib.toList_data, List.isEmpty_eq_false_iff]; intro e
  have := size_len s; rw [e] at this; simp at this; omega
theorem size_zero (s : ByteArray) (h : ¬ 0 < s.size) : s.data.toList = [] := by
  apply List.eq_nil_of_length_eq_zero; rw [size_len]; omega
theorem empty_of (s : ByteArray) (h : ¬ 0 < s.size) : s = ⟨#[]⟩ := by
  have := size_zero s h
  cases s with | mk d => cases d with | mk l => simp at this; rw [this]
theorem nameRest_snoc (l : List UInt8) (c : UInt8) : nameRest (l ++ [c]) = (nameRest l && (letB c.toNat || digB c.toNat || (c.toNat : Int) == 45)) := by
  simp [nameRest, List.all_append]
theorem nameRest_take (l : List UInt8) (k : Nat) (h : nameRest l = true) : nameRest (l.take k) = true := by
  unfold nameRest at *; rw [List.all_eq_true] at *; intro x hx; exact h x (List.mem_of_mem_take hx)
/-- one byte on: the beginning of a name goes on. -/
theorem nameRest_step (s : ByteArray) (k : Nat) (h : k < s.size) (hr : nameRest (s.data.toList.take k) = true) (hb : (letB s[k].toNat || digB s[k].toNat || (s[k].toNat : Int) == 45) = true) : nameRest (s.data.toList.take (k + 1)) = true := by
  rw [take_snoc s k h, nameRest_snoc, hr, hb]; rfl
theorem nameS_no (s : ByteArray) (k : Nat) (h : k < s.size) (hb : (letB s[k].toNat || digB s[k].toNat || (s[k].toNat : Int) == 45) = false) : nameS s.data.toList = false := by
  cases e : nameRest s.data.toList with
  | false => simp [nameS, e]
  | true =>
    have := nameRest_take _ (k + 1) e
    rw [take_snoc s k h, nameRest_snoc, hb] at this; simp at this
theorem nameS_yes (s : ByteArray) (h0 : 0 < s.size) (h16 : s.size ≤ 16) (hl : letB s[0].toNat = true) (hr : nameRest (s.data.toList.take s.size) = true) : nameS s.data.toList = true := by
  rw [take_all s _ (Nat.le_refl _)] at hr
  rw [nameS, hr, head_at s h0, size_len, hl]; simp [h16]
theorem nameS_first (s : ByteArray) (h0 : 0 < s.size) (hl : letB s[0].toNat = false) : nameS s.data.toList = false := by
  rw [nameS, head_at s h0, hl]; simp
theorem nameS_long (s : ByteArray) (h : 16 < s.size) : nameS s.data.toList = false := by
  rw [nameS, size_len]; simp; intro a; omega
theorem nameS_empty (s : ByteArray) (h : ¬ 0 < s.size) : nameS s.data.toList = false := by
  rw [size_zero s h]; decide +kernel

theorem name_any (s : ByteArray) (w : World) (hs : s.size ≤ maxLen) :
    Calls Tryd.prog 15 #[.string s] w fun e w' => e = .returned (.bool (nameS s.data.toList)) ∧ w = w' := by
  unfold maxLen at hs
  by_cases h0 : 0 < s.size
  · have hne := isEmpty_false s h0
    by_cases h16 : s.size ≤ 16
    · by_cases hlet : letB s[0].toNat = true
      · go_enter Tryd.func15, Tryd.ntmps15
        go_wp2_with (go_at_call 39; refine (isLetter_any _ _).mono ?_; rintro e w' ⟨rfl, rfl⟩)
        go_loop [19] (fun i => ∃ k : Nat, k ≤ s.size ∧ i = .int .i64 k ∧ Hid (nameRest (s.data.toList.take k) = true)) (fun i => s.size - (intOf i).toNat)
        case atStart => exact ⟨0, Nat.zero_le _, rfl, Lib.hid rfl⟩
        case round =>
          obtain ⟨k, hk, rfl, hr⟩ := hrel
          by_cases hlt : k < s.size
          · by_cases c1 : (letB s[k].toNat || digB s[k].toNat || (s[k].toNat : Int) == 45) = true
            · have hr' := Lib.hid (nameRest_step s k hlt hr.out c1)
              cases c2 : letB s[k].toNat <;> cases c3 : digB s[k].toNat <;> cases c4 : ((s[k].toNat : Int) == 45)
              all_goals first
                | (rw [c2, c3, c4] at c1; simp at c1; done)
                | skip
              all_goals have c5 : ((s[k].toNat : Int) != 45) = !((s[k].toNat : Int) == 45) := rfl
              all_goals rw [c4] at c5
              all_goals clear c1
              all_goals go_wp2_with (first | (go_at_call 39; refine (isLetter_any _ _).mono ?_; rintro e w' ⟨rfl, rfl⟩) | (go_at_call 40; refine (isDigit_any _ _).mono ?_; rintro e w' ⟨rfl, rfl⟩))
              all_goals
                go_round
                case rel => exact ⟨k + 1, by omega, by go_num, hr'⟩
                case measure => simp [intOf]; omega
            · have hn := Lib.hid (nameS_no s k hlt (by simpa using c1))
              simp only [Bool.not_eq_true, Bool.or_eq_false_iff] at c1
              obtain ⟨⟨c2, c3⟩, c4⟩ := c1
              have c5 : ((s[k].toNat : Int) != 45) = true := by rw [bne, c4]; rfl
              go_wp2_with (first | (go_at_call 39; refine (isLetter_any _ _).mono ?_; rintro e w' ⟨rfl, rfl⟩) | (go_at_call 40; refine (isDigit_any _ _).mono ?_; rintro e w' ⟨rfl, rfl⟩))
              go_ret
              exact ⟨ret_bool hn.out.symm, rfl⟩
          · go_wp2
            go_ret
            obtain rfl : k = s.size := by omega
            exact ⟨ret_bool (nameS_yes s h0 h16 hlet hr.out).symm, rfl⟩
      · have hlet' : letB s[0].toNat = false := by simpa using hlet
        have hn := Lib.hid (nameS_first s h0 hlet')
        clear hlet
        go_enter Tryd.func15, Tryd.ntmps15
        go_wp2_with (go_at_call 39; refine (isLetter_any _ _).mono ?_; rintro e w' ⟨rfl, rfl⟩)
        go_ret
        exact ⟨ret_bool hn.out.symm, rfl⟩
    · have hn := Lib.hid (nameS_long s (by omega))
      go_enter Tryd.func15, Tryd.ntmps15
      go_wp2_with fail
      go_ret
      exact ⟨ret_bool hn.out.symm, rfl⟩
  · have hn := Lib.hid (nameS_empty s h0)
    have he := empty_of s h0
    subst he
    go_enter Tryd.func15, Tryd.ntmps15
    go_wp2_with fail
    go_ret
    exact ⟨ret_bool hn.out.symm, rfl⟩
theorem nameR_any (s : ByteArray) (w : World) (hs : s.size ≤ maxLen) :
    Calls Tryd.prog 16 #[.string s] w fun e w' => e = .returned (.bool (nameS s.data.toList)) ∧ w = w' := by
  unfold maxLen at hs
  by_cases h0 : 0 < s.size
  · have hne := isEmpty_false s h0
    by_cases h16 : s.size ≤ 16
    · by_cases hlet : letB s[0].toNat = true
      · go_enter Tryd.func16, Tryd.ntmps16
        go_wp2_with (go_at_call 41; refine (lower_any _ _).mono ?_; rintro e w' ⟨rfl, rfl⟩)
        go_loop [3] (fun i => ∃ k : Nat, k ≤ s.size ∧ i = .int .i64 k ∧ Hid (nameRest (s.data.toList.take k) = true)) (fun i => s.size - (intOf i).toNat)
        case atStart => exact ⟨0, Nat.zero_le _, rfl, Lib.hid rfl⟩
        case round =>
          obtain ⟨k, hk, rfl, hr⟩ := hrel
          by_cases hlt : k < s.size
          · by_cases c1 : (letB s[k].toNat || digB s[k].toNat || (s[k].toNat : Int) == 45) = true
            · have hr' := Lib.hid (nameRest_step s k hlt hr.out c1)
              cases c2 : letB s[k].toNat <;> cases c3 : digB s[k].toNat <;> cases c4 : ((s[k].toNat : Int) == 45)
              all_goals first
                | (rw [c2, c3, c4] at c1; simp at c1; done)
                | skip
              all_goals have c5 : ((s[k].toNat : Int) != 45) = !((s[k].toNat : Int) == 45) := rfl
              all_goals rw [c4] at c5
              all_goals clear c1
              all_goals go_wp2_with (first | (go_at_call 41; refine (lower_any _ _).mono ?_; rintro e w' ⟨rfl, rfl⟩) | (go_at_call 42; refine (digit_any _ _).mono ?_; rintro e w' ⟨rfl, rfl⟩))
              all_goals
                go_round
                case rel => exact ⟨k + 1, by omega, by go_num, hr'⟩
                case measure => simp [intOf]; omega
            · have hn := Lib.hid (nameS_no s k hlt (by simpa using c1))
              simp only [Bool.not_eq_true, Bool.or_eq_false_iff] at c1
              obtain ⟨⟨c2, c3⟩, c4⟩ := c1
              have c5 : ((s[k].toNat : Int) != 45) = true := by rw [bne, c4]; rfl
              go_wp2_with (first | (go_at_call 41; refine (lower_any _ _).mono ?_; rintro e w' ⟨rfl, rfl⟩) | (go_at_call 42; refine (digit_any _ _).mono ?_; rintro e w' ⟨rfl, rfl⟩))
              go_ret
              exact ⟨ret_bool hn.out.symm, rfl⟩
          · go_wp2
            go_ret
            obtain rfl : k = s.size := by omega
            exact ⟨ret_bool (nameS_yes s h0 h16 hlet hr.out).symm, rfl⟩
      · have hlet' : letB s[0].toNat = false := by simpa using hlet
        have hn := Lib.hid (nameS_first s h0 hlet')
        clear hlet
        go_enter Tryd.func16, Tryd.ntmps16
        go_wp2_with (go_at_call 41; refine (lower_any _ _).mono ?_; rintro e w' ⟨rfl, rfl⟩)
        go_ret
        exact ⟨ret_bool hn.out.symm, rfl⟩
    · have hn := Lib.hid (nameS_long s (by omega))
      go_enter Tryd.func16, Tryd.ntmps16
      go_wp2_with fail
      go_ret
      exact ⟨ret_bool hn.out.symm, rfl⟩
  · have hn := Lib.hid (nameS_empty s h0)
    have he := empty_of s h0
    subst he
    go_enter Tryd.func16, Tryd.ntmps16
    go_wp2_with fail
    go_ret
    exact ⟨ret_bool hn.out.symm, rfl⟩

/-! ### The decimal form of an integer that is not negative -/
def decS (l : List UInt8) : Bool := (l == [48] || (decide (0 < l.length) && !((l.headD 0).toNat : Int) == 48)) && l.all fun c => digB c.toNat
end Go.Proofs.YtnmkcohfhomenaaDoor
