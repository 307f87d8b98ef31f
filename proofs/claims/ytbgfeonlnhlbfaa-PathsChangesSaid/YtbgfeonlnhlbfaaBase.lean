/- Name and Check, of the program and of the reference. -/
import Derived.Test.YtbgfeonlnhlbfaaProg
import Derived.Test.YtbgfeonlnhlbfaaVal
import Derived.WalkKit
import Derived.WalkLawsBesides
import Derived.WalkSpells
import Derived.Outline
import Derived.Below
import Derived.Deep.QuietTactic
import Derived.BigQuiet
import Derived.Lib.Hide
import Derived.Lib.Strings
import Derived.ShutString
namespace Go.Proofs.Ytbgfeonlnhlbfaa
open Go.RowKit

theorem ret_bool {a b : Bool} (h : a = b) : Ending.returned (.bool a) = .returned (.bool b) := by rw [h]
theorem ret_int {a b : Int} (h : a = b) : Ending.returned (.int .i64 a) = .returned (.int .i64 b) := by rw [h]
theorem size_len (s : ByteArray) : s.data.toList.length = s.size := (Lib.size_eq s).symm
theorem of_list (s : ByteArray) (l : List UInt8) (h : s.data.toList = l) : s = ⟨l.toArray⟩ := by
  subst h; cases s; simp
/-- A string is one that is written out just where its bytes are. -/
theorem str_eq (s : ByteArray) (l : List UInt8) : (s = ⟨l.toArray⟩) = (s.data.toList = l) := by
  apply propext
  constructor
  · rintro rfl; simp
  · exact of_list s l

theorem slash_at : (ByteArray.mk #[47])[0].toNat = 47 := rfl
theorem inNames_any (c : UInt8) (w : World) :
    Calls Try.prog 45 #[.int .u8 c.toNat] w fun e w' => e = .returned (.bool (okC c)) ∧ w = w' := by
  have h47 := slash_at
  go_enter Try.func45, Try.ntmps45
  go_wp2
  all_goals go_ret
  all_goals exact ⟨ret_bool (by rw [Bool.eq_iff_iff]; simp [okC]; first | done | omega), rfl⟩

theorem nameE_dot {s : ByteArray} (h : s.toList = [] ∨ s.toList = [46] ∨ s.toList = [46, 46]) : nameE s.data.toList = 6 := by
  rw [Lib.toList_data] at h
  unfold nameE; rw [if_pos h]
theorem nameE_bad {s : ByteArray} {k : Nat} (h : k < s.size) (hb : okC s[k] = false) : nameE s.data.toList = 6 := by
  unfold nameE; split
  · rfl
  · rw [if_neg]
    intro ha
    have := List.all_eq_true.1 ha s[k] (by rw [show s[k] = s.data.toList[k]'(by rw [size_len]; exact h) from rfl]; exact List.getElem_mem _)
    rw [hb] at this; cases this
theorem nameE_all {s : ByteArray} (h1 : ¬ s.toList = []) (h2 : ¬ s.toList = [46]) (h3 : ¬ s.toList = [46, 46]) (h : ∀ j (hj : j < s.size), okC s[j] = true) : nameE s.data.toList = if 24 < s.size then 3 else 0 := by
  rw [Lib.toList_data] at h1 h2 h3
  unfold nameE
  rw [if_neg (by rintro (e | e | e) <;> contradiction), if_pos, size_len]
  rw [List.all_eq_true]; intro c hc
  obtain ⟨j, hj, rfl⟩ := List.mem_iff_getElem.1 hc
  exact h j (by rw [← size_len]; exact hj)

set_option maxHeartbeats 1000000 in
set_option maxRecDepth 100000 in
theorem name_any (s : ByteArray) (w : World) (hs : s.size ≤ maxLen) :
    Calls Try.prog 17 #[.string s] w fun e w' => e = .returned (.int .i64 (nameE s.data.toList)) ∧ w = w' := by
  unfold maxLen at hs
  by_cases h1 : s.toList = []
  · have HN := Lib.hid (nameE_dot (.inl h1))
    go_enter Try.func17, Try.ntmps17
    go_wp2
    go_ret
    exact ⟨ret_int HN.out.symm, rfl⟩
  by_cases h2 : s.toList = [46]
  · have HN := Lib.hid (nameE_dot (.inr (.inl h2)))
    go_enter Try.func17, Try.ntmps17
    go_wp2
    go_ret
    exact ⟨ret_int HN.out.symm, rfl⟩
  by_cases h3 : s.toList = [46, 46]
  · have HN := Lib.hid (nameE_dot (.inr (.inr h3)))
    go_enter Try.func17, Try.ntmps17
    go_wp2
    go_ret
    exact ⟨ret_int HN.out.symm, rfl⟩
  have H1 := Lib.hid (fun h => nameE_all h1 h2 h3 h)
  have b1 : s.toList.isEmpty = false := by simpa using h1
  have b2 : (s.toList == [46]) = false := by simpa using h2
  have b3 : (s.toList == [46, 46]) = false := by simpa using h3
  clear h1 h2 h3
  go_enter Try.func17, Try.ntmps17
  go_wp2
  clear b1 b2 b3
  go_loop [16] (fun i => ∃ k : Nat, k ≤ s.size ∧ i = .int .i64 k ∧ Hid (∀ j (hj : j < s.size), j < k → okC s[j] = true)) (fun i => s.size - (intOf i).toNat)
  case atStart => exact ⟨0, Nat.zero_le _, rfl, Lib.hid (fun j _ h => by omega)⟩
  case round =>
    obtain ⟨k, hk, rfl, hr⟩ := hrel
    by_cases hlt : k < s.size
    · cases hb : okC s[k] with
      | true =>
        have hr' : Hid (∀ j (hj : j < s.size), j < k + 1 → okC s[j] = true) := Lib.hid (fun j hj h => by
          by_cases e : j = k
          · subst e; exact hb
          · exact hr.out j hj (by omega))
        go_wp2_with (go_at_call 45; refine (inNames_any _ _).mono ?_; rintro e w' ⟨rfl, rfl⟩)
        go_round
        case rel => exact ⟨k + 1, by omega, by go_num, hr'⟩
        case measure => simp [intOf]; omega
      | false =>
        have HN := Lib.hid (nameE_bad hlt hb)
        go_wp2_with (go_at_call 45; refine (inNames_any _ _).mono ?_; rintro e w' ⟨rfl, rfl⟩)
        go_ret
        exact ⟨ret_int HN.out.symm, rfl⟩
    · obtain rfl : k = s.size := by omega
      have HN := Lib.hid (H1.out (fun j hj => hr.out j hj hj))
      by_cases h24 : 24 < s.size
      · go_wp2
        go_ret
        exact ⟨ret_int (by rw [HN.out, if_pos h24]), rfl⟩
      · go_wp2
        go_ret
        exact ⟨ret_int (by rw [HN.out, if_neg h24]), rfl⟩

/-! ### Lists of strings in memory -/
abbrev bsL (ss : List ByteArray) : List Bs := ss.map fun s => s.data.toList
def StrsAt (w : World) (v : Value) (ss : List ByteArray) : Prop :=
  (∃ a c, v = .slice a 0 c ∧ ss = []) ∨
  ∃ b o c, v = .slice (some ⟨b, o, none⟩) ss.length c ∧ ss.length ≤ c ∧ b < w.heap.size ∧ ∀ k (h : k < ss.length), w.cell? ⟨b, o + k, none⟩ = some (.string ss[k])
/-- Strings that are not too long for the model. -/
def Modest (ss : List ByteArray) : Prop := ss.length ≤ 70368744177664 ∧ ∀ s ∈ ss, s.size ≤ 70368744177664
theorem StrsAt.below {w w' : World} {v : Value} {ss : List ByteArray} (h : StrsAt w v ss) (hb : Below w.heap.size w w') : StrsAt w' v ss := by
  rcases h with h | ⟨b, o, c, hv, hc, hlt, hcell⟩
  · exact .inl h
  · exact .inr ⟨b, o, c, hv, hc, Nat.lt_of_lt_of_le hlt hb.size, fun k hk => (hb.cell (p := ⟨b, o + k, none⟩) hlt).trans (hcell k hk)⟩

theorem firstE_take (ss : List ByteArray) (k : Nat) (hk : k ≤ ss.length) (h : ∀ j (hj : j < ss.length), j < k → nameE ss[j].data.toList = 0) : firstE (bsL ss) = firstE (bsL (ss.drop k)) := by
  induction k generalizing ss with
  | zero => rfl
  | succ k ih =>
    cases ss with
    | nil => simp at hk
    | cons a r =>
      have h0 := h 0 (by simp) (by omega)
      simp at h0
      show firstE (a.data.toList :: bsL r) = _
      rw [firstE, if_pos h0, List.drop_succ_cons, ← ih r (by simpa using hk) (fun j hj hlt => by have := h (j + 1) (by simp; omega) (by omega); simpa using this)]
theorem firstE_at (ss : List ByteArray) (k : Nat) (hk : k < ss.length) (h : ∀ j (hj : j < ss.length), j < k → nameE ss[j].data.toList = 0) (hb : nameE ss[k].data.toList ≠ 0) : firstE (bsL ss) = nameE ss[k].data.toList := by
  rw [firstE_take ss k (by omega) h, List.drop_eq_getElem_cons hk]
  show firstE (_ :: _) = _
  rw [firstE, if_neg hb]
theorem firstE_all (ss : List ByteArray) (h : ∀ j (hj : j < ss.length), nameE ss[j].data.toList = 0) : firstE (bsL ss) = 0 := by
  rw [firstE_take ss ss.length (Nat.le_refl _) (fun j hj _ => h j hj), List.drop_eq_nil_of_le (Nat.le_refl _)]; rfl

set_option maxHeartbeats 1000000 in
set_option maxRecDepth 100000 in
theorem check_some (b o c : Nat) (ss : List ByteArray) (w : World) (hb : b < w.heap.size) (hm : Modest ss)
    (hc : ∀ k (h : k < ss.length), w.cell? ⟨b, o + k, none⟩ = some (.string ss[k])) :
    Calls Try.prog 19 #[.slice (some ⟨b, o, none⟩) ss.length c] w fun e w' => e = .returned (.int .i64 (checkE (bsL ss))) ∧ Below w.heap.size w w' := by
  have hml := hm.1
  by_cases h8 : 8 < ss.length
  · have HF := Lib.hid (show checkE (bsL ss) = 3 by unfold checkE; rw [if_pos (by simpa using h8)])
    go_enter Try.func19, Try.ntmps19
    go_wp2
    go_ret
    exact ⟨ret_int HF.out.symm, Below.refl _ _⟩
  · have h8' : ss.length ≤ 8 := by omega
    have HF := Lib.hid (show checkE (bsL ss) = firstE (bsL ss) by unfold checkE; rw [if_neg (by simpa using h8')])
    clear h8
    have HC := Lib.hid hc
    have HM := Lib.hid hm.2
    clear hc hm
    go_enter Try.func19, Try.ntmps19
    go_wp2
    go_loopw [11] (fun i wr => ∃ k : Nat, k ≤ ss.length ∧ i = .int .i64 k ∧ Below w.heap.size w wr ∧ Hid (∀ j (hj : j < ss.length), j < k → nameE ss[j].data.toList = 0)) (fun i _ => ss.length - (intOf i).toNat)
    case atStart => exact ⟨0, Nat.zero_le _, rfl, Below.refl _ _, Lib.hid (fun j _ h => by omega)⟩
    case round =>
      obtain ⟨k, hk, rfl, hbel, hh⟩ := hrel
      by_cases hlt : k < ss.length
      · have hc0 := (hbel.cell (p := ⟨b, o + k, none⟩) hb).trans (HC.out k hlt)
        have hcall := name_any ss[k] wr (by have := HM.out ss[k] (List.getElem_mem hlt); unfold maxLen; omega)
        by_cases h0 : nameE ss[k].data.toList = 0
        · have hh' : Hid (∀ j (hj : j < ss.length), j < k + 1 → nameE ss[j].data.toList = 0) := Lib.hid (fun j hj h => by
            by_cases e : j = k
            · subst e; exact h0
            · exact hh.out j hj (by omega))
          rw [h0] at hcall
          clear h0
          generalize ss[k] = s at *
          go_wp2_with (go_at_call 17; refine hcall.mono ?_; rintro e w' ⟨rfl, rfl⟩)
          go_roundw
          case rel => exact ⟨k + 1, by omega, by go_num, hbel, hh'⟩
          case measure => simp [intOf]; omega
        · have HN := Lib.hid (firstE_at ss k hlt hh.out h0)
          have h0' : (nameE ss[k].data.toList != 0) = true := by simpa using h0
          obtain ⟨z, hz⟩ : ∃ z, z = nameE ss[k].data.toList := ⟨_, rfl⟩
          rw [← hz] at hcall h0' HN h0
          clear hz
          generalize ss[k] = s at *
          go_wp2_with (go_at_call 17; refine hcall.mono ?_; rintro e w' ⟨rfl, rfl⟩)
          go_ret
          exact ⟨ret_int (by rw [HF.out, HN.out]), hbel⟩
      · have HN := Lib.hid (firstE_all ss (fun j hj => hh.out j hj (by omega)))
        go_wp2
        go_ret
        exact ⟨ret_int (by rw [HF.out, HN.out]), hbel⟩

theorem check_nil (a : Option Addr) (c : Nat) (w : World) :
    Calls Try.prog 19 #[.slice a 0 c] w fun e w' => e = .returned (.int .i64 0) ∧ Below w.heap.size w w' := by
  go_enter Try.func19, Try.ntmps19
  go_wp2
  refine wp_loop_rounds 1 ?_
  rw [rounds_succ]
  go_wp2
  go_ret
  exact ⟨rfl, Below.refl _ _⟩

theorem check_any (v : Value) (ss : List ByteArray) (w : World) (h : StrsAt w v ss) (hm : Modest ss) :
    Calls Try.prog 19 #[v] w fun e w' => e = .returned (.int .i64 (checkE (bsL ss))) ∧ Below w.heap.size w w' := by
  rcases h with ⟨a, c, rfl, rfl⟩ | ⟨b, o, c, rfl, _, hb, hc⟩
  · exact check_nil a c w
  · exact check_some b o c ss w hb hm hc
end Go.Proofs.Ytbgfeonlnhlbfaa
