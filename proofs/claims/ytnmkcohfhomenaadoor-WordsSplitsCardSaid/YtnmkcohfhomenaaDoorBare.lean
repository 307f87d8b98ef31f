/- bareLength, cutBare: the bare field at the beginning of a string. -/
import Derived.Test.YtnmkcohfhomenaaDoorCutQ
namespace Go.Proofs.YtnmkcohfhomenaaDoor
open Go.RowKit

def bareC (c : UInt8) : Bool := plainB c.toNat && !((c.toNat : Int) == 32)
def bareN (l : List UInt8) : Nat := (l.takeWhile bareC).length
def cutB (l : List UInt8) : Option (List UInt8 × List UInt8) := if bareN l = 0 then none else some (l.take (bareN l), l.drop (bareN l))

theorem ret_i {a b : Nat} (h : a = b) : Ending.returned (.int .i64 (a : Int)) = .returned (.int .i64 (b : Int)) := by rw [h]
theorem bareN_le (l : List UInt8) : bareN l ≤ l.length := (List.takeWhile_sublist _).length_le
theorem takeWhile_at (p : UInt8 → Bool) : ∀ (l : List UInt8) (k : Nat) (h : k < l.length), (∀ j (hj : j < k), p (l[j]'(by omega)) = true) → p l[k] = false → (l.takeWhile p).length = k
  | [], k, h, _, _ => by simp at h
  | a :: r, 0, _, _, h0 => by simp at h0; simp [List.takeWhile, h0]
  | a :: r, k + 1, h, hj, h0 => by
    have ha := hj 0 (by omega)
    simp at ha
    rw [List.takeWhile_cons, if_pos ha, List.length_cons, takeWhile_at p r k (by simpa using h) (fun j h1 => by have := hj (j + 1) (by omega); simpa using this) (by simpa using h0)]
theorem takeWhile_all (p : UInt8 → Bool) (l : List UInt8) (h : ∀ j (hj : j < l.length), p l[j] = true) : (l.takeWhile p).length = l.length := by
  induction l with
  | nil => rfl
  | cons a r ih =>
    have ha := h 0 (by simp)
    simp at ha
    rw [List.takeWhile_cons, if_pos ha, List.length_cons, List.length_cons, ih (fun j hj => by have := h (j + 1) (by simp; omega); simpa using this)]

set_option maxHeartbeats 1000000 in
set_option maxRecDepth 100000 in
theorem bareLength_any (s : ByteArray) (w : World) (hs : s.size ≤ maxLen) :
    Calls Tryd.prog 76 #[.string s] w fun e w' => e = .returned (.int .i64 (bareN s.data.toList : Nat)) ∧ w = w' := by
  unfold maxLen at hs
  have hl := size_len s
  have HL := Lib.hid hl
  clear hl
  go_enter Tryd.func76, Tryd.ntmps76
  go_wp2
  go_loop [3] (fun i => ∃ k : Nat, k ≤ s.size ∧ i = .int .i64 k ∧ Hid (∀ j (hj : j < s.size), j < k → bareC s[j] = true)) (fun i => s.size - (intOf i).toNat)
  case atStart => exact ⟨0, Nat.zero_le _, rfl, Lib.hid (fun j _ h => by omega)⟩
  case round =>
    obtain ⟨k, hk, rfl, hr⟩ := hrel
    by_cases hlt : k < s.size
    · by_cases hb : bareC s[k] = true
      · have hr' : Hid (∀ j (hj : j < s.size), j < k + 1 → bareC s[j] = true) := Lib.hid (fun j hj h => by
          by_cases e : j = k
          · subst e; exact hb
          · exact hr.out j hj (by omega))
        unfold bareC at hb
        simp only [Bool.and_eq_true, Bool.not_eq_true'] at hb
        obtain ⟨b1, b2⟩ := hb
        have b3 : ((s[k].toNat : Int) != 32) = true := by rw [bne, b2]; rfl
        go_wp2_with (go_at_call 70; refine (isPlain_any _ _).mono ?_; rintro e w' ⟨rfl, rfl⟩)
        go_round
        case rel => exact ⟨k + 1, by omega, by go_num, hr'⟩
        case measure => simp [intOf]; omega
      · have hN : Hid (bareN s.data.toList = k) := Lib.hid (takeWhile_at bareC _ k (by rw [HL.out]; exact hlt) (fun j hj => hr.out j (by omega) hj) (by have := hb; rw [Bool.not_eq_true] at this; exact this))
        have hb' : bareC s[k] = false := by simpa using hb
        unfold bareC at hb'
        clear hb
        by_cases b2 : ((s[k].toNat : Int) == 32) = true
        · have b3 : ((s[k].toNat : Int) != 32) = false := by rw [bne, b2]; rfl
          clear hb' b2
          go_wp2_with (go_at_call 70; refine (isPlain_any _ _).mono ?_; rintro e w' ⟨rfl, rfl⟩)
          go_ret
          exact ⟨ret_i hN.out.symm, rfl⟩
        · have b3 : ((s[k].toNat : Int) != 32) = true := by rw [bne]; simpa using b2
          have b4 : ((s[k].toNat : Int) == 32) = false := by simpa using b2
          rw [b4] at hb'; simp only [Bool.not_false, Bool.and_true] at hb'
          clear b2 b4
          go_wp2_with (go_at_call 70; refine (isPlain_any _ _).mono ?_; rintro e w' ⟨rfl, rfl⟩)
          go_ret
          exact ⟨ret_i hN.out.symm, rfl⟩
    · obtain rfl : k = s.size := by omega
      have hN : Hid (bareN s.data.toList = s.size) := Lib.hid (by
        rw [← HL.out]; exact takeWhile_all bareC _ (fun j hj => hr.out j (by rw [← HL.out]; exact hj) (by rw [← HL.out]; exact hj)))
      go_wp2
      go_ret
      exact ⟨ret_i hN.out.symm, rfl⟩

theorem clone_any (s : ByteArray) (w : World) (hlim : s.size ≤ 281474976710656) :
    Calls Tryd.prog 81 #[.string s] w fun e w' => e = .returned (.string s) ∧ Below w.heap.size w w' := by
  go_enter Tryd.func81, Tryd.ntmps81
  go_wp2_with (go_at_call 106; refine (Tryd.stringslite_Clone _ _ hlim).mono ?_; rintro e w' ⟨rfl, hB⟩)
  go_ret
  exact ⟨rfl, hB⟩

set_option maxHeartbeats 2000000 in
set_option maxRecDepth 100000 in
theorem cutBare_any (s : ByteArray) (w : World) (hs : s.size ≤ 70368744177664) :
    Calls Tryd.prog 74 #[.string s] w fun e w' => e = .returned (cutV (cutB s.data.toList)) ∧ Below w.heap.size w w' := by
  have hm : s.size ≤ maxLen := by unfold maxLen; omega
  have hle := bareN_le s.data.toList
  rw [size_len] at hle
  by_cases h0 : bareN s.data.toList = 0
  · have e0 : ((bareN s.data.toList : Int) == 0) = true := by simp; omega
    have HF : Hid (cutB s.data.toList = none) := Lib.hid (by unfold cutB; rw [if_pos h0])
    clear h0
    go_enter Tryd.func74, Tryd.ntmps74
    go_wp2_with (go_at_call 76; refine (bareLength_any _ _ hm).mono ?_; rintro e w' ⟨rfl, rfl⟩)
    go_ret3
    exact ⟨congrArg Ending.returned (by rw [HF.out]; rfl), Below.refl _ _⟩
  · have HF : Hid (cutB s.data.toList = some (s.data.toList.take (bareN s.data.toList), s.data.toList.drop (bareN s.data.toList))) := Lib.hid (by unfold cutB; rw [if_neg h0])
    obtain ⟨n, hn⟩ : ∃ n, n = bareN s.data.toList := ⟨_, rfl⟩
    have hb := bareLength_any s w hm
    rw [← hn] at h0 hle HF hb
    clear hn
    have e0 : ((n : Int) == 0) = false := by simp; omega
    have hx : (s.extract 0 n).size ≤ 281474976710656 := by rw [← size_len, Lib.extract_data, List.length_take]; omega
    have hX : Hid ((s.extract 0 n).data.toList = s.data.toList.take n) := Lib.hid (by rw [Lib.extract_data]; rfl)
    have hY : Hid ((s.extract n s.size).data.toList = s.data.toList.drop n) := Lib.hid (ext_drop s n)
    go_enter Tryd.func74, Tryd.ntmps74
    go_wp2_with fail
    refine hb.mono ?_
    rintro e w' ⟨rfl, rfl⟩
    go_wp2
    go_region_law (go_simp; go_at_call 81; refine (clone_any _ _ hx).mono ?_; rintro e w3 ⟨rfl, hbel3⟩)
    all_goals go_wp2
    all_goals go_ret3
    all_goals exact ⟨congrArg Ending.returned (by rw [HF.out, of_list _ _ hX.out, of_list _ _ hY.out]; rfl), ((Below.refl _ _).drew).trans hbel3⟩
end Go.Proofs.YtnmkcohfhomenaaDoor
