/- The reference: Name, Check, both, less, common, Compare, Under. -/
import Derived.Test.YtbgfeonlnhlbfaaMovesV
namespace Go.Proofs.Ytbgfeonlnhlbfaa
open Go.RowKit

theorem okC_int (c : UInt8) : okC c = (!(decide ((c.toNat : Int) < 33) || decide (126 < (c.toNat : Int)) || ((c.toNat : Int) == 47))) := by
  rw [Bool.eq_iff_iff]; simp [okC]; omega

set_option maxHeartbeats 1000000 in
set_option maxRecDepth 100000 in
theorem nameR_any (s : ByteArray) (w : World) (hs : s.size ≤ maxLen) :
    Calls Try.prog 18 #[.string s] w fun e w' => e = .returned (.int .i64 (nameE s.data.toList)) ∧ w = w' := by
  unfold maxLen at hs
  by_cases h1 : s.toList = []
  · have HN := Lib.hid (nameE_dot (.inl h1))
    go_enter Try.func18, Try.ntmps18
    go_wp2
    go_ret
    exact ⟨ret_int HN.out.symm, rfl⟩
  by_cases h2 : s.toList = [46]
  · have HN := Lib.hid (nameE_dot (.inr (.inl h2)))
    go_enter Try.func18, Try.ntmps18
    go_wp2
    go_ret
    exact ⟨ret_int HN.out.symm, rfl⟩
  by_cases h3 : s.toList = [46, 46]
  · have HN := Lib.hid (nameE_dot (.inr (.inr h3)))
    go_enter Try.func18, Try.ntmps18
    go_wp2
    go_ret
    exact ⟨ret_int HN.out.symm, rfl⟩
  have H1 := Lib.hid (fun h => nameE_all h1 h2 h3 h)
  have b1 : s.toList.isEmpty = false := by simpa using h1
  have b2 : (s.toList == [46]) = false := by simpa using h2
  have b3 : (s.toList == [46, 46]) = false := by simpa using h3
  clear h1 h2 h3
  go_enter Try.func18, Try.ntmps18
  go_wp2
  clear b1 b2 b3
  go_loop [3] (fun i => ∃ k : Nat, k ≤ s.size ∧ i = .int .i64 k ∧ Hid (∀ j (hj : j < s.size), j < k → okC s[j] = true)) (fun i => s.size - (intOf i).toNat)
  case atStart => exact ⟨0, Nat.zero_le _, rfl, Lib.hid (fun j _ h => by omega)⟩
  case round =>
    obtain ⟨k, hk, rfl, hr⟩ := hrel
    by_cases hlt : k < s.size
    · cases hb : okC s[k] with
      | true =>
        have hr' : Hid (∀ j (hj : j < s.size), j < k + 1 → okC s[j] = true) := Lib.hid (fun j hj h => by
          by_cases e : j = k
          · subst e; exact hb
          · exact hr.out j hj (by omega))
        rw [okC_int] at hb
        simp only [Bool.not_eq_true', Bool.or_eq_false_iff] at hb
        obtain ⟨⟨c1, c2⟩, c3⟩ := hb
        go_wp2
        go_round
        case rel => exact ⟨k + 1, by omega, by go_num, hr'⟩
        case measure => simp [intOf]; omega
      | false =>
        have HN := Lib.hid (nameE_bad hlt hb)
        rw [okC_int] at hb
        by_cases c1 : (s[k].toNat : Int) < 33
        · have d1 : decide ((s[k].toNat : Int) < 33) = true := decide_eq_true c1
          clear hb c1
          go_wp2
          go_ret
          exact ⟨ret_int HN.out.symm, rfl⟩
        · have d1 : decide ((s[k].toNat : Int) < 33) = false := decide_eq_false c1
          by_cases c2 : 126 < (s[k].toNat : Int)
          · have d2 : decide (126 < (s[k].toNat : Int)) = true := decide_eq_true c2
            clear hb c1 c2
            go_wp2
            go_ret
            exact ⟨ret_int HN.out.symm, rfl⟩
          · have d2 : decide (126 < (s[k].toNat : Int)) = false := decide_eq_false c2
            have d3 : ((s[k].toNat : Int) == 47) = true := by
              rw [d1, d2] at hb; simpa using hb
            clear hb c1 c2
            go_wp2
            go_ret
            exact ⟨ret_int HN.out.symm, rfl⟩
    · obtain rfl : k = s.size := by omega
      have HN := Lib.hid (H1.out (fun j hj => hr.out j hj hj))
      by_cases h24 : 24 < s.size
      · go_wp2
        go_ret
        exact ⟨ret_int (by rw [HN.out, if_pos h24]), rfl⟩
      · go_wp2
        go_ret
        exact ⟨ret_int (by rw [HN.out, if_neg h24]), rfl⟩

set_option maxHeartbeats 1000000 in
set_option maxRecDepth 100000 in
theorem checkR_some (b o c : Nat) (ss : List ByteArray) (w : World) (hb : b < w.heap.size) (hm : Modest ss)
    (hc : ∀ k (h : k < ss.length), w.cell? ⟨b, o + k, none⟩ = some (.string ss[k])) :
    Calls Try.prog 20 #[.slice (some ⟨b, o, none⟩) ss.length c] w fun e w' => e = .returned (.int .i64 (checkE (bsL ss))) ∧ Below w.heap.size w w' := by
  have hml := hm.1
  by_cases h8 : 8 < ss.length
  · have HF := Lib.hid (show checkE (bsL ss) = 3 by unfold checkE; rw [if_pos (by simpa using h8)])
    go_enter Try.func20, Try.ntmps20
    go_wp2
    go_ret
    exact ⟨ret_int HF.out.symm, Below.refl _ _⟩
  · have h8' : ss.length ≤ 8 := by omega
    have HF := Lib.hid (show checkE (bsL ss) = firstE (bsL ss) by unfold checkE; rw [if_neg (by simpa using h8')])
    clear h8
    have HC := Lib.hid hc
    have HM := Lib.hid hm.2
    clear hc hm
    go_enter Try.func20, Try.ntmps20
    go_wp2
    go_loopw [3] (fun i wr => ∃ k : Nat, k ≤ ss.length ∧ i = .int .i64 k ∧ Below w.heap.size w wr ∧ Hid (∀ j (hj : j < ss.length), j < k → nameE ss[j].data.toList = 0)) (fun i _ => ss.length - (intOf i).toNat)
    case atStart => exact ⟨0, Nat.zero_le _, rfl, Below.refl _ _, Lib.hid (fun j _ h => by omega)⟩
    case round =>
      obtain ⟨k, hk, rfl, hbel, hh⟩ := hrel
      by_cases hlt : k < ss.length
      · have hc0 := (hbel.cell (p := ⟨b, o + k, none⟩) hb).trans (HC.out k hlt)
        have hcall := nameR_any ss[k] wr (by have := HM.out ss[k] (List.getElem_mem hlt); unfold maxLen; omega)
        by_cases h0 : nameE ss[k].data.toList = 0
        · have hh' : Hid (∀ j (hj : j < ss.length), j < k + 1 → nameE ss[j].data.toList = 0) := Lib.hid (fun j hj h => by
            by_cases e : j = k
            · subst e; exact h0
            · exact hh.out j hj (by omega))
          rw [h0] at hcall
          clear h0
          generalize ss[k] = s at *
          go_wp2_with (go_at_call 18; refine hcall.mono ?_; rintro e w' ⟨rfl, rfl⟩)
          go_roundw
          case rel => exact ⟨k + 1, by omega, by go_num, hbel, hh'⟩
          case measure => simp [intOf]; omega
        · have HN := Lib.hid (firstE_at ss k hlt hh.out h0)
          have h0' : (nameE ss[k].data.toList != 0) = true := by simpa using h0
          obtain ⟨z, hz⟩ : ∃ z, z = nameE ss[k].data.toList := ⟨_, rfl⟩
          rw [← hz] at hcall h0' HN h0
          clear hz
          generalize ss[k] = s at *
          go_wp2_with (go_at_call 18; refine hcall.mono ?_; rintro e w' ⟨rfl, rfl⟩)
          go_ret
          exact ⟨ret_int (by rw [HF.out, HN.out]), hbel⟩
      · have HN := Lib.hid (firstE_all ss (fun j hj => hh.out j hj (by omega)))
        go_wp2
        go_ret
        exact ⟨ret_int (by rw [HF.out, HN.out]), hbel⟩
theorem checkR_nil (a : Option Addr) (c : Nat) (w : World) :
    Calls Try.prog 20 #[.slice a 0 c] w fun e w' => e = .returned (.int .i64 0) ∧ Below w.heap.size w w' := by
  go_enter Try.func20, Try.ntmps20
  go_wp2
  refine wp_loop_rounds 1 ?_
  rw [rounds_succ]
  go_wp2
  go_ret
  exact ⟨rfl, Below.refl _ _⟩
theorem checkR_any (v : Value) (ss : List ByteArray) (w : World) (h : StrsAt w v ss) (hm : Modest ss) :
    Calls Try.prog 20 #[v] w fun e w' => e = .returned (.int .i64 (checkE (bsL ss))) ∧ Below w.heap.size w w' := by
  rcases h with ⟨a, c, rfl, rfl⟩ | ⟨b, o, c, rfl, _, hb, hc⟩
  · exact checkR_nil a c w
  · exact checkR_some b o c ss w hb hm hc

/-! ### both -/
theorem bothE_eq (ps qs : List ByteArray) : bothE ps qs = if checkE (bsL ps) = 0 then checkE (bsL qs) else checkE (bsL ps) := by
  unfold bothE; simp only [bsP, List.map_cons, List.map_nil, checksE]
  split
  · split
    · rename_i h; exact h.symm
    · rfl
  · rfl
set_option maxHeartbeats 1000000 in
theorem bothR_any (v1 v2 : Value) (ps qs : List ByteArray) (w : World) (h1 : StrsAt w v1 ps) (h2 : StrsAt w v2 qs) (m1 : Modest ps) (m2 : Modest qs) :
    Calls Try.prog 48 #[v1, v2] w fun e w' => e = .returned (.int .i64 (bothE ps qs)) ∧ Below w.heap.size w w' := by
  have HC := Lib.hid (checkR_any v1 ps w h1 m1)
  have HD := Lib.hid (fun w1 (hb : Below w.heap.size w w1) => checkR_any v2 qs w1 (h2.below hb) m2)
  have HE := Lib.hid (bothE_eq ps qs)
  obtain ⟨a1, c1, rfl⟩ := h1.shape
  obtain ⟨a2, c2, rfl⟩ := h2.shape
  clear h1 h2 m1 m2
  by_cases h0 : checkE (bsL ps) = 0
  · rw [HE.out, if_pos h0]
    rw [h0] at HC
    clear h0
    go_enter Try.func48, Try.ntmps48
    go_wp2_with fail
    refine HC.out.mono ?_
    rintro e w1 ⟨rfl, hb1⟩
    go_wp2_with fail
    refine (HD.out w1 hb1).mono ?_
    rintro e w2 ⟨rfl, hb2⟩
    have hbb := hb1.trans (hb2.mono hb1.size)
    go_wp2_with fail
    go_ret
    exact ⟨rfl, hbb⟩
  · rw [HE.out, if_neg h0]
    obtain ⟨z, hz⟩ : ∃ z, z = checkE (bsL ps) := ⟨_, rfl⟩
    rw [← hz] at HC h0 ⊢
    have hz' : (z == 0) = false := by simpa using h0
    clear hz
    go_enter Try.func48, Try.ntmps48
    go_wp2_with fail
    refine HC.out.mono ?_
    rintro e w1 ⟨rfl, hb1⟩
    go_wp2_with fail
    go_ret
    exact ⟨rfl, hb1⟩
end Go.Proofs.Ytbgfeonlnhlbfaa
