/- The reference's New, Not, And, Or, Xor. -/
import Derived.Test.YtaiaibpcpcndgaaRef2
import Derived.Test.YtaiaibpcpcndgaaPairs
namespace Go.Proofs.Ytaiaibpcpcndgaa
open Go.RowKit

/-- What make gives: a list of n bits, all false. -/
theorem make_bools (w : World) (n : Nat) (hn : n ≤ 4096) : ∃ w1, (Instr.makeSlice 27 (.int .i64 (n : Int)) (.int .i64 (n : Int))).run Try.prog w = .ok (.slice (some ⟨w.heap.size, 0, none⟩) n n) w1 ∧
    w1.ownsRow w.heap.size 4 1 (.slice (some ⟨w.heap.size, 0, none⟩) n n) n (boolCells (List.replicate n false)) ∧ Below w.heap.size w w1 := by
  obtain ⟨i0, hi, hz0, hz1, hz2⟩ := info_parts Try.infoBool
  obtain ⟨w1, hmk, hown, hg⟩ := run_make_full (P := Try.prog) (w := w) w.heap.size 27 4 i0 (.bool false) 1 Try.underlying27 hi hz0 hz1 .i64 .i64 n (by rw [hz2]; omega) (by unfold maxLen; omega) (Nat.le_refl _)
  rw [show (madeCells (Value.bool false).cells (n * 1)).toList = boolCells (List.replicate n false) from by rw [boolCells_zero]; show (madeCells #[.bool false] (n * 1)).toList = _; rw [toList_madeCells_one, Nat.mul_one]] at hown
  exact ⟨w1, hmk, hown, (Below.refl _ _).grown hg (Nat.le_refl _) (fun k e => by cases e)⟩

theorem refNew_any (n : Nat) (w : World) (hn : n ≤ 4096) :
    Calls Try.prog 16 #[.int .i64 n] w fun e w' => e = .returned (.tuple #[.slice (some ⟨w.heap.size, 0, none⟩) n n, .int .i64 0]) ∧
      w'.ownsRow w.heap.size 4 1 (.slice (some ⟨w.heap.size, 0, none⟩) n n) n (boolCells (List.replicate n false)) ∧ Below w.heap.size w w' := by
  obtain ⟨w1, hmk, hown, hB⟩ := make_bools w n hn
  have HO := Lib.hid hown
  have d1 : decide ((n : Int) < 0) = false := by simp
  have d2 : decide ((4096 : Int) < n) = false := by simp; omega
  clear hown
  go_enter Try.func16, Try.ntmps16
  go_wp2_with fail
  go_ret2
  exact ⟨rfl, HO.out, hB⟩
theorem refNew_no (n : Int) (w : World) (hn : n < 0 ∨ 4096 < n) :
    Calls Try.prog 16 #[.int .i64 n] w fun e w' => e = .returned (.tuple #[.slice none 0 0, .int .i64 7]) ∧ w = w' := by
  rcases hn with hn | hn
  · have d1 : decide (n < 0) = true := by simpa using hn
    go_enter Try.func16, Try.ntmps16
    go_wp2_with fail
    go_ret2
    exact ⟨rfl, rfl⟩
  · have d1 : decide (n < 0) = false := by simp; omega
    have d2 : decide (4096 < n) = true := by simpa using hn
    go_enter Try.func16, Try.ntmps16
    go_wp2_with fail
    go_ret2
    exact ⟨rfl, rfl⟩

set_option maxHeartbeats 400000 in
theorem refNot_any (u : Value) (L : List Bool) (w : World) (h : BoolsAt w u L) (hL : L.length ≤ 4096) :
    Calls Try.prog 46 #[u] w (NewList (notL L) w) := by
  obtain ⟨s, d, rfl⟩ := h.val
  obtain ⟨w1, hmk, hown, hB⟩ := make_bools w L.length hL
  rw [← partK_zero (fun i => !L.getD i false)] at hown
  have HO := Lib.hid hown
  have HB := Lib.hid h
  clear hown h
  go_enter Try.func46, Try.ntmps46
  go_wp2_with fail
  clear hmk
  go_loopw [4] (fun j wr => ∃ q : Nat, q ≤ L.length ∧ j = .int .i64 q ∧ Hid (wr.ownsRow w.heap.size 4 1 (.slice (some ⟨w.heap.size, 0, none⟩) L.length L.length) L.length (boolCells (partK (fun i => !L.getD i false) L.length q))) ∧ Below w.heap.size w wr) (fun j _ => L.length - (intOf j).toNat)
  case atStart => exact ⟨0, by omega, rfl, HO, hB⟩
  case round =>
    obtain ⟨q, hq, rfl, hr, hbel⟩ := hrel
    by_cases hlt : q < L.length
    · obtain ⟨b, o, rfl, hb, hcb⟩ := (HB.out.below hbel).at_ q hlt
      have hcell : ∃ y, wr.cell? ⟨w.heap.size, q, none⟩ = some y := by
        rw [hr.out.cellAt q (by omega)]; exact ⟨_, List.getElem?_eq_getElem (by rw [boolCells_len, partK_len]; omega)⟩
      obtain ⟨y, hcell⟩ := hcell
      have hfz := hr.out.frozenAt q
      have HS := Lib.hid (partK_step (fun i => !L.getD i false) L.length q)
      generalize L.getD q false = x at *
      go_wp2_with fail
      go_roundw
      case rel =>
        have hst := (hr.out.stored q (.bool !x)).1
        rw [boolCells_set, HS.out] at hst
        exact ⟨q + 1, by omega, by go_num, Lib.hid hst, hbel.setCell (p := ⟨w.heap.size, q, none⟩) (Nat.le_refl _) _⟩
      case measure => simp [intOf]; omega
    · obtain rfl : q = L.length := by omega
      have HN := Lib.hid (show (notL L).length = L.length from partK_len _ _ _)
      go_wp2_with fail
      go_ret
      exact ⟨_, rfl, by rw [HN.out]; exact hr.out, hbel⟩

theorem both_len (u v : Value) (L M : List Bool) (n : Int) (w : World) (h : BoolsAt w u L) (k : BoolsAt w v M) (hl : L.length ≠ M.length) :
    Calls Try.prog 57 #[u, v, .int .i64 n] w fun e w' => e = .returned (.tuple #[.slice none 0 0, .int .i64 2]) ∧ w = w' := by
  obtain ⟨s, d, rfl⟩ := h.val
  obtain ⟨s2, d2, rfl⟩ := k.val
  have hle : ((L.length : Int) != M.length) = true := by simp; omega
  clear h k hl
  go_enter Try.func57, Try.ntmps57
  go_wp2_with fail
  go_ret2
  exact ⟨rfl, rfl⟩

set_option maxHeartbeats 1000000 in
theorem both_and (u v : Value) (L M : List Bool) (w : World) (h : BoolsAt w u L) (k : BoolsAt w v M) (hl : L.length = M.length) (hL : L.length ≤ 4096) :
    Calls Try.prog 57 #[u, v, .int .i64 0] w (ListTo (andL L M) (.slice none 0 0) 0 w) := by
  obtain ⟨s, d, rfl⟩ := h.val
  obtain ⟨s2, d2, rfl⟩ := k.val
  obtain ⟨w1, hmk, hown, hB⟩ := make_bools w L.length hL
  rw [← partK_zero (fun i => (L.getD i false) && (M.getD i false))] at hown
  have HO := Lib.hid hown
  have HB := Lib.hid h
  have HC := Lib.hid k
  have HL := Lib.hid hl
  have hle : ((L.length : Int) != M.length) = false := by simp; omega
  clear hown h k hl
  go_enter Try.func57, Try.ntmps57
  go_wp2_with fail
  clear hmk
  go_loopw [9] (fun j wr => ∃ q : Nat, q ≤ L.length ∧ j = .int .i64 q ∧ Hid (wr.ownsRow w.heap.size 4 1 (.slice (some ⟨w.heap.size, 0, none⟩) L.length L.length) L.length (boolCells (partK (fun i => (L.getD i false) && (M.getD i false)) L.length q))) ∧ Below w.heap.size w wr) (fun j _ => L.length - (intOf j).toNat)
  case atStart => exact ⟨0, by omega, rfl, HO, hB⟩
  case round =>
    obtain ⟨q, hq, rfl, hr, hbel⟩ := hrel
    by_cases hlt : q < L.length
    · have hltM : q < M.length := by have := HL.out; omega
      obtain ⟨b, o, rfl, hb, hcb⟩ := (HB.out.below hbel).at_ q hlt
      obtain ⟨b2, o2, rfl, hb2, hcb2⟩ := (HC.out.below hbel).at_ q hltM
      have hcell : ∃ y, wr.cell? ⟨w.heap.size, q, none⟩ = some y := by
        rw [hr.out.cellAt q (by omega)]; exact ⟨_, List.getElem?_eq_getElem (by rw [boolCells_len, partK_len]; omega)⟩
      obtain ⟨y, hcell⟩ := hcell
      have hfz := hr.out.frozenAt q
      have HS := Lib.hid (partK_step (fun i => (L.getD i false) && (M.getD i false)) L.length q)
      generalize L.getD q false = x1 at *
      generalize M.getD q false = x2 at *
      have HST := Lib.hid (fun (r : Bool) (hrr : r = (x1 && x2)) => (show (wr.setCell ⟨w.heap.size, q, none⟩ (.bool r)).ownsRow w.heap.size 4 1 (.slice (some ⟨w.heap.size, 0, none⟩) L.length L.length) L.length (boolCells (partK (fun i => (L.getD i false) && (M.getD i false)) L.length (q + 1))) from by
        have hst := (hr.out.stored q (.bool (x1 && x2))).1
        rw [boolCells_set, HS.out] at hst
        rw [hrr]; exact hst))
      cases x1 <;> cases x2
      all_goals
        go_wp2_with fail

        go_roundw
        case rel =>
          exact ⟨q + 1, by omega, by go_num, Lib.hid (HST.out _ rfl), hbel.setCell (p := ⟨w.heap.size, q, none⟩) (Nat.le_refl _) _⟩
        case measure => simp [intOf]; omega
    · obtain rfl : q = L.length := by omega
      have HN := Lib.hid (show (andL L M).length = L.length from partK_len _ _ _)
      have HBL := Lib.hid (boolsAt_of_row (L := andL L M) (v := .slice (some ⟨w.heap.size, 0, none⟩) L.length L.length) (by rw [HN.out]; exact hr.out))
      go_wp2_with fail
      go_ret2
      exact ⟨_, rfl, HBL.out, hbel, .inr (fun g o n c hh => by cases hh; exact Nat.le_refl _)⟩
theorem refAnd_any (u v : Value) (L M : List Bool) (w : World) (h : BoolsAt w u L) (k : BoolsAt w v M) (hl : L.length = M.length) (hL : L.length ≤ 4096) :
    Calls Try.prog 25 #[u, v] w (ListTo (andL L M) (.slice none 0 0) 0 w) := by
  have HC := Lib.hid (both_and u v L M w h k hl hL)
  clear h k hl hL
  go_enter Try.func25, Try.ntmps25
  go_wp2_with fail
  refine HC.out.mono ?_
  rintro e w' ⟨r, rfl, h1, h2, h3⟩
  go_wp2_with fail
  go_ret2
  exact ⟨r, rfl, h1, h2, h3⟩
theorem refAnd_len (u v : Value) (L M : List Bool) (w : World) (h : BoolsAt w u L) (k : BoolsAt w v M) (hl : L.length ≠ M.length) :
    Calls Try.prog 25 #[u, v] w fun e w' => e = .returned (.tuple #[.slice none 0 0, .int .i64 2]) ∧ w = w' := by
  have HC := Lib.hid (both_len u v L M 0 w h k hl)
  clear h k hl
  go_enter Try.func25, Try.ntmps25
  go_wp2_with fail
  refine HC.out.mono ?_
  rintro e w' ⟨rfl, rfl⟩
  go_wp2_with fail
  go_ret2
  exact ⟨rfl, rfl⟩

set_option maxHeartbeats 1000000 in
theorem both_or (u v : Value) (L M : List Bool) (w : World) (h : BoolsAt w u L) (k : BoolsAt w v M) (hl : L.length = M.length) (hL : L.length ≤ 4096) :
    Calls Try.prog 57 #[u, v, .int .i64 1] w (ListTo (orL L M) (.slice none 0 0) 0 w) := by
  obtain ⟨s, d, rfl⟩ := h.val
  obtain ⟨s2, d2, rfl⟩ := k.val
  obtain ⟨w1, hmk, hown, hB⟩ := make_bools w L.length hL
  rw [← partK_zero (fun i => (L.getD i false) || (M.getD i false))] at hown
  have HO := Lib.hid hown
  have HB := Lib.hid h
  have HC := Lib.hid k
  have HL := Lib.hid hl
  have hle : ((L.length : Int) != M.length) = false := by simp; omega
  clear hown h k hl
  go_enter Try.func57, Try.ntmps57
  go_wp2_with fail
  clear hmk
  go_loopw [9] (fun j wr => ∃ q : Nat, q ≤ L.length ∧ j = .int .i64 q ∧ Hid (wr.ownsRow w.heap.size 4 1 (.slice (some ⟨w.heap.size, 0, none⟩) L.length L.length) L.length (boolCells (partK (fun i => (L.getD i false) || (M.getD i false)) L.length q))) ∧ Below w.heap.size w wr) (fun j _ => L.length - (intOf j).toNat)
  case atStart => exact ⟨0, by omega, rfl, HO, hB⟩
  case round =>
    obtain ⟨q, hq, rfl, hr, hbel⟩ := hrel
    by_cases hlt : q < L.length
    · have hltM : q < M.length := by have := HL.out; omega
      obtain ⟨b, o, rfl, hb, hcb⟩ := (HB.out.below hbel).at_ q hlt
      obtain ⟨b2, o2, rfl, hb2, hcb2⟩ := (HC.out.below hbel).at_ q hltM
      have hcell : ∃ y, wr.cell? ⟨w.heap.size, q, none⟩ = some y := by
        rw [hr.out.cellAt q (by omega)]; exact ⟨_, List.getElem?_eq_getElem (by rw [boolCells_len, partK_len]; omega)⟩
      obtain ⟨y, hcell⟩ := hcell
      have hfz := hr.out.frozenAt q
      have HS := Lib.hid (partK_step (fun i => (L.getD i false) || (M.getD i false)) L.length q)
      generalize L.getD q false = x1 at *
      generalize M.getD q false = x2 at *
      have HST := Lib.hid (fun (r : Bool) (hrr : r = (x1 || x2)) => (show (wr.setCell ⟨w.heap.size, q, none⟩ (.bool r)).ownsRow w.heap.size 4 1 (.slice (some ⟨w.heap.size, 0, none⟩) L.length L.length) L.length (boolCells (partK (fun i => (L.getD i false) || (M.getD i false)) L.length (q + 1))) from by
        have hst := (hr.out.stored q (.bool (x1 || x2))).1
        rw [boolCells_set, HS.out] at hst
        rw [hrr]; exact hst))
      cases x1 <;> cases x2
      all_goals
        go_wp2_with fail

        go_roundw
        case rel =>
          exact ⟨q + 1, by omega, by go_num, Lib.hid (HST.out _ rfl), hbel.setCell (p := ⟨w.heap.size, q, none⟩) (Nat.le_refl _) _⟩
        case measure => simp [intOf]; omega
    · obtain rfl : q = L.length := by omega
      have HN := Lib.hid (show (orL L M).length = L.length from partK_len _ _ _)
      have HBL := Lib.hid (boolsAt_of_row (L := orL L M) (v := .slice (some ⟨w.heap.size, 0, none⟩) L.length L.length) (by rw [HN.out]; exact hr.out))
      go_wp2_with fail
      go_ret2
      exact ⟨_, rfl, HBL.out, hbel, .inr (fun g o n c hh => by cases hh; exact Nat.le_refl _)⟩
theorem refOr_any (u v : Value) (L M : List Bool) (w : World) (h : BoolsAt w u L) (k : BoolsAt w v M) (hl : L.length = M.length) (hL : L.length ≤ 4096) :
    Calls Try.prog 26 #[u, v] w (ListTo (orL L M) (.slice none 0 0) 0 w) := by
  have HC := Lib.hid (both_or u v L M w h k hl hL)
  clear h k hl hL
  go_enter Try.func26, Try.ntmps26
  go_wp2_with fail
  refine HC.out.mono ?_
  rintro e w' ⟨r, rfl, h1, h2, h3⟩
  go_wp2_with fail
  go_ret2
  exact ⟨r, rfl, h1, h2, h3⟩
theorem refOr_len (u v : Value) (L M : List Bool) (w : World) (h : BoolsAt w u L) (k : BoolsAt w v M) (hl : L.length ≠ M.length) :
    Calls Try.prog 26 #[u, v] w fun e w' => e = .returned (.tuple #[.slice none 0 0, .int .i64 2]) ∧ w = w' := by
  have HC := Lib.hid (both_len u v L M 1 w h k hl)
  clear h k hl
  go_enter Try.func26, Try.ntmps26
  go_wp2_with fail
  refine HC.out.mono ?_
  rintro e w' ⟨rfl, rfl⟩
  go_wp2_with fail
  go_ret2
  exact ⟨rfl, rfl⟩

set_option maxHeartbeats 1000000 in
theorem both_xor (u v : Value) (L M : List Bool) (w : World) (h : BoolsAt w u L) (k : BoolsAt w v M) (hl : L.length = M.length) (hL : L.length ≤ 4096) :
    Calls Try.prog 57 #[u, v, .int .i64 2] w (ListTo (xorL L M) (.slice none 0 0) 0 w) := by
  obtain ⟨s, d, rfl⟩ := h.val
  obtain ⟨s2, d2, rfl⟩ := k.val
  obtain ⟨w1, hmk, hown, hB⟩ := make_bools w L.length hL
  rw [← partK_zero (fun i => (L.getD i false) ^^ (M.getD i false))] at hown
  have HO := Lib.hid hown
  have HB := Lib.hid h
  have HC := Lib.hid k
  have HL := Lib.hid hl
  have hle : ((L.length : Int) != M.length) = false := by simp; omega
  clear hown h k hl
  go_enter Try.func57, Try.ntmps57
  go_wp2_with fail
  clear hmk
  go_loopw [9] (fun j wr => ∃ q : Nat, q ≤ L.length ∧ j = .int .i64 q ∧ Hid (wr.ownsRow w.heap.size 4 1 (.slice (some ⟨w.heap.size, 0, none⟩) L.length L.length) L.length (boolCells (partK (fun i => (L.getD i false) ^^ (M.getD i false)) L.length q))) ∧ Below w.heap.size w wr) (fun j _ => L.length - (intOf j).toNat)
  case atStart => exact ⟨0, by omega, rfl, HO, hB⟩
  case round =>
    obtain ⟨q, hq, rfl, hr, hbel⟩ := hrel
    by_cases hlt : q < L.length
    · have hltM : q < M.length := by have := HL.out; omega
      obtain ⟨b, o, rfl, hb, hcb⟩ := (HB.out.below hbel).at_ q hlt
      obtain ⟨b2, o2, rfl, hb2, hcb2⟩ := (HC.out.below hbel).at_ q hltM
      have hcell : ∃ y, wr.cell? ⟨w.heap.size, q, none⟩ = some y := by
        rw [hr.out.cellAt q (by omega)]; exact ⟨_, List.getElem?_eq_getElem (by rw [boolCells_len, partK_len]; omega)⟩
      obtain ⟨y, hcell⟩ := hcell
      have hfz := hr.out.frozenAt q
      have HS := Lib.hid (partK_step (fun i => (L.getD i false) ^^ (M.getD i false)) L.length q)
      generalize L.getD q false = x1 at *
      generalize M.getD q false = x2 at *
      have HST := Lib.hid (fun (r : Bool) (hrr : r = (x1 ^^ x2)) => (show (wr.setCell ⟨w.heap.size, q, none⟩ (.bool r)).ownsRow w.heap.size 4 1 (.slice (some ⟨w.heap.size, 0, none⟩) L.length L.length) L.length (boolCells (partK (fun i => (L.getD i false) ^^ (M.getD i false)) L.length (q + 1))) from by
        have hst := (hr.out.stored q (.bool (x1 ^^ x2))).1
        rw [boolCells_set, HS.out] at hst
        rw [hrr]; exact hst))
      cases x1 <;> cases x2
      all_goals
        go_wp2_with fail
        go_region
        go_wp2_with fail
        go_roundw
        case rel =>
          exact ⟨q + 1, by omega, by go_num, Lib.hid (HST.out _ rfl).drew, (hbel.setCell (p := ⟨w.heap.size, q, none⟩) (Nat.le_refl _) _).drew⟩
        case measure => simp [intOf]; omega
    · obtain rfl : q = L.length := by omega
      have HN := Lib.hid (show (xorL L M).length = L.length from partK_len _ _ _)
      have HBL := Lib.hid (boolsAt_of_row (L := xorL L M) (v := .slice (some ⟨w.heap.size, 0, none⟩) L.length L.length) (by rw [HN.out]; exact hr.out))
      go_wp2_with fail
      go_ret2
      exact ⟨_, rfl, HBL.out, hbel, .inr (fun g o n c hh => by cases hh; exact Nat.le_refl _)⟩
theorem refXor_any (u v : Value) (L M : List Bool) (w : World) (h : BoolsAt w u L) (k : BoolsAt w v M) (hl : L.length = M.length) (hL : L.length ≤ 4096) :
    Calls Try.prog 27 #[u, v] w (ListTo (xorL L M) (.slice none 0 0) 0 w) := by
  have HC := Lib.hid (both_xor u v L M w h k hl hL)
  clear h k hl hL
  go_enter Try.func27, Try.ntmps27
  go_wp2_with fail
  refine HC.out.mono ?_
  rintro e w' ⟨r, rfl, h1, h2, h3⟩
  go_wp2_with fail
  go_ret2
  exact ⟨r, rfl, h1, h2, h3⟩
theorem refXor_len (u v : Value) (L M : List Bool) (w : World) (h : BoolsAt w u L) (k : BoolsAt w v M) (hl : L.length ≠ M.length) :
    Calls Try.prog 27 #[u, v] w fun e w' => e = .returned (.tuple #[.slice none 0 0, .int .i64 2]) ∧ w = w' := by
  have HC := Lib.hid (both_len u v L M 2 w h k hl)
  clear h k hl
  go_enter Try.func27, Try.ntmps27
  go_wp2_with fail
  refine HC.out.mono ?_
  rintro e w' ⟨rfl, rfl⟩
  go_wp2_with fail
  go_ret2
  exact ⟨rfl, rfl⟩
end Go.Proofs.Ytaiaibpcpcndgaa
