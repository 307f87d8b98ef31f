/- appendByte: what stands for a byte inside quotes, appended. -/
import Derived.Test.YtnmkcohfhomenaaDoorEnv
import Derived.Deep.DeepFit
import Derived.Deep.RegionLaw
import Derived.StillTailTactics
import Derived.Deep.AppendLies
import Derived.BigRegion
namespace Go.Proofs.YtnmkcohfhomenaaDoor
open Go.RowKit

theorem ret_ex {P : Value → Prop} {v : Value} (h : P v) : ∃ v', Ending.returned v = Ending.returned v' ∧ P v' := ⟨v, rfl, h⟩

set_option maxHeartbeats 1000000 in
set_option maxRecDepth 100000 in
theorem appendByte_plain (base : Nat) (v : Value) (n : Nat) (xs : List Value) (c : Int) (w : World) (hc : plainB c = true) (hown : w.ownsRow base 5 1 v n xs) (hb : base ≤ w.heap.size)
    (hlen : n + 1 ≤ 140737488355328) :
    Calls Tryd.prog 46 #[v, .int .u8 c] w fun e w' => ∃ v', e = .returned v' ∧ w'.ownsRow base 5 1 v' (n + 1) (xs ++ [.int .u8 c]) ∧ Below base w w' := by
  obtain ⟨i0, hi, hz0, hz1, hz2⟩ := info_parts Tryd.infoByte
  have hm : n + 1 ≤ maxLen := by unfold maxLen; omega
  go_enter Tryd.func46, Tryd.ntmps46
  go_wp2_with (first
    | (go_at_call 70; refine (isPlain_any _ _).mono ?_; rintro e w' ⟨rfl, rfl⟩)
    | (at_builtin; refine wpList_append_own _ rfl _ _ 38 rfl base 5 i0 (.int .u8 0) 1 1 Tryd.underlying38 hi hz0 hz1 hz2 rfl (by decide) _ _ _ rfl (hown.alloc _) ⟨w.heap.size, 0, none⟩ 1 1 [.int .u8 c] rfl rfl (cell_one_new _ _ _) (by simp [Value.oneCell']) hm (by omega) (by simp; omega) ?_; intro v' w1 hown1 hgrow1 _))
  go_ret
  exact ret_ex ⟨hown1, ((Below.refl base w).alloc hb _).grown hgrow1 (by simp; omega) (fun k e => (hown.lt k e).1)⟩
/-- Where the loop over the table of escapes stands: none of the bytes before is c. -/
def EscAt (i : Value) (c : Int) : Prop :=
  i = .int .i64 0 ∨ (i = .int .i64 1 ∧ c ≠ 34) ∨ (i = .int .i64 2 ∧ c ≠ 34 ∧ c ≠ 92) ∨ (i = .int .i64 3 ∧ c ≠ 34 ∧ c ≠ 92 ∧ c ≠ 10) ∨ (i = .int .i64 4 ∧ c ≠ 34 ∧ c ≠ 92 ∧ c ≠ 10 ∧ c ≠ 13) ∨
  (i = .int .i64 5 ∧ c ≠ 34 ∧ c ≠ 92 ∧ c ≠ 10 ∧ c ≠ 13 ∧ c ≠ 9)
theorem cell_two' (w : World) (a b : Value) (t : TypeId) (B : Nat) (hB : B = w.heap.size) : ∀ j u, [a, b][j]? = some u → (w.alloc (.cells #[a, b] t)).cell? ((⟨B, 0, none⟩ : Addr).add j) = some u := by
  subst hB; exact cell_two_new w a b t
theorem esc_0 (w : World) : (Instr.index 93 (.agg escCells) (.int .i64 0)).run Tryd.prog w = .ok (.agg #[.int .u8 34, .int .u8 34]) w := by kernel_rfl
theorem esc_1 (w : World) : (Instr.index 93 (.agg escCells) (.int .i64 1)).run Tryd.prog w = .ok (.agg #[.int .u8 92, .int .u8 92]) w := by kernel_rfl
theorem esc_2 (w : World) : (Instr.index 93 (.agg escCells) (.int .i64 2)).run Tryd.prog w = .ok (.agg #[.int .u8 10, .int .u8 110]) w := by kernel_rfl
theorem esc_3 (w : World) : (Instr.index 93 (.agg escCells) (.int .i64 3)).run Tryd.prog w = .ok (.agg #[.int .u8 13, .int .u8 114]) w := by kernel_rfl
theorem esc_4 (w : World) : (Instr.index 93 (.agg escCells) (.int .i64 4)).run Tryd.prog w = .ok (.agg #[.int .u8 9, .int .u8 116]) w := by kernel_rfl

def hexI (q : Int) : Int := if q < 10 then 48 + q else 87 + q
def hexStr : ByteArray := { data := #[48, 49, 50, 51, 52, 53, 54, 55, 56, 57, 97, 98, 99, 100, 101, 102] }
theorem hex_0 (w : World) : (Instr.index 9 (.string { data := #[48, 49, 50, 51, 52, 53, 54, 55, 56, 57, 97, 98, 99, 100, 101, 102] }) (.int .u8 0)).run Tryd.prog w = .ok (.int .u8 (hexI 0)) w := by kernel_rfl
theorem hex_1 (w : World) : (Instr.index 9 (.string { data := #[48, 49, 50, 51, 52, 53, 54, 55, 56, 57, 97, 98, 99, 100, 101, 102] }) (.int .u8 1)).run Tryd.prog w = .ok (.int .u8 (hexI 1)) w := by kernel_rfl
theorem hex_2 (w : World) : (Instr.index 9 (.string { data := #[48, 49, 50, 51, 52, 53, 54, 55, 56, 57, 97, 98, 99, 100, 101, 102] }) (.int .u8 2)).run Tryd.prog w = .ok (.int .u8 (hexI 2)) w := by kernel_rfl
theorem hex_3 (w : World) : (Instr.index 9 (.string { data := #[48, 49, 50, 51, 52, 53, 54, 55, 56, 57, 97, 98, 99, 100, 101, 102] }) (.int .u8 3)).run Tryd.prog w = .ok (.int .u8 (hexI 3)) w := by kernel_rfl
theorem hex_4 (w : World) : (Instr.index 9 (.string { data := #[48, 49, 50, 51, 52, 53, 54, 55, 56, 57, 97, 98, 99, 100, 101, 102] }) (.int .u8 4)).run Tryd.prog w = .ok (.int .u8 (hexI 4)) w := by kernel_rfl
theorem hex_5 (w : World) : (Instr.index 9 (.string { data := #[48, 49, 50, 51, 52, 53, 54, 55, 56, 57, 97, 98, 99, 100, 101, 102] }) (.int .u8 5)).run Tryd.prog w = .ok (.int .u8 (hexI 5)) w := by kernel_rfl
theorem hex_6 (w : World) : (Instr.index 9 (.string { data := #[48, 49, 50, 51, 52, 53, 54, 55, 56, 57, 97, 98, 99, 100, 101, 102] }) (.int .u8 6)).run Tryd.prog w = .ok (.int .u8 (hexI 6)) w := by kernel_rfl
theorem hex_7 (w : World) : (Instr.index 9 (.string { data := #[48, 49, 50, 51, 52, 53, 54, 55, 56, 57, 97, 98, 99, 100, 101, 102] }) (.int .u8 7)).run Tryd.prog w = .ok (.int .u8 (hexI 7)) w := by kernel_rfl
theorem hex_8 (w : World) : (Instr.index 9 (.string { data := #[48, 49, 50, 51, 52, 53, 54, 55, 56, 57, 97, 98, 99, 100, 101, 102] }) (.int .u8 8)).run Tryd.prog w = .ok (.int .u8 (hexI 8)) w := by kernel_rfl
theorem hex_9 (w : World) : (Instr.index 9 (.string { data := #[48, 49, 50, 51, 52, 53, 54, 55, 56, 57, 97, 98, 99, 100, 101, 102] }) (.int .u8 9)).run Tryd.prog w = .ok (.int .u8 (hexI 9)) w := by kernel_rfl
theorem hex_10 (w : World) : (Instr.index 9 (.string { data := #[48, 49, 50, 51, 52, 53, 54, 55, 56, 57, 97, 98, 99, 100, 101, 102] }) (.int .u8 10)).run Tryd.prog w = .ok (.int .u8 (hexI 10)) w := by kernel_rfl
theorem hex_11 (w : World) : (Instr.index 9 (.string { data := #[48, 49, 50, 51, 52, 53, 54, 55, 56, 57, 97, 98, 99, 100, 101, 102] }) (.int .u8 11)).run Tryd.prog w = .ok (.int .u8 (hexI 11)) w := by kernel_rfl
theorem hex_12 (w : World) : (Instr.index 9 (.string { data := #[48, 49, 50, 51, 52, 53, 54, 55, 56, 57, 97, 98, 99, 100, 101, 102] }) (.int .u8 12)).run Tryd.prog w = .ok (.int .u8 (hexI 12)) w := by kernel_rfl
theorem hex_13 (w : World) : (Instr.index 9 (.string { data := #[48, 49, 50, 51, 52, 53, 54, 55, 56, 57, 97, 98, 99, 100, 101, 102] }) (.int .u8 13)).run Tryd.prog w = .ok (.int .u8 (hexI 13)) w := by kernel_rfl
theorem hex_14 (w : World) : (Instr.index 9 (.string { data := #[48, 49, 50, 51, 52, 53, 54, 55, 56, 57, 97, 98, 99, 100, 101, 102] }) (.int .u8 14)).run Tryd.prog w = .ok (.int .u8 (hexI 14)) w := by kernel_rfl
theorem hex_15 (w : World) : (Instr.index 9 (.string { data := #[48, 49, 50, 51, 52, 53, 54, 55, 56, 57, 97, 98, 99, 100, 101, 102] }) (.int .u8 15)).run Tryd.prog w = .ok (.int .u8 (hexI 15)) w := by kernel_rfl
theorem hex_index (q : Int) (h0 : 0 ≤ q) (h1 : q < 16) (w : World) : (Instr.index 9 (.string { data := #[48, 49, 50, 51, 52, 53, 54, 55, 56, 57, 97, 98, 99, 100, 101, 102] }) (.int .u8 q)).run Tryd.prog w = .ok (.int .u8 (hexI q)) w := by
  have : q = 0 ∨ q = 1 ∨ q = 2 ∨ q = 3 ∨ q = 4 ∨ q = 5 ∨ q = 6 ∨ q = 7 ∨ q = 8 ∨ q = 9 ∨ q = 10 ∨ q = 11 ∨ q = 12 ∨ q = 13 ∨ q = 14 ∨ q = 15 := by omega
  rcases this with rfl | rfl | rfl | rfl | rfl | rfl | rfl | rfl | rfl | rfl | rfl | rfl | rfl | rfl | rfl | rfl
  · exact hex_0 w
  · exact hex_1 w
  · exact hex_2 w
  · exact hex_3 w
  · exact hex_4 w
  · exact hex_5 w
  · exact hex_6 w
  · exact hex_7 w
  · exact hex_8 w
  · exact hex_9 w
  · exact hex_10 w
  · exact hex_11 w
  · exact hex_12 w
  · exact hex_13 w
  · exact hex_14 w
  · exact hex_15 w

theorem and15_all : (List.range 256).all (fun n => bits BinOp.and IntKind.u8 (n : Int) 15 == ((n : Int) % 16)) = true := by kernel_rfl
theorem and15 (c : Int) (h0 : 0 ≤ c) (h1 : c ≤ 255) : bits BinOp.and IntKind.u8 c 15 = c % 16 := by
  obtain ⟨n, rfl⟩ := Int.eq_ofNat_of_zero_le h0
  have h := List.all_eq_true.1 and15_all n (by rw [List.mem_range]; omega)
  exact eq_of_beq h

set_option maxHeartbeats 1000000 in
set_option maxRecDepth 100000 in
theorem appendByte_hex (base : Nat) (v : Value) (n : Nat) (xs : List Value) (c : Int) (w : World) (hE : Env w) (hc : plainB c = false) (h0 : 0 ≤ c) (h255 : c ≤ 255)
    (h1 : c ≠ 34) (h2 : c ≠ 92) (h3 : c ≠ 10) (h4 : c ≠ 13) (h5 : c ≠ 9) (hown : w.ownsRow base 5 1 v n xs) (hb : base ≤ w.heap.size) 
    (hlen : n + 4 ≤ 140737488355328) :
    Calls Tryd.prog 46 #[v, .int .u8 c] w fun e w' => ∃ v', e = .returned v' ∧ w'.ownsRow base 5 1 v' (n + 4) (xs ++ [.int .u8 92, .int .u8 120, .int .u8 (hexI (c / 16)), .int .u8 (hexI (c % 16))]) ∧ Below base w w' := by
  obtain ⟨i0, hi, hz0, hz1, hz2⟩ := info_parts Tryd.infoByte
  obtain ⟨t, fr, hblk⟩ := hE.escBlock
  have hm : n + 1 ≤ maxLen := by unfold maxLen; omega
  have e1 : ((34 : Int) == c) = false := by simp; omega
  have e2 : ((92 : Int) == c) = false := by simp; omega
  have e3 : ((10 : Int) == c) = false := by simp; omega
  have e4 : ((13 : Int) == c) = false := by simp; omega
  have e5 : ((9 : Int) == c) = false := by simp; omega
  have i0' := esc_0; have i1' := esc_1; have i2' := esc_2; have i3' := esc_3; have i4' := esc_4
  go_enter Tryd.func46, Tryd.ntmps46
  go_wp2_with (first
    | (go_at_call 70; refine (isPlain_any _ _).mono ?_; rintro e w' ⟨rfl, rfl⟩)
    | (refine wpList_load_row rfl _ _ rfl 0 rfl t escCells fr _ hblk Tryd.underlying93 rfl (by kernel_rfl) ?_))
  go_loopw [14] (fun i wr => EscAt i c ∧ Hid (wr.ownsRow base 5 1 v n xs) ∧ Below w.heap.size w wr) (fun i _ => 5 - (intOf i).toNat)
  case atStart => exact ⟨.inl rfl, Lib.hid hown, Below.refl _ _⟩
  case round =>
    obtain ⟨hat, hrow, hbel⟩ := hrel
    rcases hat with rfl | ⟨rfl, _⟩ | ⟨rfl, _⟩ | ⟨rfl, _⟩ | ⟨rfl, _⟩ | ⟨rfl, _⟩
    · go_wp2
      go_roundw
      case rel => exact ⟨.inr (.inl ⟨rfl, h1⟩), Lib.hid (hrow.out.alloc _), hbel.alloc hbel.size _⟩
      case measure => simp [intOf]
    · go_wp2
      go_roundw
      case rel => exact ⟨.inr (.inr (.inl ⟨rfl, h1, h2⟩)), Lib.hid (hrow.out.alloc _), hbel.alloc hbel.size _⟩
      case measure => simp [intOf]
    · go_wp2
      go_roundw
      case rel => exact ⟨.inr (.inr (.inr (.inl ⟨rfl, h1, h2, h3⟩))), Lib.hid (hrow.out.alloc _), hbel.alloc hbel.size _⟩
      case measure => simp [intOf]
    · go_wp2
      go_roundw
      case rel => exact ⟨.inr (.inr (.inr (.inr (.inl ⟨rfl, h1, h2, h3, h4⟩)))), Lib.hid (hrow.out.alloc _), hbel.alloc hbel.size _⟩
      case measure => simp [intOf]
    · go_wp2
      go_roundw
      case rel => exact ⟨.inr (.inr (.inr (.inr (.inr ⟨rfl, h1, h2, h3, h4, h5⟩)))), Lib.hid (hrow.out.alloc _), hbel.alloc hbel.size _⟩
      case measure => simp [intOf]
    · go_wp2
      have hx1 := hex_index (c / 16) (by omega) (by omega)
      have hx2 := hex_index (c % 16) (by omega) (by omega)
      have ha := and15 c h0 h255
      have hsz := hbel.size
      have hrow2 := Lib.hid (hrow.out.drew)
      have hm4 : n + 4 ≤ maxLen := by unfold maxLen; omega
      go_region_law (refine step_append_lies _ rfl (.tmp 27) (.tmp 34) 38 rfl base 5 i0 (.int .u8 0) 1 1 Tryd.underlying38 hi hz0 hz1 hz2 rfl (by decide) v n xs (by simp [Act.eval, Act.put]) (hrow2.out.alloc _) ⟨wr.heap.size, 0, none⟩ 4 4 [.int .u8 92, .int .u8 120, .int .u8 (hexI (c / 16)), .int .u8 (hexI (c % 16))] (by simp [Act.eval, Act.put]) rfl (cell_four _ _ _ _ _ _) (by simp [Value.oneCell']) (by omega) hm4 (by omega) (by simp; omega) _ rfl ?_; intro g cap w1 hown1 hgrow1 _ _)
      all_goals go_wp2
      all_goals go_ret
      all_goals exact ret_ex ⟨hown1, (((hbel.mono hb).alloc (by omega) _).drew.grown hgrow1 (by simp; omega) (fun k e => (hown.lt k e).1))⟩

set_option maxHeartbeats 1000000 in
set_option maxRecDepth 100000 in
theorem appendByte_quot (base : Nat) (v : Value) (n : Nat) (xs : List Value) (w : World) (hE : Env w) (hown : w.ownsRow base 5 1 v n xs) (hb : base ≤ w.heap.size) (hlen : n + 4 ≤ 140737488355328) :
    Calls Tryd.prog 46 #[v, .int .u8 34] w fun e w' => ∃ v', e = .returned v' ∧ w'.ownsRow base 5 1 v' (n + 2) (xs ++ [.int .u8 92, .int .u8 34]) ∧ Below base w w' := by
  obtain ⟨i0, hi, hz0, hz1, hz2⟩ := info_parts Tryd.infoByte
  obtain ⟨t, fr, hblk⟩ := hE.escBlock
  have hpl : plainB 34 = false := by decide
  have i0' := esc_0; have i1' := esc_1; have i2' := esc_2; have i3' := esc_3; have i4' := esc_4
  go_enter Tryd.func46, Tryd.ntmps46
  go_wp2_with (first
    | (go_at_call 70; refine (isPlain_any _ _).mono ?_; rintro e w' ⟨rfl, rfl⟩)
    | (refine wpList_load_row rfl _ _ rfl 0 rfl t escCells fr _ hblk Tryd.underlying93 rfl (by kernel_rfl) ?_))
  go_loopw [14] (fun i wr => EscAt i 34 ∧ Hid (wr.ownsRow base 5 1 v n xs) ∧ Below w.heap.size w wr) (fun i _ => 5 - (intOf i).toNat)
  case atStart => exact ⟨.inl rfl, Lib.hid hown, Below.refl _ _⟩
  case round =>
    obtain ⟨hat, hrow, hbel⟩ := hrel
    rcases hat with rfl | ⟨rfl, hne⟩ | ⟨rfl, hne⟩ | ⟨rfl, hne⟩ | ⟨rfl, hne⟩ | ⟨rfl, hne⟩
    · have hsz := hbel.size
      have hrow2 := Lib.hid ((hrow.out.alloc (.cells #[.int .u8 34, .int .u8 34] 92)).alloc (.cells #[.int .u8 92, .int .u8 34] 5))
      have hm2 : n + 2 ≤ maxLen := by unfold maxLen; omega
      go_wp2_with (at_builtin; refine wpList_append_own _ rfl _ _ 38 rfl base 5 i0 (.int .u8 0) 1 1 Tryd.underlying38 hi hz0 hz1 hz2 rfl (by decide) _ _ _ rfl hrow2.out ⟨wr.heap.size + 1, 0, none⟩ 2 2 [.int .u8 92, .int .u8 34] rfl rfl (cell_two' _ _ _ _ _ (by simp)) (by simp [Value.oneCell']) hm2 (by omega) (by simp; omega) ?_; intro v' w1 hown1 hgrow1 _)
      go_ret
      exact ret_ex ⟨hown1, ((((hbel.mono hb).alloc (by omega) _).alloc (by simp; omega) _).grown hgrow1 (by simp; omega) (fun k e => (hown.lt k e).1))⟩
    · simp at hne
    · simp at hne
    · simp at hne
    · simp at hne
    · simp at hne

set_option maxHeartbeats 1000000 in
set_option maxRecDepth 100000 in
theorem appendByte_back (base : Nat) (v : Value) (n : Nat) (xs : List Value) (w : World) (hE : Env w) (hown : w.ownsRow base 5 1 v n xs) (hb : base ≤ w.heap.size) (hlen : n + 4 ≤ 140737488355328) :
    Calls Tryd.prog 46 #[v, .int .u8 92] w fun e w' => ∃ v', e = .returned v' ∧ w'.ownsRow base 5 1 v' (n + 2) (xs ++ [.int .u8 92, .int .u8 92]) ∧ Below base w w' := by
  obtain ⟨i0, hi, hz0, hz1, hz2⟩ := info_parts Tryd.infoByte
  obtain ⟨t, fr, hblk⟩ := hE.escBlock
  have hpl : plainB 92 = false := by decide
  have i0' := esc_0; have i1' := esc_1; have i2' := esc_2; have i3' := esc_3; have i4' := esc_4
  go_enter Tryd.func46, Tryd.ntmps46
  go_wp2_with (first
    | (go_at_call 70; refine (isPlain_any _ _).mono ?_; rintro e w' ⟨rfl, rfl⟩)
    | (refine wpList_load_row rfl _ _ rfl 0 rfl t escCells fr _ hblk Tryd.underlying93 rfl (by kernel_rfl) ?_))
  go_loopw [14] (fun i wr => EscAt i 92 ∧ Hid (wr.ownsRow base 5 1 v n xs) ∧ Below w.heap.size w wr) (fun i _ => 5 - (intOf i).toNat)
  case atStart => exact ⟨.inl rfl, Lib.hid hown, Below.refl _ _⟩
  case round =>
    obtain ⟨hat, hrow, hbel⟩ := hrel
    rcases hat with rfl | ⟨rfl, hne⟩ | ⟨rfl, hne⟩ | ⟨rfl, hne⟩ | ⟨rfl, hne⟩ | ⟨rfl, hne⟩
    · go_wp2
      go_roundw
      case rel => exact ⟨.inr (.inl ⟨rfl, by decide⟩), Lib.hid (hrow.out.alloc _), hbel.alloc hbel.size _⟩
      case measure => simp [intOf]
    · have hsz := hbel.size
      have hrow2 := Lib.hid ((hrow.out.alloc (.cells #[.int .u8 92, .int .u8 92] 92)).alloc (.cells #[.int .u8 92, .int .u8 92] 5))
      have hm2 : n + 2 ≤ maxLen := by unfold maxLen; omega
      go_wp2_with (at_builtin; refine wpList_append_own _ rfl _ _ 38 rfl base 5 i0 (.int .u8 0) 1 1 Tryd.underlying38 hi hz0 hz1 hz2 rfl (by decide) _ _ _ rfl hrow2.out ⟨wr.heap.size + 1, 0, none⟩ 2 2 [.int .u8 92, .int .u8 92] rfl rfl (cell_two' _ _ _ _ _ (by simp)) (by simp [Value.oneCell']) hm2 (by omega) (by simp; omega) ?_; intro v' w1 hown1 hgrow1 _)
      go_ret
      exact ret_ex ⟨hown1, ((((hbel.mono hb).alloc (by omega) _).alloc (by simp; omega) _).grown hgrow1 (by simp; omega) (fun k e => (hown.lt k e).1))⟩
    · simp at hne
    · simp at hne
    · simp at hne
    · simp at hne

set_option maxHeartbeats 1000000 in
set_option maxRecDepth 100000 in
theorem appendByte_lf (base : Nat) (v : Value) (n : Nat) (xs : List Value) (w : World) (hE : Env w) (hown : w.ownsRow base 5 1 v n xs) (hb : base ≤ w.heap.size) (hlen : n + 4 ≤ 140737488355328) :
    Calls Tryd.prog 46 #[v, .int .u8 10] w fun e w' => ∃ v', e = .returned v' ∧ w'.ownsRow base 5 1 v' (n + 2) (xs ++ [.int .u8 92, .int .u8 110]) ∧ Below base w w' := by
  obtain ⟨i0, hi, hz0, hz1, hz2⟩ := info_parts Tryd.infoByte
  obtain ⟨t, fr, hblk⟩ := hE.escBlock
  have hpl : plainB 10 = false := by decide
  have i0' := esc_0; have i1' := esc_1; have i2' := esc_2; have i3' := esc_3; have i4' := esc_4
  go_enter Tryd.func46, Tryd.ntmps46
  go_wp2_with (first
    | (go_at_call 70; refine (isPlain_any _ _).mono ?_; rintro e w' ⟨rfl, rfl⟩)
    | (refine wpList_load_row rfl _ _ rfl 0 rfl t escCells fr _ hblk Tryd.underlying93 rfl (by kernel_rfl) ?_))
  go_loopw [14] (fun i wr => EscAt i 10 ∧ Hid (wr.ownsRow base 5 1 v n xs) ∧ Below w.heap.size w wr) (fun i _ => 5 - (intOf i).toNat)
  case atStart => exact ⟨.inl rfl, Lib.hid hown, Below.refl _ _⟩
  case round =>
    obtain ⟨hat, hrow, hbel⟩ := hrel
    rcases hat with rfl | ⟨rfl, hne⟩ | ⟨rfl, hne⟩ | ⟨rfl, hne⟩ | ⟨rfl, hne⟩ | ⟨rfl, hne⟩
    · go_wp2
      go_roundw
      case rel => exact ⟨.inr (.inl ⟨rfl, by decide⟩), Lib.hid (hrow.out.alloc _), hbel.alloc hbel.size _⟩
      case measure => simp [intOf]
    · go_wp2
      go_roundw
      case rel => exact ⟨.inr (.inr (.inl ⟨rfl, by decide, by decide⟩)), Lib.hid (hrow.out.alloc _), hbel.alloc hbel.size _⟩
      case measure => simp [intOf]
    · have hsz := hbel.size
      have hrow2 := Lib.hid ((hrow.out.alloc (.cells #[.int .u8 10, .int .u8 110] 92)).alloc (.cells #[.int .u8 92, .int .u8 110] 5))
      have hm2 : n + 2 ≤ maxLen := by unfold maxLen; omega
      go_wp2_with (at_builtin; refine wpList_append_own _ rfl _ _ 38 rfl base 5 i0 (.int .u8 0) 1 1 Tryd.underlying38 hi hz0 hz1 hz2 rfl (by decide) _ _ _ rfl hrow2.out ⟨wr.heap.size + 1, 0, none⟩ 2 2 [.int .u8 92, .int .u8 110] rfl rfl (cell_two' _ _ _ _ _ (by simp)) (by simp [Value.oneCell']) hm2 (by omega) (by simp; omega) ?_; intro v' w1 hown1 hgrow1 _)
      go_ret
      exact ret_ex ⟨hown1, ((((hbel.mono hb).alloc (by omega) _).alloc (by simp; omega) _).grown hgrow1 (by simp; omega) (fun k e => (hown.lt k e).1))⟩
    · simp at hne
    · simp at hne
    · simp at hne

set_option maxHeartbeats 1000000 in
set_option maxRecDepth 100000 in
theorem appendByte_cr (base : Nat) (v : Value) (n : Nat) (xs : List Value) (w : World) (hE : Env w) (hown : w.ownsRow base 5 1 v n xs) (hb : base ≤ w.heap.size) (hlen : n + 4 ≤ 140737488355328) :
    Calls Tryd.prog 46 #[v, .int .u8 13] w fun e w' => ∃ v', e = .returned v' ∧ w'.ownsRow base 5 1 v' (n + 2) (xs ++ [.int .u8 92, .int .u8 114]) ∧ Below base w w' := by
  obtain ⟨i0, hi, hz0, hz1, hz2⟩ := info_parts Tryd.infoByte
  obtain ⟨t, fr, hblk⟩ := hE.escBlock
  have hpl : plainB 13 = false := by decide
  have i0' := esc_0; have i1' := esc_1; have i2' := esc_2; have i3' := esc_3; have i4' := esc_4
  go_enter Tryd.func46, Tryd.ntmps46
  go_wp2_with (first
    | (go_at_call 70; refine (isPlain_any _ _).mono ?_; rintro e w' ⟨rfl, rfl⟩)
    | (refine wpList_load_row rfl _ _ rfl 0 rfl t escCells fr _ hblk Tryd.underlying93 rfl (by kernel_rfl) ?_))
  go_loopw [14] (fun i wr => EscAt i 13 ∧ Hid (wr.ownsRow base 5 1 v n xs) ∧ Below w.heap.size w wr) (fun i _ => 5 - (intOf i).toNat)
  case atStart => exact ⟨.inl rfl, Lib.hid hown, Below.refl _ _⟩
  case round =>
    obtain ⟨hat, hrow, hbel⟩ := hrel
    rcases hat with rfl | ⟨rfl, hne⟩ | ⟨rfl, hne⟩ | ⟨rfl, hne⟩ | ⟨rfl, hne⟩ | ⟨rfl, hne⟩
    · go_wp2
      go_roundw
      case rel => exact ⟨.inr (.inl ⟨rfl, by decide⟩), Lib.hid (hrow.out.alloc _), hbel.alloc hbel.size _⟩
      case measure => simp [intOf]
    · go_wp2
      go_roundw
      case rel => exact ⟨.inr (.inr (.inl ⟨rfl, by decide, by decide⟩)), Lib.hid (hrow.out.alloc _), hbel.alloc hbel.size _⟩
      case measure => simp [intOf]
    · go_wp2
      go_roundw
      case rel => exact ⟨.inr (.inr (.inr (.inl ⟨rfl, by decide, by decide, by decide⟩))), Lib.hid (hrow.out.alloc _), hbel.alloc hbel.size _⟩
      case measure => simp [intOf]
    · have hsz := hbel.size
      have hrow2 := Lib.hid ((hrow.out.alloc (.cells #[.int .u8 13, .int .u8 114] 92)).alloc (.cells #[.int .u8 92, .int .u8 114] 5))
      have hm2 : n + 2 ≤ maxLen := by unfold maxLen; omega
      go_wp2_with (at_builtin; refine wpList_append_own _ rfl _ _ 38 rfl base 5 i0 (.int .u8 0) 1 1 Tryd.underlying38 hi hz0 hz1 hz2 rfl (by decide) _ _ _ rfl hrow2.out ⟨wr.heap.size + 1, 0, none⟩ 2 2 [.int .u8 92, .int .u8 114] rfl rfl (cell_two' _ _ _ _ _ (by simp)) (by simp [Value.oneCell']) hm2 (by omega) (by simp; omega) ?_; intro v' w1 hown1 hgrow1 _)
      go_ret
      exact ret_ex ⟨hown1, ((((hbel.mono hb).alloc (by omega) _).alloc (by simp; omega) _).grown hgrow1 (by simp; omega) (fun k e => (hown.lt k e).1))⟩
    · simp at hne
    · simp at hne

set_option maxHeartbeats 1000000 in
set_option maxRecDepth 100000 in
theorem appendByte_tab (base : Nat) (v : Value) (n : Nat) (xs : List Value) (w : World) (hE : Env w) (hown : w.ownsRow base 5 1 v n xs) (hb : base ≤ w.heap.size) (hlen : n + 4 ≤ 140737488355328) :
    Calls Tryd.prog 46 #[v, .int .u8 9] w fun e w' => ∃ v', e = .returned v' ∧ w'.ownsRow base 5 1 v' (n + 2) (xs ++ [.int .u8 92, .int .u8 116]) ∧ Below base w w' := by
  obtain ⟨i0, hi, hz0, hz1, hz2⟩ := info_parts Tryd.infoByte
  obtain ⟨t, fr, hblk⟩ := hE.escBlock
  have hpl : plainB 9 = false := by decide
  have i0' := esc_0; have i1' := esc_1; have i2' := esc_2; have i3' := esc_3; have i4' := esc_4
  go_enter Tryd.func46, Tryd.ntmps46
  go_wp2_with (first
    | (go_at_call 70; refine (isPlain_any _ _).mono ?_; rintro e w' ⟨rfl, rfl⟩)
    | (refine wpList_load_row rfl _ _ rfl 0 rfl t escCells fr _ hblk Tryd.underlying93 rfl (by kernel_rfl) ?_))
  go_loopw [14] (fun i wr => EscAt i 9 ∧ Hid (wr.ownsRow base 5 1 v n xs) ∧ Below w.heap.size w wr) (fun i _ => 5 - (intOf i).toNat)
  case atStart => exact ⟨.inl rfl, Lib.hid hown, Below.refl _ _⟩
  case round =>
    obtain ⟨hat, hrow, hbel⟩ := hrel
    rcases hat with rfl | ⟨rfl, hne⟩ | ⟨rfl, hne⟩ | ⟨rfl, hne⟩ | ⟨rfl, hne⟩ | ⟨rfl, hne⟩
    · go_wp2
      go_roundw
      case rel => exact ⟨.inr (.inl ⟨rfl, by decide⟩), Lib.hid (hrow.out.alloc _), hbel.alloc hbel.size _⟩
      case measure => simp [intOf]
    · go_wp2
      go_roundw
      case rel => exact ⟨.inr (.inr (.inl ⟨rfl, by decide, by decide⟩)), Lib.hid (hrow.out.alloc _), hbel.alloc hbel.size _⟩
      case measure => simp [intOf]
    · go_wp2
      go_roundw
      case rel => exact ⟨.inr (.inr (.inr (.inl ⟨rfl, by decide, by decide, by decide⟩))), Lib.hid (hrow.out.alloc _), hbel.alloc hbel.size _⟩
      case measure => simp [intOf]
    · go_wp2
      go_roundw
      case rel => exact ⟨.inr (.inr (.inr (.inr (.inl ⟨rfl, by decide, by decide, by decide, by decide⟩)))), Lib.hid (hrow.out.alloc _), hbel.alloc hbel.size _⟩
      case measure => simp [intOf]
    · have hsz := hbel.size
      have hrow2 := Lib.hid ((hrow.out.alloc (.cells #[.int .u8 9, .int .u8 116] 92)).alloc (.cells #[.int .u8 92, .int .u8 116] 5))
      have hm2 : n + 2 ≤ maxLen := by unfold maxLen; omega
      go_wp2_with (at_builtin; refine wpList_append_own _ rfl _ _ 38 rfl base 5 i0 (.int .u8 0) 1 1 Tryd.underlying38 hi hz0 hz1 hz2 rfl (by decide) _ _ _ rfl hrow2.out ⟨wr.heap.size + 1, 0, none⟩ 2 2 [.int .u8 92, .int .u8 116] rfl rfl (cell_two' _ _ _ _ _ (by simp)) (by simp [Value.oneCell']) hm2 (by omega) (by simp; omega) ?_; intro v' w1 hown1 hgrow1 _)
      go_ret
      exact ret_ex ⟨hown1, ((((hbel.mono hb).alloc (by omega) _).alloc (by simp; omega) _).grown hgrow1 (by simp; omega) (fun k e => (hown.lt k e).1))⟩
    · simp at hne

end Go.Proofs.YtnmkcohfhomenaaDoor
