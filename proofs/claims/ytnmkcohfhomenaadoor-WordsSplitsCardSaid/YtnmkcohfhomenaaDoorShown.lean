/- shown. -/
import Derived.Test.YtnmkcohfhomenaaDoorRInt2
namespace Go.Proofs.YtnmkcohfhomenaaDoor
open Go.RowKit

def exSplit : List UInt8 := [103, 101, 116, 32, 47, 32, 34, 97, 32, 98, 34]
theorem ex_splitN : splitN exSplit = 0 := by decide +kernel
theorem ex_splitF : splitF exSplit = [⟨[103, 101, 116], false, true⟩, ⟨[47], false, true⟩, ⟨[97, 32, 98], true, true⟩] := by kernel_rfl
theorem ex_int : intV [45, 49, 50] (-20) 20 = .tuple #[.int .i64 (-12), .int .i64 0] := by
  rw [intV_minus (by decide +kernel) rfl (by decide +kernel)]; rfl
theorem ex_list : listV [1, 2, 3, 5, 8, 9] = .tuple #[.string ⟨#[49, 45, 51, 44, 53, 44, 56, 45, 57]⟩, .int .i64 0] := by
  have hN : listN [1, 2, 3, 5, 8, 9] = 0 := by decide +kernel
  have hP : listP [1, 2, 3, 5, 8, 9] = [[49, 45, 51], [53], [56, 45, 57]] := by
    simp [listP, runsA, wrS, itoa_small]
  have hS : listS [1, 2, 3, 5, 8, 9] = [49, 45, 51, 44, 53, 44, 56, 45, 57] := by
    unfold listS; rw [hN, hP]; decide +kernel
  rw [listV_of hN hS]
theorem ex_unq : unqV (cutQ [34, 97, 92, 110, 92, 120, 48, 48, 92, 34, 34]) = .tuple #[.string ⟨#[97, 10, 0, 34]⟩, .int .i64 0] := by
  have : cutQ [34, 97, 92, 110, 92, 120, 48, 48, 92, 34, 34] = some ([97, 10, 0, 34], []) := by decide +kernel
  rw [this]; rfl

theorem cells6 (W : World) (e : TypeId) : ∀ k (h : k < [1, 2, 3, 5, 8, (9 : Int)].length), (W.alloc (.cells #[.int .i64 1, .int .i64 2, .int .i64 3, .int .i64 5, .int .i64 8, .int .i64 9] e)).cell? ⟨W.heap.size, 0 + k, none⟩ = some (.int .i64 ([1, 2, 3, 5, 8, (9 : Int)][k])) := by
  intro k hk
  have := World.news_of_block (cs := #[.int .i64 1, .int .i64 2, .int .i64 3, .int .i64 5, .int .i64 8, .int .i64 9]) (heap_alloc_new W (.cells #[.int .i64 1, .int .i64 2, .int .i64 3, .int .i64 5, .int .i64 8, .int .i64 9] e)) k (.int .i64 ([1, 2, 3, 5, 8, (9 : Int)][k])) (by
    have : k = 0 ∨ k = 1 ∨ k = 2 ∨ k = 3 ∨ k = 4 ∨ k = 5 := by simp at hk; omega
    rcases this with rfl | rfl | rfl | rfl | rfl | rfl <;> rfl)
  rw [addr_add] at this
  rw [Nat.zero_add]; exact this

def exF : List (ByteArray × Bool) := [(⟨#[103, 101, 116]⟩, false), (⟨#[47]⟩, false), (⟨#[97, 32, 98]⟩, true)]
theorem c_split (w : World) (hE : EnvD w) :
    Calls Tryd.prog 23 #[.string ⟨#[103, 101, 116, 32, 47, 32, 34, 97, 32, 98, 34]⟩] w fun e w' => ∃ v, e = .returned (.tuple #[v, .int .i64 0]) ∧ FieldsAt w' v exF ∧ Below w.heap.size w w' := by
  refine (split_any ⟨exSplit.toArray⟩ w hE.env (by decide)).mono ?_
  rintro e w1 ⟨v, rfl, hrow, hB1⟩
  have hf := fieldsAt_of_row hrow
  rw [show splitF (ByteArray.mk exSplit.toArray).data.toList = splitF exSplit from rfl, ex_splitF] at hf
  exact ⟨v, congrArg (fun z => Ending.returned (.tuple #[v, .int .i64 z])) ex_splitN, hf, hB1⟩
theorem c_int (w : World) (hE : EnvD w) :
    Calls Tryd.prog 13 #[.string ⟨#[45, 49, 50]⟩, .int .i64 (-20), .int .i64 20] w fun e w' => e = .returned (.tuple #[.int .i64 (-12), .int .i64 0]) ∧ Below w.heap.size w w' := by
  have := int_any ⟨#[45, 49, 50]⟩ (-20) 20 w hE.env (by decide)
  rw [show (ByteArray.mk #[45, 49, 50]).data.toList = [45, 49, 50] from rfl, ex_int] at this; exact this
theorem c_list (W : World) (e : TypeId) (hE : EnvD (W.alloc (.cells #[.int .i64 1, .int .i64 2, .int .i64 3, .int .i64 5, .int .i64 8, .int .i64 9] e))) :
    Calls Tryd.prog 30 #[.slice (some ⟨W.heap.size, 0, none⟩) 6 6] (W.alloc (.cells #[.int .i64 1, .int .i64 2, .int .i64 3, .int .i64 5, .int .i64 8, .int .i64 9] e)) fun e' w' => e' = .returned (.tuple #[.string ⟨#[49, 45, 51, 44, 53, 44, 56, 45, 57]⟩, .int .i64 0]) ∧ Below W.heap.size W w' := by
  have hb : W.heap.size < (W.alloc (.cells #[.int .i64 1, .int .i64 2, .int .i64 3, .int .i64 5, .int .i64 8, .int .i64 9] e)).heap.size := by rw [World.size_alloc]; omega
  have := list_some W.heap.size 0 6 [1, 2, 3, 5, 8, 9] _ hE hb (by decide) (by decide) (cells6 W e)
  rw [ex_list] at this
  refine this.mono ?_
  rintro e' w' ⟨rfl, hB⟩
  exact ⟨rfl, ((Below.refl _ W).alloc (Nat.le_refl _) _).trans (hB.mono (by omega))⟩
theorem c_unq (w : World) (hE : EnvD w) :
    Calls Tryd.prog 19 #[.string ⟨#[34, 97, 92, 110, 92, 120, 48, 48, 92, 34, 34]⟩] w fun e w' => e = .returned (.tuple #[.string ⟨#[97, 10, 0, 34]⟩, .int .i64 0]) ∧ Below w.heap.size w w' := by
  have := unquote_any ⟨#[34, 97, 92, 110, 92, 120, 48, 48, 92, 34, 34]⟩ w hE.env (by decide)
  rw [show (ByteArray.mk #[34, 97, 92, 110, 92, 120, 48, 48, 92, 34, 34]).data.toList = [34, 97, 92, 110, 92, 120, 48, 48, 92, 34, 34] from rfl, ex_unq] at this; exact this
theorem c_name (w : World) :
    Calls Tryd.prog 15 #[.string ⟨#[119, 101, 98, 45, 49]⟩] w fun e w' => e = .returned (.bool true) ∧ w = w' := by
  have := name_any ⟨#[119, 101, 98, 45, 49]⟩ w (by decide)
  rw [show nameS (ByteArray.mk #[119, 101, 98, 45, 49]).data.toList = true by decide +kernel] at this; exact this

theorem fieldsAt_keep {w w' : World} {v : Value} {fs : List (ByteArray × Bool)} (h : FieldsAt w v fs) (hb : Below w.heap.size w w') : FieldsAt w' v fs := by
  rcases h with ⟨a, c, rfl, rfl⟩ | ⟨b, o, c, rfl, hlt, hc⟩
  · exact .inl ⟨a, c, rfl, rfl⟩
  · exact .inr ⟨b, o, c, rfl, Nat.lt_of_lt_of_le hlt hb.size, fun k hk => ⟨(hb.cell (p := ⟨b, o + k * 2, none⟩) hlt).trans (hc k hk).1, (hb.cell (p := ⟨b, o + k * 2 + 1, none⟩) hlt).trans (hc k hk).2⟩⟩
theorem c_same (W : World) (e : TypeId) (v : Value) (hf : FieldsAt W v exF) :
    Calls Tryd.prog 25 #[v, .slice (some ⟨W.heap.size, 0, none⟩) 3 3] (W.alloc (.cells #[.string ⟨#[103, 101, 116]⟩, .bool false, .string ⟨#[47]⟩, .bool false, .string ⟨#[97, 32, 98]⟩, .bool true] e)) fun e' w' => e' = .returned (.bool true) ∧ Below W.heap.size W w' := by
  have hB := (Below.refl W.heap.size W).alloc (Nat.le_refl _) (.cells #[.string ⟨#[103, 101, 116]⟩, .bool false, .string ⟨#[47]⟩, .bool false, .string ⟨#[97, 32, 98]⟩, .bool true] e)
  have h2 : FieldsAt (W.alloc (.cells #[.string ⟨#[103, 101, 116]⟩, .bool false, .string ⟨#[47]⟩, .bool false, .string ⟨#[97, 32, 98]⟩, .bool true] e)) (.slice (some ⟨W.heap.size, 0, none⟩) 3 3) exF := by
    refine .inr ⟨W.heap.size, 0, 3, rfl, by rw [World.size_alloc]; omega, fun k hk => ?_⟩
    have hn := World.news_of_block (cs := #[.string ⟨#[103, 101, 116]⟩, .bool false, .string ⟨#[47]⟩, .bool false, .string ⟨#[97, 32, 98]⟩, .bool true]) (heap_alloc_new W (.cells #[.string ⟨#[103, 101, 116]⟩, .bool false, .string ⟨#[47]⟩, .bool false, .string ⟨#[97, 32, 98]⟩, .bool true] e))
    have hk3 : k = 0 ∨ k = 1 ∨ k = 2 := by simp [exF] at hk; omega
    rcases hk3 with rfl | rfl | rfl
    · exact ⟨hn 0 _ rfl, hn 1 _ rfl⟩
    · exact ⟨hn 2 _ rfl, hn 3 _ rfl⟩
    · exact ⟨hn 4 _ rfl, hn 5 _ rfl⟩
  refine (same_any _ _ exF _ (fieldsAt_keep hf hB) h2 (by decide)).mono ?_
  rintro e' w' ⟨rfl, hB2⟩
  exact ⟨rfl, hB.trans (hB2.mono hB.size)⟩

set_option maxHeartbeats 1000000 in
set_option maxRecDepth 100000 in
theorem shown_any (w : World) (hE : EnvD w) :
    Calls Tryd.prog 12 #[] w fun e w' => e = .returned (.bool true) ∧ Below w.heap.size w w' := by
  have h9 := hE.env.nine
  have H1 := Lib.hid (c_split w hE)
  go_enter Tryd.func12, Tryd.ntmps12
  go_wp2_with fail
  refine H1.out.mono ?_
  rintro e w1 ⟨v, rfl, hf, hB1⟩
  have hE1 := hE.below hB1 h9
  have H2 := Lib.hid (c_int w1 hE1)
  have HF := Lib.hid hf
  clear hf H1
  go_wp2_with fail
  refine H2.out.mono ?_
  rintro e w2 ⟨rfl, hB2⟩
  have hE2 := hE1.below hB2 hE1.env.nine
  clear H2
  go_wp2_with fail
  refine (c_list w2 _ (hE2.below ((Below.refl _ _).alloc (Nat.le_refl _) _) hE2.env.nine)).mono ?_
  rintro e w3 ⟨rfl, hB3⟩
  have hE3 := hE2.below hB3 hE2.env.nine
  have H4 := Lib.hid (c_unq w3 hE3)
  go_wp2_with fail
  refine H4.out.mono ?_
  rintro e w4 ⟨rfl, hB4⟩
  have hB14 : Below w1.heap.size w1 w4 := hB2.trans ((hB3.mono hB2.size).trans (hB4.mono (Nat.le_trans hB2.size hB3.size)))
  have H5 := Lib.hid (c_same w4 50 v (fieldsAt_keep HF.out hB14))
  clear H4
  go_wp2_with fail
  refine H5.out.mono ?_
  rintro e w5 ⟨rfl, hB5⟩
  have H6 := Lib.hid (c_name w5)
  clear H5
  go_wp2_with fail
  refine H6.out.mono ?_
  rintro e w6 ⟨rfl, rfl⟩
  clear H6
  go_wp2_with fail
  go_ret
  exact ⟨rfl, hB1.trans ((hB14.mono hB1.size).trans (hB5.mono (Nat.le_trans hB1.size hB14.size)))⟩
end Go.Proofs.YtnmkcohfhomenaaDoor
