/- The law RecordsKnown: the walk. (The seat with cards.) -/
import Derived.Test.YtnocmkjaifjgfaaDoorRPad3
import Derived.Test.YtnocmkjaifjgfaaDoorRShown
namespace Go.Proofs.YtnocmkjaifjgfaaDoor.R
open Go.RowKit

theorem knE (s : ByteArray) (n : Nat) (t : ByteArray) (er : Nat) (hs : s.size ≤ 64) (hn : n < 18446744073709551616) (hE : encE s.data.toList [⟨n, t, []⟩] = er) (W : World) :
    Calls Tryd.prog 16 #[.string s, .slice (some ⟨W.heap.size, 0, none⟩) 1 1] (W.alloc (.cells #[.int .u64 (n : Nat), .string t, .slice none 0 0] 38 (0, 0))) fun e w' => ∃ u, e = .returned (.tuple #[u, .int .i64 er]) ∧ Below W.heap.size W w' := by
  have hA := (Below.refl W.heap.size W).alloc (Nat.le_refl _) (.cells #[.int .u64 (n : Nat), .string t, .slice none 0 0] 38 (0, 0))
  refine (encode_any s _ [⟨n, t, []⟩] _ (by unfold maxLen; omega) (vals_one W n t _ [] _ _ (.inl ⟨_, _, rfl, rfl⟩)) (fun x hx => by simp at hx; subst hx; exact ok_lit hn rfl) (by unfold maxLen; simp)).mono ?_
  rintro e w' ⟨u, rfl, -, hB⟩
  exact ⟨u, by rw [hE], hA.trans (hB.mono hA.size)⟩
theorem knN (s : ByteArray) (er : Nat) (hs : s.size ≤ 64) (hE : encE s.data.toList [] = er) (W : World) :
    Calls Tryd.prog 16 #[.string s, .slice none 0 0] W fun e w' => ∃ u, e = .returned (.tuple #[u, .int .i64 er]) ∧ Below W.heap.size W w' := by
  refine (encode_any s _ [] _ (by unfold maxLen; omega) (.inl ⟨_, _, rfl, rfl⟩) (by simp) (by unfold maxLen; simp)).mono ?_
  rintro e w' ⟨u, rfl, -, hB⟩
  exact ⟨u, by rw [hE], hB⟩
theorem knD (s : ByteArray) (l : List UInt8) (er : Nat) (cs : Array Value) (n : Nat) (hs : s.size ≤ 64) (hcs : cs = (Lib.byteCells l).toArray) (hn : l.length = n) (hl : n ≤ 100) (hE : (decR s.data.toList l).2.2 = er) (W : World) :
    Calls Tryd.prog 17 #[.string s, .slice (some ⟨W.heap.size, 0, none⟩) n n] (W.alloc (.cells cs 5 (0, 0))) fun e w' => ∃ u k, e = .returned (.tuple #[u, .int .i64 k, .int .i64 er]) ∧ Below W.heap.size W w' := by
  have hA := (Below.refl W.heap.size W).alloc (Nat.le_refl _) (.cells cs 5 (0, 0))
  refine (decode_any s _ l _ (by unfold maxLen; omega) ⟨_, _, by rw [hn], by omega⟩ (bytes_new W l cs _ _ hcs n hn) (by unfold maxLen; omega)).mono ?_
  rintro e w' ⟨u, rfl, -, hB⟩
  exact ⟨u, _, by rw [hE], hA.trans (hB.mono hA.size)⟩
theorem knW (s : ByteArray) (l : List UInt8) (er : Nat) (cs : Array Value) (n : Nat) (hs : s.size ≤ 64) (hcs : cs = (Lib.byteCells l).toArray) (hn : l.length = n) (hl : n ≤ 100) (hE : wholeE s.data.toList l = er) (W : World) :
    Calls Tryd.prog 18 #[.string s, .slice (some ⟨W.heap.size, 0, none⟩) n n] (W.alloc (.cells cs 5 (0, 0))) fun e w' => ∃ u, e = .returned (.tuple #[u, .int .i64 er]) ∧ Below W.heap.size W w' := by
  have hA := (Below.refl W.heap.size W).alloc (Nat.le_refl _) (.cells cs 5 (0, 0))
  refine (whole_any s _ l _ (by unfold maxLen; omega) ⟨_, _, by rw [hn], by omega⟩ (bytes_new W l cs _ _ hcs n hn) (by unfold maxLen; omega)).mono ?_
  rintro e w' ⟨u, rfl, -, hB⟩
  exact ⟨u, by rw [hE], hA.trans (hB.mono hA.size)⟩
theorem knU (l out : List UInt8) (er : Nat) (cs : Array Value) (n : Nat) (hcs : cs = (Lib.byteCells l).toArray) (hn : l.length = n) (hl : n ≤ 100) (hE : unpadE l = er) (hL : unpadL l = out) (W : World) :
    Calls Tryd.prog 11 #[.slice (some ⟨W.heap.size, 0, none⟩) n n] (W.alloc (.cells cs 5 (0, 0))) fun e w' => ∃ u, e = .returned (.tuple #[u, .int .i64 er]) ∧ BytesAt w' u out ∧ Below W.heap.size W w' := by
  have hA := (Below.refl W.heap.size W).alloc (Nat.le_refl _) (.cells cs 5 (0, 0))
  have hb := bytes_new W l cs 5 (0, 0) hcs n hn
  subst hn
  refine (unpad_any _ _ l _ hb (Nat.le_refl _) (by omega)).mono ?_
  rintro e w' ⟨u, rfl, hu, hB⟩
  exact ⟨u, by rw [hE], by rw [← hL]; exact hu, hA.trans (hB.mono hA.size)⟩
theorem knP (l out : List UInt8) (er k : Nat) (cs : Array Value) (n : Nat) (hcs : cs = (Lib.byteCells l).toArray) (hn : l.length = n) (hl : n ≤ 100) (hk : k ≤ 100) (hE : padE l k = er) (hL : padL l k = out) (W : World) :
    Calls Tryd.prog 9 #[.slice (some ⟨W.heap.size, 0, none⟩) n n, .int .i64 k] (W.alloc (.cells cs 5 (0, 0))) fun e w' => ∃ u, e = .returned (.tuple #[u, .int .i64 er]) ∧ BytesAt w' u out ∧ Below W.heap.size W w' := by
  have hA := (Below.refl W.heap.size W).alloc (Nat.le_refl _) (.cells cs 5 (0, 0))
  have hb := bytes_new W l cs 5 (0, 0) hcs n hn
  subst hn
  refine (pad_any _ _ l k _ hb (by omega) (by omega)).mono ?_
  rintro e w' ⟨u, rfl, hu, hB⟩
  exact ⟨u, by rw [hE], by rw [← hL]; exact hu, hA.trans (hB.mono hA.size)⟩

set_option maxHeartbeats 8000000 in
set_option maxRecDepth 100000 in
theorem recordsKnown_any (w : World) : Calls Tryd.prog 5 #[] w fun e w' => e = .returned (.bool true) ∧ Below w.heap.size w w' := by
  have H1 := Lib.hid (knE ⟨#[98]⟩ 256 ⟨#[]⟩ 7 (by decide) (by decide) (by decide +kernel))
  have H2 := Lib.hid (knE ⟨#[98]⟩ 1 ⟨#[120]⟩ 2 (by decide) (by decide) (by decide +kernel))
  have H3 := Lib.hid (knE ⟨#[120]⟩ 0 ⟨#[]⟩ 2 (by decide) (by decide) (by decide +kernel))
  have H4 := Lib.hid (knN ⟨#[98]⟩ 2 (by decide) (by decide +kernel))
  have H5 := Lib.hid (knD ⟨#[118]⟩ [172] 10 #[.int .u8 172] 1 (by decide) rfl rfl (by decide) (by decide +kernel))
  have H6 := Lib.hid (knD ⟨#[118]⟩ [172, 0] 6 #[.int .u8 172, .int .u8 0] 2 (by decide) rfl rfl (by decide) (by decide +kernel))
  have H7 := Lib.hid (knD ⟨#[115]⟩ [145, 3] 3 #[.int .u8 145, .int .u8 3] 2 (by decide) rfl rfl (by decide) (by decide +kernel))
  have H8 := Lib.hid (knD ⟨#[100]⟩ [1, 2, 3] 10 #[.int .u8 1, .int .u8 2, .int .u8 3] 3 (by decide) rfl rfl (by decide) (by decide +kernel))
  have H9 := Lib.hid (knW ⟨#[98]⟩ [1, 2] 6 #[.int .u8 1, .int .u8 2] 2 (by decide) rfl rfl (by decide) (by decide +kernel))
  have H10 := Lib.hid (knP [5] [5, 1, 0] 0 3 #[.int .u8 5] 1 rfl rfl (by decide) (by decide) (by decide +kernel) (by decide +kernel))
  have H11 := Lib.hid (knU [5, 1, 0] [5] 0 #[.int .u8 5, .int .u8 1, .int .u8 0] 3 rfl rfl (by decide) (by decide +kernel) (by decide +kernel))
  have H12 := Lib.hid (knU [5, 0] [] 6 #[.int .u8 5, .int .u8 0] 2 rfl rfl (by decide) (by decide +kernel) (by decide +kernel))
  go_enter Tryd.func5, Tryd.ntmps5
  go_wp2_with fail
  refine (H1.out _).mono ?_
  rintro e w1 ⟨u1, rfl, hb⟩
  have HB1 := Lib.hid hb
  clear hb
  go_wp2_with fail
  refine (H2.out _).mono ?_
  rintro e w2 ⟨u2, rfl, hb⟩
  have HB2 := Lib.hid (HB1.out.trans (hb.mono HB1.out.size))
  clear hb
  go_wp2_with fail
  refine (H3.out _).mono ?_
  rintro e w3 ⟨u3, rfl, hb⟩
  have HB3 := Lib.hid (HB2.out.trans (hb.mono HB2.out.size))
  clear hb
  go_wp2_with fail
  refine (H4.out _).mono ?_
  rintro e w4 ⟨u4, rfl, hb⟩
  have HB4 := Lib.hid (HB3.out.trans (hb.mono HB3.out.size))
  clear hb
  go_wp2_with fail
  refine (H5.out _).mono ?_
  rintro e w5 ⟨u5, k5, rfl, hb⟩
  have HB5 := Lib.hid (HB4.out.trans (hb.mono HB4.out.size))
  clear hb
  go_wp2_with fail
  refine (H6.out _).mono ?_
  rintro e w6 ⟨u6, k6, rfl, hb⟩
  have HB6 := Lib.hid (HB5.out.trans (hb.mono HB5.out.size))
  clear hb
  go_wp2_with fail
  refine (H7.out _).mono ?_
  rintro e w7 ⟨u7, k7, rfl, hb⟩
  have HB7 := Lib.hid (HB6.out.trans (hb.mono HB6.out.size))
  clear hb
  go_wp2_with fail
  refine (H8.out _).mono ?_
  rintro e w8 ⟨u8, k8, rfl, hb⟩
  have HB8 := Lib.hid (HB7.out.trans (hb.mono HB7.out.size))
  clear hb
  go_wp2_with fail
  refine (H9.out _).mono ?_
  rintro e w9 ⟨u9, rfl, hb⟩
  have HB9 := Lib.hid (HB8.out.trans (hb.mono HB8.out.size))
  clear hb
  go_wp2_with fail
  refine (H10.out _).mono ?_
  rintro e w10 ⟨u10, rfl, hu, hb⟩
  have HB10 := Lib.hid (HB9.out.trans (hb.mono HB9.out.size))
  have HU10 := Lib.hid hu
  clear hb hu
  go_wp2_with fail
  refine (H11.out _).mono ?_
  rintro e w11 ⟨u11, rfl, hu, hb⟩
  have HB11 := Lib.hid (HB10.out.trans (hb.mono HB10.out.size))
  have HV10 := Lib.hid (HU10.out.below hb (Nat.le_refl _))
  have HU11 := Lib.hid hu
  clear hb hu
  go_wp2_with fail
  refine (H12.out _).mono ?_
  rintro e w12 ⟨u12, rfl, -, hb⟩
  have HB12 := Lib.hid (HB11.out.trans (hb.mono HB11.out.size))
  have HW10 := Lib.hid (HV10.out.below hb (Nat.le_refl _))
  have HW11 := Lib.hid (HU11.out.below hb (Nat.le_refl _))
  clear hb HU10 HV10 HU11
  have hA := (Below.refl w12.heap.size w12).alloc (Nat.le_refl _) (.cells #[.int .u8 5, .int .u8 1, .int .u8 0] 5 (0, 0))
  have HS1 := Lib.hid (same_any u10 _ [5, 1, 0] _ (HW10.out.below hA (Nat.le_refl _)) (bytes_new w12 [5, 1, 0] #[.int .u8 5, .int .u8 1, .int .u8 0] 5 (0, 0) rfl 3 rfl) (by unfold maxLen; simp))
  have HA := Lib.hid hA
  clear hA
  go_wp2_with fail
  refine HS1.out.mono ?_
  rintro e w13 ⟨rfl, hb⟩
  have hb13 : Below w12.heap.size w12 w13 := HA.out.trans (hb.mono HA.out.size)
  have HB13 := Lib.hid (HB12.out.trans (hb13.mono HB12.out.size))
  have hA := (Below.refl w13.heap.size w13).alloc (Nat.le_refl _) (.cells #[.int .u8 5] 5 (0, 0))
  have HS2 := Lib.hid (same_any u11 _ [5] _ ((HW11.out.below hb13 (Nat.le_refl _)).below hA (Nat.le_refl _)) (bytes_new w13 [5] #[.int .u8 5] 5 (0, 0) rfl 1 rfl) (by unfold maxLen; simp))
  have HA2 := Lib.hid hA
  clear hA hb hb13
  go_wp2_with fail
  refine HS2.out.mono ?_
  rintro e w14 ⟨rfl, hb⟩
  have hb14 : Below w13.heap.size w13 w14 := HA2.out.trans (hb.mono HA2.out.size)
  have HB14 := Lib.hid (HB13.out.trans (hb14.mono HB13.out.size))
  clear hb hb14
  go_wp2_with fail
  refine (shown_any _).mono ?_
  rintro e w15 ⟨rfl, hb⟩
  have HB15 := Lib.hid (HB14.out.trans (hb.mono HB14.out.size))
  clear hb
  go_wp2_with fail
  go_ret
  exact ⟨rfl, HB15.out⟩
end Go.Proofs.YtnocmkjaifjgfaaDoor.R
