/- The laws' own examples: shown. -/
import Derived.Test.YtnocmkjaifjgfaaDoorRLaw
namespace Go.Proofs.YtnocmkjaifjgfaaDoor.R
open Go.RowKit

theorem vals_cells (W : World) (cs : Array Value) (t : TypeId) (fr : Nat × Nat) (l : List Rv) (n : Nat) (hn : l.length = n)
    (h : ∀ k (h : k < l.length), cs[k * 3]? = some (.int .u64 (l[k].num : Nat)) ∧ cs[k * 3 + 1]? = some (.string l[k].str) ∧ ∃ x, cs[k * 3 + 2]? = some x ∧ NumsAt (W.alloc (.cells cs t fr)) x l[k].list) :
    ValsAt (W.alloc (.cells cs t fr)) (.slice (some ⟨W.heap.size, 0, none⟩) n n) l := by
  subst hn
  have hb : ∀ i, (W.alloc (.cells cs t fr)).cell? ⟨W.heap.size, i, none⟩ = cs[i]? := fun i => by
    have h1 := heap_alloc_new W (.cells cs t fr)
    unfold World.cell?
    rw [h1]
    rfl
  refine .inr ⟨W.heap.size, 0, l.length, rfl, by simp, fun k hk => ?_⟩
  obtain ⟨h0, h1, x, h2, h3⟩ := h k hk
  exact ⟨by rw [hb, Nat.zero_add]; exact h0, by rw [hb, Nat.zero_add]; exact h1, x, by rw [hb, Nat.zero_add]; exact h2, h3⟩
theorem vals_one (W : World) (n : Nat) (s : ByteArray) (x : Value) (q : List Nat) (t : TypeId) (fr : Nat × Nat) (hx : NumsAt W x q) : ValsAt (W.alloc (.cells #[.int .u64 (n : Nat), .string s, x] t fr)) (.slice (some ⟨W.heap.size, 0, none⟩) 1 1) [⟨n, s, q⟩] :=
  vals_cells W _ t fr [⟨n, s, q⟩] 1 rfl (fun k hk => by
    obtain rfl : k = 0 := by simp at hk; omega
    exact ⟨rfl, rfl, x, rfl, hx.below ((Below.refl W.heap.size W).alloc (Nat.le_refl _) _) (Nat.le_refl _)⟩)
theorem vals_two (W : World) (n m : Nat) (t : TypeId) (fr : Nat × Nat) : ValsAt (W.alloc (.cells #[.int .u64 (n : Nat), .string ⟨#[]⟩, .slice none 0 0, .int .u64 (m : Nat), .string ⟨#[]⟩, .slice none 0 0] t fr)) (.slice (some ⟨W.heap.size, 0, none⟩) 2 2) [⟨n, ⟨#[]⟩, []⟩, ⟨m, ⟨#[]⟩, []⟩] :=
  vals_cells W _ t fr [⟨n, ⟨#[]⟩, []⟩, ⟨m, ⟨#[]⟩, []⟩] 2 rfl (fun k hk => by
    match k, hk with
    | 0, _ => exact ⟨rfl, rfl, _, rfl, .inl ⟨_, _, rfl, rfl⟩⟩
    | 1, _ => exact ⟨rfl, rfl, _, rfl, .inl ⟨_, _, rfl, rfl⟩⟩
    | k + 2, hk => simp at hk; omega)
theorem nums_two (W : World) (n m : Nat) (t : TypeId) (fr : Nat × Nat) : NumsAt (W.alloc (.cells #[.int .u32 (n : Nat), .int .u32 (m : Nat)] t fr)) (.slice (some ⟨W.heap.size, 0, none⟩) 2 2) [n, m] := by
  refine .inr ⟨W.heap.size, 0, 2, rfl, by simp, fun k hk => ?_⟩
  have h1 := heap_alloc_new W (.cells #[.int .u32 (n : Nat), .int .u32 (m : Nat)] t fr)
  unfold World.cell?
  rw [h1]
  match k, hk with
  | 0, _ => rfl
  | 1, _ => rfl
  | k + 2, hk => simp at hk; omega
theorem encLit (s : ByteArray) (l : List Rv) (out : List UInt8) (m : Nat) (v : Value) (W W' : World) (hv : ValsAt W' v l) (hb : Below W.heap.size W W') (hs : s.size ≤ 64) (hok : ∀ x ∈ l, x.Ok) (hl : l.length ≤ 64)
    (hE : encE s.data.toList l = 0) (hL : encL s.data.toList l = out) (hm : out.length = m) :
    Calls Tryd.prog 16 #[.string s, v] W' fun e w' => ∃ a d, e = .returned (.tuple #[.slice a m d, .int .i64 0]) ∧ BytesAt w' (.slice a m d) out ∧ Below W.heap.size W w' := by
  refine (encode_any s v l W' (by unfold maxLen; omega) hv hok (by unfold maxLen; omega)).mono ?_
  rintro e w' ⟨u, rfl, hu, hB⟩
  rw [hL] at hu
  obtain ⟨a, d, rfl⟩ := hu.shape
  rw [hm] at hu ⊢
  exact ⟨a, d, by rw [hE]; rfl, hu, hb.trans (hB.mono hb.size)⟩
theorem ok_lit {n : Nat} {s : ByteArray} {l : List Nat} (hn : n < 18446744073709551616) (hl : l.all (fun x => decide (x < 4294967296)) = true) : (⟨n, s, l⟩ : Rv).Ok := ⟨hn, fun x hx => by simpa using List.all_eq_true.1 hl x hx⟩
theorem decV300 : decR [118] [172, 2, 5] = ([⟨300, ByteArray.empty, []⟩], 2, 0) := rfl
theorem bytes3 (W : World) (a b c : UInt8) (t : TypeId) (fr : Nat × Nat) : BytesAt (W.alloc (.cells #[.int .u8 a.toNat, .int .u8 b.toNat, .int .u8 c.toNat] t fr)) (.slice (some ⟨W.heap.size, 0, none⟩) 3 3) [a, b, c] := bytes_new W [a, b, c] _ t fr rfl 3 rfl
theorem bytes2 (W : World) (a b : UInt8) (t : TypeId) (fr : Nat × Nat) : BytesAt (W.alloc (.cells #[.int .u8 a.toNat, .int .u8 b.toNat] t fr)) (.slice (some ⟨W.heap.size, 0, none⟩) 2 2) [a, b] := bytes_new W [a, b] _ t fr rfl 2 rfl

set_option maxHeartbeats 8000000 in
set_option maxRecDepth 100000 in
theorem shown_any (w : World) :
    Calls Tryd.prog 6 #[] w fun e w' => e = .returned (.bool true) ∧ Below w.heap.size w w' := by
  have H1 : Hid (∀ W : World, Calls Tryd.prog 16 #[.string ⟨#[98, 119]⟩, .slice (some ⟨W.heap.size, 0, none⟩) 2 2] (W.alloc (.cells #[.int .u64 7, .string ⟨#[]⟩, .slice none 0 0, .int .u64 258, .string ⟨#[]⟩, .slice none 0 0] 38 (0, 0))) fun e w' => ∃ a d, e = .returned (.tuple #[.slice a 3 d, .int .i64 0]) ∧ BytesAt w' (.slice a 3 d) [7, 2, 1] ∧ Below W.heap.size W w') := Lib.hid (fun W => encLit ⟨#[98, 119]⟩ [⟨7, ⟨#[]⟩, []⟩, ⟨258, ⟨#[]⟩, []⟩] [7, 2, 1] 3 _ W _ (vals_two W 7 258 _ _) ((Below.refl W.heap.size W).alloc (Nat.le_refl _) _) (by decide) (fun x hx => by simp at hx; rcases hx with rfl | rfl <;> exact ok_lit (by omega) rfl) (by decide) (by decide +kernel) (by decide +kernel) rfl)
  have H2 : Hid (∀ W : World, Calls Tryd.prog 16 #[.string ⟨#[118]⟩, .slice (some ⟨W.heap.size, 0, none⟩) 1 1] (W.alloc (.cells #[.int .u64 300, .string ⟨#[]⟩, .slice none 0 0] 38 (0, 0))) fun e w' => ∃ a d, e = .returned (.tuple #[.slice a 2 d, .int .i64 0]) ∧ BytesAt w' (.slice a 2 d) [172, 2] ∧ Below W.heap.size W w') := Lib.hid (fun W => encLit ⟨#[118]⟩ [⟨300, ⟨#[]⟩, []⟩] [172, 2] 2 _ W _ (vals_one W 300 _ _ [] _ _ (.inl ⟨_, _, rfl, rfl⟩)) ((Below.refl W.heap.size W).alloc (Nat.le_refl _) _) (by decide) (fun x hx => by simp at hx; subst hx; exact ok_lit (by omega) rfl) (by decide) (by decide +kernel) (by decide +kernel) rfl)
  have H3 : Hid (∀ W : World, Calls Tryd.prog 16 #[.string ⟨#[115]⟩, .slice (some ⟨W.heap.size, 0, none⟩) 1 1] (W.alloc (.cells #[.int .u64 0, .string ⟨#[97, 98]⟩, .slice none 0 0] 38 (0, 0))) fun e w' => ∃ a d, e = .returned (.tuple #[.slice a 3 d, .int .i64 0]) ∧ BytesAt w' (.slice a 3 d) [2, 97, 98] ∧ Below W.heap.size W w') := Lib.hid (fun W => encLit ⟨#[115]⟩ [⟨0, ⟨#[97, 98]⟩, []⟩] [2, 97, 98] 3 _ W _ (vals_one W 0 _ _ [] _ _ (.inl ⟨_, _, rfl, rfl⟩)) ((Below.refl W.heap.size W).alloc (Nat.le_refl _) _) (by decide) (fun x hx => by simp at hx; subst hx; exact ok_lit (by omega) rfl) (by decide) (by decide +kernel) (by decide +kernel) rfl)
  have H4 : Hid (∀ W : World, Calls Tryd.prog 16 #[.string ⟨#[108]⟩, .slice (some ⟨W.heap.size + 1, 0, none⟩) 1 1] ((W.alloc (.cells #[.int .u32 1, .int .u32 2] 44 (0, 0))).alloc (.cells #[.int .u64 0, .string ⟨#[]⟩, .slice (some ⟨W.heap.size, 0, none⟩) 2 2] 38 (0, 0))) fun e w' => ∃ a d, e = .returned (.tuple #[.slice a 9 d, .int .i64 0]) ∧ BytesAt w' (.slice a 9 d) [2, 1, 0, 0, 0, 2, 0, 0, 0] ∧ Below W.heap.size W w') := Lib.hid (fun W => by
    have h := vals_one (W.alloc (.cells #[.int .u32 1, .int .u32 2] 44 (0, 0))) 0 ⟨#[]⟩ _ [1, 2] 38 (0, 0) (nums_two W 1 2 _ _)
    rw [World.size_alloc] at h
    exact encLit ⟨#[108]⟩ [⟨0, ⟨#[]⟩, [1, 2]⟩] [2, 1, 0, 0, 0, 2, 0, 0, 0] 9 _ W _ h (((Below.refl W.heap.size W).alloc (Nat.le_refl _) _).alloc (by simp) _) (by decide) (fun x hx => by simp at hx; subst hx; exact ok_lit (by omega) rfl) (by decide) (by decide +kernel) (by decide +kernel) rfl)
  have H5 : Hid (∀ W : World, Calls Tryd.prog 17 #[.string ⟨#[118]⟩, .slice (some ⟨W.heap.size, 0, none⟩) 3 3] (W.alloc (.cells #[.int .u8 172, .int .u8 2, .int .u8 5] 5 (0, 0))) fun e w' => ∃ g o d, e = .returned (.tuple #[.slice (some ⟨g, o, none⟩) 1 d, .int .i64 2, .int .i64 0]) ∧ g < w'.heap.size ∧ w'.cell? ⟨g, o, none⟩ = some (.int .u64 300) ∧ Below W.heap.size W w') := Lib.hid (fun W => by
    refine (decode_any ⟨#[118]⟩ _ [172, 2, 5] _ (by decide) ⟨_, _, rfl, by decide⟩ (bytes3 W 172 2 5 _ _) (by decide)).mono ?_
    rintro e w' ⟨u, rfl, hu, hB⟩
    have hd : decR (⟨#[118]⟩ : ByteArray).data.toList [172, 2, 5] = ([⟨300, ByteArray.empty, []⟩], 2, 0) := decV300
    rw [hd] at hu ⊢
    rcases hu with ⟨a, c, rfl, h0⟩ | ⟨g, o, c, rfl, hg, hc⟩
    · cases h0
    · have hA := (Below.refl W.heap.size W).alloc (Nat.le_refl _) (.cells #[.int .u8 172, .int .u8 2, .int .u8 5] 5 (0, 0))
      exact ⟨g, o, c, rfl, hg, by have := (hc 0 (by simp)).1; simpa using this, hA.trans (hB.mono hA.size)⟩)
  have HSM : Hid (∀ (W : World) (u v : Value) (l : List UInt8), BytesAt W u l → BytesAt W v l → l.length ≤ 100 → Calls Tryd.prog 13 #[u, v] W fun e w' => e = .returned (.bool true) ∧ Below W.heap.size W w') := Lib.hid (fun W u v l h1 h2 h3 => same_any u v l W h1 h2 (by unfold maxLen; omega))
  have hB0 := Below.refl w.heap.size w
  go_enter Tryd.func6, Tryd.ntmps6
  go_wp2_with fail
  refine (H1.out _).mono ?_
  rintro e w1 ⟨aA, dA, rfl, hA, hb⟩
  have HA1 := Lib.hid hA
  have hB1 := hB0.trans (hb.mono hB0.size)
  clear hA hb
  go_wp2_with fail
  refine (H2.out _).mono ?_
  rintro e w2 ⟨aB, dB, rfl, hB, hb⟩
  have HA2 := Lib.hid (HA1.out.below hb (Nat.le_refl _))
  clear HA1
  have HB2 := Lib.hid hB
  have hB2 := hB1.trans (hb.mono hB1.size)
  clear hB hb
  go_wp2_with fail
  refine (H3.out _).mono ?_
  rintro e w3 ⟨aC, dC, rfl, hC, hb⟩
  have HA3 := Lib.hid (HA2.out.below hb (Nat.le_refl _))
  clear HA2
  have HB3 := Lib.hid (HB2.out.below hb (Nat.le_refl _))
  clear HB2
  have HC3 := Lib.hid hC
  have hB3 := hB2.trans (hb.mono hB2.size)
  clear hC hb
  go_wp2_with fail
  refine (H4.out _).mono ?_
  rintro e w4 ⟨aD, dD, rfl, hD, hb⟩
  have HA4 := Lib.hid (HA3.out.below hb (Nat.le_refl _))
  clear HA3
  have HB4 := Lib.hid (HB3.out.below hb (Nat.le_refl _))
  clear HB3
  have HC4 := Lib.hid (HC3.out.below hb (Nat.le_refl _))
  clear HC3
  have HD4 := Lib.hid hD
  have hB4 := hB3.trans (hb.mono hB3.size)
  clear hD hb
  go_wp2_with fail
  refine (H5.out _).mono ?_
  rintro e w5 ⟨g, o, d, rfl, hg, hc, hb⟩
  have HA5 := Lib.hid (HA4.out.below hb (Nat.le_refl _))
  clear HA4
  have HB5 := Lib.hid (HB4.out.below hb (Nat.le_refl _))
  clear HB4
  have HC5 := Lib.hid (HC4.out.below hb (Nat.le_refl _))
  clear HC4
  have HD5 := Lib.hid (HD4.out.below hb (Nat.le_refl _))
  clear HD4
  have hB5 := hB4.trans (hb.mono hB4.size)
  clear hb
  have hA5 := (Below.refl w5.heap.size w5).alloc (Nat.le_refl _) (.cells #[.int .u8 7, .int .u8 2, .int .u8 1] 5 (0, 0))
  have HS5 := Lib.hid (HSM.out _ _ _ [7, 2, 1] (HA5.out.below hA5 (Nat.le_refl _)) (bytes_new w5 [7, 2, 1] #[.int .u8 7, .int .u8 2, .int .u8 1] 5 (0, 0) rfl 3 rfl) (by decide))
  go_wp2_with fail
  refine HS5.out.mono ?_
  rintro e w6 ⟨rfl, hb⟩
  have hbb := hA5.trans (hb.mono hA5.size)
  have hc5 := (bcell hbb g o hg).trans hc
  have hg5 : g < w6.heap.size := Nat.lt_of_lt_of_le hg hbb.size
  clear hc hg
  have hc := hc5
  have hg := hg5
  clear hc5 hg5
  have HB6 := Lib.hid (HB5.out.below hbb (Nat.le_refl _))
  clear HB5
  have HC6 := Lib.hid (HC5.out.below hbb (Nat.le_refl _))
  clear HC5
  have HD6 := Lib.hid (HD5.out.below hbb (Nat.le_refl _))
  clear HD5
  have hB6 := hB5.trans (hbb.mono hB5.size)
  clear hb hbb hA5 HS5 HA5
  have hA6 := (Below.refl w6.heap.size w6).alloc (Nat.le_refl _) (.cells #[.int .u8 172, .int .u8 2] 5 (0, 0))
  have HS6 := Lib.hid (HSM.out _ _ _ [172, 2] (HB6.out.below hA6 (Nat.le_refl _)) (bytes_new w6 [172, 2] #[.int .u8 172, .int .u8 2] 5 (0, 0) rfl 2 rfl) (by decide))
  go_wp2_with fail
  refine HS6.out.mono ?_
  rintro e w7 ⟨rfl, hb⟩
  have hbb := hA6.trans (hb.mono hA6.size)
  have hc6 := (bcell hbb g o hg).trans hc
  have hg6 : g < w7.heap.size := Nat.lt_of_lt_of_le hg hbb.size
  clear hc hg
  have hc := hc6
  have hg := hg6
  clear hc6 hg6
  have HC7 := Lib.hid (HC6.out.below hbb (Nat.le_refl _))
  clear HC6
  have HD7 := Lib.hid (HD6.out.below hbb (Nat.le_refl _))
  clear HD6
  have hB7 := hB6.trans (hbb.mono hB6.size)
  clear hb hbb hA6 HS6 HB6
  have hA7 := (Below.refl w7.heap.size w7).alloc (Nat.le_refl _) (.cells #[.int .u8 2, .int .u8 97, .int .u8 98] 5 (0, 0))
  have HS7 := Lib.hid (HSM.out _ _ _ [2, 97, 98] (HC7.out.below hA7 (Nat.le_refl _)) (bytes_new w7 [2, 97, 98] #[.int .u8 2, .int .u8 97, .int .u8 98] 5 (0, 0) rfl 3 rfl) (by decide))
  go_wp2_with fail
  refine HS7.out.mono ?_
  rintro e w8 ⟨rfl, hb⟩
  have hbb := hA7.trans (hb.mono hA7.size)
  have hc7 := (bcell hbb g o hg).trans hc
  have hg7 : g < w8.heap.size := Nat.lt_of_lt_of_le hg hbb.size
  clear hc hg
  have hc := hc7
  have hg := hg7
  clear hc7 hg7
  have HD8 := Lib.hid (HD7.out.below hbb (Nat.le_refl _))
  clear HD7
  have hB8 := hB7.trans (hbb.mono hB7.size)
  clear hb hbb hA7 HS7 HC7
  have hA8 := (Below.refl w8.heap.size w8).alloc (Nat.le_refl _) (.cells #[.int .u8 2, .int .u8 1, .int .u8 0, .int .u8 0, .int .u8 0, .int .u8 2, .int .u8 0, .int .u8 0, .int .u8 0] 5 (0, 0))
  have HS8 := Lib.hid (HSM.out _ _ _ [2, 1, 0, 0, 0, 2, 0, 0, 0] (HD8.out.below hA8 (Nat.le_refl _)) (bytes_new w8 [2, 1, 0, 0, 0, 2, 0, 0, 0] #[.int .u8 2, .int .u8 1, .int .u8 0, .int .u8 0, .int .u8 0, .int .u8 2, .int .u8 0, .int .u8 0, .int .u8 0] 5 (0, 0) rfl 9 rfl) (by decide))
  go_wp2_with fail
  refine HS8.out.mono ?_
  rintro e w9 ⟨rfl, hb⟩
  have hbb := hA8.trans (hb.mono hA8.size)
  have hc8 := (bcell hbb g o hg).trans hc
  have hg8 : g < w9.heap.size := Nat.lt_of_lt_of_le hg hbb.size
  clear hc hg
  have hc := hc8
  have hg := hg8
  clear hc8 hg8
  have hB9 := hB8.trans (hbb.mono hB8.size)
  clear hb hbb hA8 HS8 HD8
  go_wp2_with fail
  go_ret
  exact ⟨rfl, hB9⟩
end Go.Proofs.YtnocmkjaifjgfaaDoor.R
