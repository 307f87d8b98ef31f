/- goOn, On, Crc; the reference's step, On, Crc. -/
import Derived.Test.YtbaibmndmcdfdaaDoorBase
import Derived.OwnWalk
import Derived.Maps.AppendAt
import Derived.Lib.UnsafeStr
namespace Go.Proofs.YtbaibmndmcdfdaaDoor
open Go.RowKit

/-- The slice v reads as the bytes l. -/
def BytesAt (w : World) (v : Value) (l : List UInt8) : Prop :=
  (∃ a c, v = .slice a 0 c ∧ l = []) ∨
  ∃ b o c, v = .slice (some ⟨b, o, none⟩) l.length c ∧ b < w.heap.size ∧ ∀ k (h : k < l.length), w.cell? ⟨b, o + k, none⟩ = some (.int .u8 l[k].toNat)
theorem BytesAt.shape {w : World} {v : Value} {l : List UInt8} (h : BytesAt w v l) : ∃ a c, v = .slice a l.length c := by
  rcases h with ⟨a, c, rfl, rfl⟩ | ⟨b, o, c, rfl, _⟩
  · exact ⟨a, c, rfl⟩
  · exact ⟨_, c, rfl⟩
theorem BytesAt.below {n : Nat} {A B : World} {v : Value} {l : List UInt8} (h : BytesAt A v l) (hk : Below n A B) (hn : A.heap.size ≤ n) : BytesAt B v l := by
  rcases h with h | ⟨b, o, c, rfl, hb, hc⟩
  · exact .inl h
  · exact .inr ⟨b, o, c, rfl, Nat.lt_of_lt_of_le hb hk.size, fun k hk' => (hk.cell (p := ⟨b, o + k, none⟩) (by show b < n; omega)).trans (hc k hk')⟩
theorem BytesAt.put {A B : World} {b o : Nat} {u v : Value} {l : List UInt8} (h : BytesAt A v l) (hk : Put b o u A B) (hn : ∀ g i n c, v = .slice (some ⟨g, i, none⟩) n c → g ≠ b ∨ l = []) : BytesAt B v l := by
  rcases h with h | ⟨g, i, c, rfl, hb, hc⟩
  · exact .inl h
  · rcases hn _ _ _ _ rfl with hn | rfl
    rotate_left
    · exact .inl ⟨_, c, rfl, rfl⟩
    exact .inr ⟨g, i, c, rfl, by rw [hk.size]; exact hb, fun k hk' => (World.cell?_of_block (w := A) (a := ⟨g, i + k, none⟩) (hk.other g hn)).trans (hc k hk')⟩
theorem BytesAt.lt {w : World} {v : Value} {l : List UInt8} (h : BytesAt w v l) (g i n c : Nat) (e : v = .slice (some ⟨g, i, none⟩) n c) : g < w.heap.size ∨ l = [] := by
  rcases h with ⟨a, c, rfl, rfl⟩ | ⟨b, o, c, rfl, hb, hc⟩
  · exact .inr rfl
  · cases e; exact .inl hb
theorem onV_snoc (r : Nat) (l : List UInt8) (k : Nat) (h : k < l.length) : onV r (l.take (k + 1)) = stepV (onV r (l.take k)) l[k].toNat := by
  rw [List.take_succ_eq_append_getElem h, onV_append, onV_cons, onV_nil]
theorem byte_lt (l : List UInt8) (k : Nat) (h : k < l.length) : l[k].toNat < 256 := by have := l[k].toNat_lt; omega

set_option maxHeartbeats 400000 in
theorem goOn_crc (b o r : Nat) (v : Value) (l : List UInt8) (w : World) (hr : r < 4294967296) (hE : Env w) (h0 : 1 ≤ b) (hcell : w.cell? ⟨b, o, none⟩ = some (.int .u32 r)) (hf : w.frozen? ⟨b, o, none⟩ = false)
    (hv : BytesAt w v l) (hn : ∀ g i n c, v = .slice (some ⟨g, i, none⟩) n c → g ≠ b ∨ l = []) (hl : l.length ≤ maxLen) :
    Calls Tryd.prog 64 #[.func (.func 65) #[.pointer (some ⟨b, o, none⟩)] #[], v] w fun e w' => e = .returned (.tuple #[]) ∧ Put b o (.int .u32 (onV r l : Nat)) w w' := by
  unfold maxLen at hl
  obtain ⟨s, d, rfl⟩ := hv.shape
  have HV := Lib.hid hv
  have HN := Lib.hid hn
  have HC := Lib.hid hcell
  have HP0 : Hid (Put b o (.int .u32 (onV r (l.take 0) : Nat)) w w) := Lib.hid (Put.self hcell)
  clear hv hn hcell
  go_enter Tryd.func64, Tryd.ntmps64
  go_wp2
  go_loopw [8] (fun i wr => ∃ k : Nat, k ≤ l.length ∧ i = .int .i64 k ∧ Hid (Put b o (.int .u32 (onV r (l.take k) : Nat)) w wr)) (fun i _ => l.length - (intOf i).toNat)
  case atStart => exact ⟨0, by omega, rfl, HP0⟩
  case round =>
    obtain ⟨k, hk, rfl, hP⟩ := hrel
    by_cases hlt : k < l.length
    · rcases HV.out.put hP.out HN.out with ⟨a, c, hva, hl0⟩ | ⟨g, i, c, hva, hg, hcs⟩
      · rw [hl0] at hlt; simp at hlt
      · obtain ⟨rfl, rfl⟩ : s = some ⟨g, i, none⟩ ∧ d = c := by cases hva; exact ⟨rfl, rfl⟩
        have hcl := hcs k hlt
        have hby := byte_lt l k hlt
        have HS := Lib.hid (onV_snoc r l k hlt)
        have HX := Lib.hid (next_any b o (onV r (l.take k)) l[k].toNat wr (onV_lt _ hr) hby (hE.below (hP.out.below h0) (Nat.le_refl 1)) h0 (hP.out.cell HC.out) ((hP.out.frozen _).trans hf))
        generalize l[k].toNat = z at *
        clear hva hcs hf
        go_wp2_with fail
        refine HX.out.mono ?_
        rintro e w2 ⟨rfl, hP2⟩
        have HP2 := Lib.hid (hP.out.trans hP2)
        clear hP2
        go_wp2_with fail
        go_roundw
        case rel => exact ⟨k + 1, by omega, by go_num, Lib.hid (by rw [HS.out]; exact HP2.out)⟩
        case measure => simp [intOf]; omega
    · obtain rfl : k = l.length := by omega
      have HQ := Lib.hid hP.out
      rw [List.take_length] at HQ
      clear hP hf
      go_wp2_with fail
      go_end0
      exact ⟨rfl, HQ.out⟩

/-- What a call that makes a number leaves. -/
theorem on_any (h : Nat) (v : Value) (l : List UInt8) (w : World) (hh : h < 4294967296) (hE : Env w) (hv : BytesAt w v l) (hl : l.length ≤ maxLen) :
    Calls Tryd.prog 57 #[.int .u32 h, v] w fun e w' => e = .returned (.int .u32 (crcOn h l : Nat)) ∧ Below w.heap.size w w' := by
  obtain ⟨s, d, rfl⟩ := hv.shape
  have hx := xor_lt hh allV_lt
  have HR := Lib.hid (registerOf_any h w hh)
  have HB := Lib.hid ((Below.refl w.heap.size w).alloc (Nat.le_refl _) (.cells #[.int .u32 ((h ^^^ allV : Nat) : Int)] 109 (0, 0)))
  have HG := Lib.hid (goOn_crc w.heap.size 0 (h ^^^ allV) (.slice s l.length d) l (w.alloc (.cells #[.int .u32 ((h ^^^ allV : Nat) : Int)] 109 (0, 0))) hx (hE.below HB.out hE.one) hE.one (by simp) (by simp) (hv.below HB.out (Nat.le_refl _)) (fun g i n c e => (hv.lt g i n c e).imp (fun q => by omega) id) hl)
  go_enter Tryd.func57, Tryd.ntmps57
  go_wp2_with fail
  refine HR.out.mono ?_
  rintro e w2 ⟨rfl, rfl⟩
  go_wp2_with fail
  refine HG.out.mono ?_
  rintro e w3 ⟨rfl, hP⟩
  have hcl := hP.cell (u := .int .u32 ((h ^^^ allV : Nat) : Int)) (by simp)
  have HB3 := Lib.hid (HB.out.trans (hP.below (Nat.le_refl _)))
  have HX := Lib.hid (crc_any (onV (h ^^^ allV) l) w3 (onV_lt _ hx))
  clear hP
  go_wp2_with fail
  refine HX.out.mono ?_
  rintro e w2 ⟨rfl, rfl⟩
  go_wp2_with fail
  go_ret
  exact ⟨rfl, HB3.out⟩
theorem crcAll_any (v : Value) (l : List UInt8) (w : World) (hE : Env w) (hv : BytesAt w v l) (hl : l.length ≤ maxLen) :
    Calls Tryd.prog 46 #[v] w fun e w' => e = .returned (.int .u32 (crcV l : Nat)) ∧ Below w.heap.size w w' := by
  have HX := Lib.hid (on_any 0 v l w (by omega) hE hv hl)
  clear hE hv hl
  go_enter Tryd.func46, Tryd.ntmps46
  go_wp2_with fail
  refine HX.out.mono ?_
  rintro e w2 ⟨rfl, hB⟩
  go_wp2_with fail
  go_ret
  exact ⟨rfl, hB⟩

/-! ### the reference -/
theorem half_one (x : Nat) (h : x % 2 = 1) : half x = x / 2 ^^^ 3988292384 := by unfold half; rw [if_pos h]; rfl
theorem half_two (x : Nat) (h : ¬ x % 2 = 1) : half x = x / 2 := by unfold half; rw [if_neg h]
set_option maxHeartbeats 400000 in
theorem refStep_any (r c : Nat) (w : World) (hr : r < 4294967296) (hc : c < 256) :
    Calls Tryd.prog 58 #[.int .u32 r, .int .u8 c] w fun e w' => e = .returned (.int .u32 (stepV r c : Nat)) ∧ w = w' := by
  have hx := xor32 r c hr (by omega)
  have hl0 := xor_lt hr (show c < 4294967296 by omega)
  go_enter Tryd.func58, Tryd.ntmps58
  go_wp2
  go_loop [0, 5] (fun r' i => ∃ k : Nat, k ≤ 8 ∧ i = .int .i64 k ∧ r' = .int .u32 (halfN k (r ^^^ c) : Nat)) (fun _ i => 8 - (intOf i).toNat)
  case atStart => exact ⟨0, by omega, rfl, rfl⟩
  case round =>
    obtain ⟨k, hk, rfl, rfl⟩ := hrel
    clear hx
    by_cases hlt : k < 8
    · have hl := halfN_lt (k := k) hl0
      have HS := Lib.hid (show halfN (k + 1) (r ^^^ c) = half (halfN k (r ^^^ c)) from rfl)
      generalize halfN k (r ^^^ c) = x at *
      by_cases hp : x % 2 = 1
      · have d1 : (((x : Int) % 2) == 1) = true := by simp; omega
        have hx2 : bits .xor .u32 ((x : Int) / 2) 3988292384 = ((x / 2 ^^^ 3988292384 : Nat) : Int) := xor32 (x / 2) 3988292384 (by omega) (by omega)
        have HH := Lib.hid (half_one x hp)
        clear hp
        go_wp2
        go_round
        case rel => exact ⟨k + 1, by omega, by go_num, by rw [HS.out, HH.out]⟩
        case measure => simp [intOf]; omega
      · have d1 : (((x : Int) % 2) == 1) = false := by simp; omega
        have HH := Lib.hid (half_two x hp)
        clear hp
        go_wp2
        go_round
        case rel => exact ⟨k + 1, by omega, by go_num, by rw [HS.out, HH.out]; rfl⟩
        case measure => simp [intOf]; omega
    · obtain rfl : k = 8 := by omega
      go_wp2
      go_ret
      exact ⟨rfl, rfl⟩

set_option maxHeartbeats 400000 in
theorem refOn_any (h : Nat) (v : Value) (l : List UInt8) (w : World) (hh : h < 4294967296) (hv : BytesAt w v l) (hl : l.length ≤ maxLen) :
    Calls Tryd.prog 47 #[.int .u32 h, v] w fun e w' => e = .returned (.int .u32 (crcOn h l : Nat)) ∧ w = w' := by
  unfold maxLen at hl
  obtain ⟨s, d, rfl⟩ := hv.shape
  have HV := Lib.hid hv
  have hx0 : bits .xor .u32 (h : Int) 4294967295 = ((h ^^^ allV : Nat) : Int) := xor32 h allV hh allV_lt
  have hx1 := xor_lt hh allV_lt
  clear hv
  go_enter Tryd.func47, Tryd.ntmps47
  go_wp2
  go_loop [5, 6] (fun r' i => ∃ k : Nat, k ≤ l.length ∧ i = .int .i64 k ∧ r' = .int .u32 (onV (h ^^^ allV) (l.take k) : Nat)) (fun _ i => l.length - (intOf i).toNat)
  case atStart => exact ⟨0, by omega, rfl, rfl⟩
  case round =>
    obtain ⟨k, hk, rfl, rfl⟩ := hrel
    clear hx0
    by_cases hlt : k < l.length
    · rcases HV.out with ⟨a, c, hva, hl0⟩ | ⟨g, i, c, hva, hg, hcs⟩
      · rw [hl0] at hlt; simp at hlt
      · obtain ⟨rfl, rfl⟩ : s = some ⟨g, i, none⟩ ∧ d = c := by cases hva; exact ⟨rfl, rfl⟩
        have hcl := hcs k hlt
        have hby := byte_lt l k hlt
        have HS := Lib.hid (onV_snoc (h ^^^ allV) l k hlt)
        have HX := Lib.hid (refStep_any (onV (h ^^^ allV) (l.take k)) l[k].toNat w (onV_lt _ hx1) hby)
        generalize l[k].toNat = z at *
        clear hva hcs
        go_wp2_with fail
        refine HX.out.mono ?_
        rintro e w2 ⟨rfl, rfl⟩
        go_wp2_with fail
        go_round
        case rel => exact ⟨k + 1, by omega, by go_num, by rw [HS.out]⟩
        case measure => simp [intOf]; omega
    · obtain rfl : k = l.length := by omega
      have hx : bits .xor .u32 ((onV (h ^^^ allV) l : Nat) : Int) 4294967295 = (crcOn h l : Nat) := xor32 _ allV (onV_lt _ hx1) allV_lt
      go_wp2_with fail
      go_ret
      exact ⟨rfl, rfl⟩
theorem refCrc_any (v : Value) (l : List UInt8) (w : World) (hv : BytesAt w v l) (hl : l.length ≤ maxLen) :
    Calls Tryd.prog 31 #[v] w fun e w' => e = .returned (.int .u32 (crcV l : Nat)) ∧ w = w' := by
  have HX := Lib.hid (refOn_any 0 v l w (by omega) hv hl)
  clear hv hl
  go_enter Tryd.func31, Tryd.ntmps31
  go_wp2_with fail
  refine HX.out.mono ?_
  rintro e w2 ⟨rfl, rfl⟩
  go_wp2_with fail
  go_ret
  exact ⟨rfl, rfl⟩
end Go.Proofs.YtbaibmndmcdfdaaDoor
