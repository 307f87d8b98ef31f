/- Zeros, Combine; the reference's. -/
import Derived.Test.YtadaohjphgpdnaaDoorZeros
namespace Go.Proofs.YtadaohjphgpdnaaDoor
open Go.RowKit

def inZ (n : Int) : Bool := decide (0 ≤ n ∧ n ≤ 1000000)
def zN (h : Nat) (n : Int) : Nat := if inZ n then zerosE h n.toNat else 0
def zE (n : Int) : Int := if inZ n then 0 else 7
def cN (a b : Nat) (n : Int) : Nat := if inZ n then combineV a b n.toNat else 0
theorem inZ_not {n : Int} (h : n < 0 ∨ 1000000 < n) : inZ n = false := by unfold inZ; exact decide_eq_false (by omega)
theorem inZ_yes {n : Nat} (h : n ≤ 1000000) : inZ n = true := by unfold inZ; exact decide_eq_true (by omega)
theorem zN_not {h : Nat} {n : Int} (hn : n < 0 ∨ 1000000 < n) : zN h n = 0 := by unfold zN; rw [inZ_not hn]; rfl
theorem zE_not {n : Int} (hn : n < 0 ∨ 1000000 < n) : zE n = 7 := by unfold zE; rw [inZ_not hn]; rfl
theorem cN_not {a b : Nat} {n : Int} (hn : n < 0 ∨ 1000000 < n) : cN a b n = 0 := by unfold cN; rw [inZ_not hn]; rfl
theorem zN_yes {h : Nat} {n : Nat} (hn : n ≤ 1000000) : zN h n = zerosE h n := by unfold zN; rw [inZ_yes hn]; rfl
theorem zE_yes {n : Nat} (hn : n ≤ 1000000) : zE n = 0 := by unfold zE; rw [inZ_yes hn]; rfl
theorem cN_yes {a b : Nat} {n : Nat} (hn : n ≤ 1000000) : cN a b n = combineV a b n := by unfold cN; rw [inZ_yes hn]; rfl
theorem zN_lt {h : Nat} (hh : h < 4294967296) (n : Int) : zN h n < 4294967296 := by unfold zN; split; exact zerosE_lt hh; omega
theorem combineV_lt {a b n : Nat} (ha : a < 4294967296) (hb : b < 4294967296) : combineV a b n < 4294967296 := xor_lt (zerosV_lt ha) hb
theorem ret2 {k k' : IntKind} {a b c d : Int} (h : a = c) (h' : b = d) : Ending.returned (.tuple #[.int k a, .int k' b]) = .returned (.tuple #[.int k c, .int k' d]) := by rw [h, h']

/-- A number of bytes: out of range below, above, or one of them. -/
theorem range_cases (n : Int) : n < 0 ∨ (¬ n < 0 ∧ 1000000 < n) ∨ ∃ k : Nat, n = k ∧ k ≤ 1000000 := by
  by_cases h : n < 0
  · exact .inl h
  · by_cases h2 : 1000000 < n
    · exact .inr (.inl ⟨h, h2⟩)
    · exact .inr (.inr ⟨n.toNat, by omega, by omega⟩)

set_option maxHeartbeats 400000 in
theorem zeros_any (h : Nat) (n : Int) (w : World) (hh : h < 4294967296) (hE : Env w) :
    Calls Tryd.prog 18 #[.int .u32 h, .int .i64 n] w fun e w' => e = .returned (.tuple #[.int .u32 (zN h n : Nat), .int .i64 (zE n)]) ∧ Below w.heap.size w w' := by
  rcases range_cases n with h1 | ⟨h0, h1⟩ | ⟨k, rfl, hk⟩
  · have d1 : decide (n < 0) = true := decide_eq_true h1
    have HN := Lib.hid (zN_not (h := h) (.inl h1))
    have HE := Lib.hid (zE_not (.inl h1))
    clear h1
    go_enter Tryd.func18, Tryd.ntmps18
    go_wp2
    go_ret2
    exact ⟨by rw [HN.out, HE.out]; rfl, Below.refl _ _⟩
  · have d1 : decide (n < 0) = false := decide_eq_false h0
    have d2 : decide (1000000 < n) = true := decide_eq_true h1
    have HN := Lib.hid (zN_not (h := h) (.inr h1))
    have HE := Lib.hid (zE_not (.inr h1))
    clear h1 h0
    go_enter Tryd.func18, Tryd.ntmps18
    go_wp2
    go_ret2
    exact ⟨by rw [HN.out, HE.out]; rfl, Below.refl _ _⟩
  · have d1 : decide ((k : Int) < 0) = false := decide_eq_false (by omega)
    have d2 : decide ((1000000 : Int) < k) = false := decide_eq_false (by omega)
    have HN := Lib.hid (zN_yes (h := h) hk)
    have HE := Lib.hid (zE_yes hk)
    have hx := xor_lt hh allV_lt
    have HZ := Lib.hid (zeroBytes_any k w hE hk)
    go_enter Tryd.func18, Tryd.ntmps18
    go_wp2_with fail
    refine HZ.out.mono ?_
    rintro e w2 ⟨rfl, hb⟩
    have HR := Lib.hid (registerOf_any h w2 hh)
    have HO := Lib.hid (of_any (8 * k) (h ^^^ allV) w2 hx)
    go_wp2_with fail
    refine HR.out.mono ?_
    rintro e w3 ⟨rfl, rfl⟩
    go_wp2_with fail
    refine HO.out.mono ?_
    rintro e w4 ⟨rfl, hb4⟩
    have HC := Lib.hid (crc_any (halfN (8 * k) (h ^^^ allV)) w4 (halfN_lt hx))
    have HB := Lib.hid (hb.trans (hb4.mono hb.size))
    clear hb hb4
    go_wp2_with fail
    refine HC.out.mono ?_
    rintro e w3 ⟨rfl, rfl⟩
    go_wp2_with fail
    go_ret2
    exact ⟨by rw [HN.out, HE.out]; rfl, HB.out⟩

set_option maxHeartbeats 400000 in
theorem combine_any (a b : Nat) (n : Int) (w : World) (ha : a < 4294967296) (hb : b < 4294967296) (hE : Env w) :
    Calls Tryd.prog 20 #[.int .u32 a, .int .u32 b, .int .i64 n] w fun e w' => e = .returned (.tuple #[.int .u32 (cN a b n : Nat), .int .i64 (zE n)]) ∧ Below w.heap.size w w' := by
  rcases range_cases n with h1 | ⟨h0, h1⟩ | ⟨k, rfl, hk⟩
  · have d1 : decide (n < 0) = true := decide_eq_true h1
    have HN := Lib.hid (cN_not (a := a) (b := b) (.inl h1))
    have HE := Lib.hid (zE_not (.inl h1))
    clear h1
    go_enter Tryd.func20, Tryd.ntmps20
    go_wp2
    go_ret2
    exact ⟨by rw [HN.out, HE.out]; rfl, Below.refl _ _⟩
  · have d1 : decide (n < 0) = false := decide_eq_false h0
    have d2 : decide (1000000 < n) = true := decide_eq_true h1
    have HN := Lib.hid (cN_not (a := a) (b := b) (.inr h1))
    have HE := Lib.hid (zE_not (.inr h1))
    clear h1 h0
    go_enter Tryd.func20, Tryd.ntmps20
    go_wp2
    go_ret2
    exact ⟨by rw [HN.out, HE.out]; rfl, Below.refl _ _⟩
  · have d1 : decide ((k : Int) < 0) = false := decide_eq_false (by omega)
    have d2 : decide ((1000000 : Int) < k) = false := decide_eq_false (by omega)
    have HN := Lib.hid (cN_yes (a := a) (b := b) hk)
    have HE := Lib.hid (zE_yes hk)
    have HZ := Lib.hid (zeroBytes_any k w hE hk)
    have hx : bits .xor .u32 (halfN (8 * k) a : Nat) (b : Nat) = ((halfN (8 * k) a ^^^ b : Nat) : Int) := xor32 _ _ (halfN_lt ha) hb
    go_enter Tryd.func20, Tryd.ntmps20
    go_wp2_with fail
    refine HZ.out.mono ?_
    rintro e w2 ⟨rfl, hb⟩
    have HO := Lib.hid (of_any (8 * k) a w2 ha)
    go_wp2_with fail
    refine HO.out.mono ?_
    rintro e w4 ⟨rfl, hb4⟩
    have HB := Lib.hid (hb.trans (hb4.mono hb.size))
    clear hb hb4
    go_wp2_with fail
    go_ret2
    exact ⟨by rw [HN.out, HE.out]; rfl, HB.out⟩

/-! ### the reference -/
set_option maxHeartbeats 400000 in
theorem refZeros_any (h : Nat) (n : Int) (w : World) (hh : h < 4294967296) :
    Calls Tryd.prog 19 #[.int .u32 h, .int .i64 n] w fun e w' => e = .returned (.tuple #[.int .u32 (zN h n : Nat), .int .i64 (zE n)]) ∧ w = w' := by
  rcases range_cases n with h1 | ⟨h0, h1⟩ | ⟨k, rfl, hk⟩
  · have d1 : decide (n < 0) = true := decide_eq_true h1
    have HN := Lib.hid (zN_not (h := h) (.inl h1))
    have HE := Lib.hid (zE_not (.inl h1))
    clear h1
    go_enter Tryd.func19, Tryd.ntmps19
    go_wp2
    go_ret2
    exact ⟨by rw [HN.out, HE.out]; rfl, rfl⟩
  · have d1 : decide (n < 0) = false := decide_eq_false h0
    have d2 : decide (1000000 < n) = true := decide_eq_true h1
    have HN := Lib.hid (zN_not (h := h) (.inr h1))
    have HE := Lib.hid (zE_not (.inr h1))
    clear h1 h0
    go_enter Tryd.func19, Tryd.ntmps19
    go_wp2
    go_ret2
    exact ⟨by rw [HN.out, HE.out]; rfl, rfl⟩
  · have d1 : decide ((k : Int) < 0) = false := decide_eq_false (by omega)
    have d2 : decide ((1000000 : Int) < k) = false := decide_eq_false (by omega)
    have HN := Lib.hid (zN_yes (h := h) hk)
    have HE := Lib.hid (zE_yes hk)
    have hx0 : bits .xor .u32 (h : Int) 4294967295 = ((h ^^^ allV : Nat) : Int) := xor32 h allV hh allV_lt
    have hx1 := xor_lt hh allV_lt
    go_enter Tryd.func19, Tryd.ntmps19
    go_wp2_with fail
    go_loop [6, 7] (fun r i => ∃ j : Nat, j ≤ k ∧ i = .int .i64 j ∧ r = .int .u32 (zerosV j (h ^^^ allV) : Nat)) (fun _ i => k - (intOf i).toNat)
    case atStart => exact ⟨0, by omega, rfl, rfl⟩
    case round =>
      obtain ⟨j, hj, rfl, rfl⟩ := hrel
      clear hx0
      by_cases hlt : j < k
      · have HS := Lib.hid (zerosV_succ j (h ^^^ allV))
        have HX := Lib.hid (refStep_any (zerosV j (h ^^^ allV)) 0 w (zerosV_lt hx1) (by omega))
        go_wp2_with fail
        refine HX.out.mono ?_
        rintro e w2 ⟨rfl, rfl⟩
        go_wp2_with fail
        go_round
        case rel => exact ⟨j + 1, by omega, by go_num, by rw [HS.out]⟩
        case measure => simp [intOf]; omega
      · obtain rfl : j = k := by omega
        have hx : bits .xor .u32 ((zerosV j (h ^^^ allV) : Nat) : Int) 4294967295 = (zerosE h j : Nat) := xor32 _ allV (zerosV_lt hx1) allV_lt
        go_wp2_with fail
        go_ret2
        exact ⟨by rw [HN.out, HE.out]; rfl, rfl⟩

theorem cN_ref (a b : Nat) (n : Int) (h : inZ n = true) : zN a n ^^^ zN 0 n ^^^ b = cN a b n := by
  unfold zN cN; rw [if_pos h, if_pos h, if_pos h, combine_ref]
set_option maxHeartbeats 400000 in
theorem refCombine_any (a b : Nat) (n : Int) (w : World) (ha : a < 4294967296) (hb : b < 4294967296) :
    Calls Tryd.prog 21 #[.int .u32 a, .int .u32 b, .int .i64 n] w fun e w' => e = .returned (.tuple #[.int .u32 (cN a b n : Nat), .int .i64 (zE n)]) ∧ w = w' := by
  have HZ := Lib.hid (refZeros_any a n w ha)
  have HY := Lib.hid (refZeros_any 0 n w (by omega))
  cases hr : inZ n with
  | true =>
    have he : zE n = 0 := by unfold zE; rw [hr]; rfl
    have HE := Lib.hid he
    rw [he] at HZ HY
    have hx1 : bits .xor .u32 (zN a n : Nat) (zN 0 n : Nat) = ((zN a n ^^^ zN 0 n : Nat) : Int) := xor32 _ _ (zN_lt ha n) (zN_lt (by omega) n)
    have hx2 : bits .xor .u32 (zN a n ^^^ zN 0 n : Nat) (b : Nat) = (cN a b n : Nat) := by
      rw [xor32 _ _ (xor_lt (zN_lt ha n) (zN_lt (by omega) n)) hb, cN_ref a b n hr]
    clear he hr
    go_enter Tryd.func21, Tryd.ntmps21
    go_wp2_with fail
    refine HZ.out.mono ?_
    rintro e w2 ⟨rfl, rfl⟩
    go_wp2_with fail
    refine HY.out.mono ?_
    rintro e w2 ⟨rfl, rfl⟩
    go_wp2_with fail
    go_ret2
    exact ⟨by rw [HE.out]; rfl, rfl⟩
  | false =>
    have he : zE n = 7 := by unfold zE; rw [hr]; rfl
    have HE := Lib.hid he
    rw [he] at HZ HY
    have HN := Lib.hid (show cN a b n = 0 by unfold cN; rw [hr]; rfl)
    clear he hr
    go_enter Tryd.func21, Tryd.ntmps21
    go_wp2_with fail
    refine HZ.out.mono ?_
    rintro e w2 ⟨rfl, rfl⟩
    go_wp2_with fail
    refine HY.out.mono ?_
    rintro e w2 ⟨rfl, rfl⟩
    go_wp2_with fail
    go_ret2
    exact ⟨by rw [HE.out, HN.out]; rfl, rfl⟩
end Go.Proofs.YtadaohjphgpdnaaDoor
