/- And, Or, Xor. -/
import Derived.Test.YtaiaibpcpcndgaaCombine
namespace Go.Proofs.Ytaiaibpcpcndgaa
open Go.RowKit

set_option maxHeartbeats 1000000 in
theorem combine_len (b c : Nat) (L M : List Bool) (v : Value) (w : World) (hb : MapAt w b L) (hc : MapAt w c M) (hl : L.length ≠ M.length) :
    Calls Try.prog 53 #[.pointer (some ⟨b, 0, none⟩), .pointer (some ⟨c, 0, none⟩), v] w fun e w' => e = .returned (.tuple #[.pointer none, .int .i64 2]) ∧ Below w.heap.size w w' := by
  have HM1 := Lib.hid (isMade_any b L w hb)
  have HM2 := Lib.hid (isMade_any c M w hc)
  have h1 := hb.size
  have h2 := hc.size
  have hle : ((L.length : Int) != M.length) = true := by simp; omega
  clear hb hc hl
  go_enter Try.func53, Try.ntmps53
  go_wp2_with fail
  refine HM1.out.mono ?_
  rintro e w' ⟨rfl, rfl⟩
  go_wp2_with fail
  refine HM2.out.mono ?_
  rintro e w' ⟨rfl, rfl⟩
  go_wp2_with fail
  go_quiet (fail)
  go_wp2_with fail
  go_ret2
  exact ⟨rfl, ⟨rfl, rfl, rfl, Nat.le_refl _, fun _ _ => rfl⟩⟩

theorem combine_no1 (p q v : Value) (w : World) (hc : Calls Try.prog 51 #[p] w fun e w' => e = .returned (.bool false) ∧ w = w') :
    Calls Try.prog 53 #[p, q, v] w fun e w' => e = .returned (.tuple #[.pointer none, .int .i64 1]) ∧ w = w' := by
  have HC := Lib.hid hc
  clear hc
  go_enter Try.func53, Try.ntmps53
  go_wp2_with fail
  refine HC.out.mono ?_
  rintro e w' ⟨rfl, rfl⟩
  go_wp2_with fail
  go_ret2
  exact ⟨rfl, rfl⟩
theorem combine_no2 (b : Nat) (L : List Bool) (q v : Value) (w : World) (hb : MapAt w b L) (hc : Calls Try.prog 51 #[q] w fun e w' => e = .returned (.bool false) ∧ w = w') :
    Calls Try.prog 53 #[.pointer (some ⟨b, 0, none⟩), q, v] w fun e w' => e = .returned (.tuple #[.pointer none, .int .i64 1]) ∧ w = w' := by
  have HC := Lib.hid hc
  have HM1 := Lib.hid (isMade_any b L w hb)
  clear hc hb
  go_enter Try.func53, Try.ntmps53
  go_wp2_with fail
  refine HM1.out.mono ?_
  rintro e w' ⟨rfl, rfl⟩
  go_wp2_with fail
  refine HC.out.mono ?_
  rintro e w' ⟨rfl, rfl⟩
  go_wp2_with fail
  go_ret2
  exact ⟨rfl, rfl⟩

theorem and_any (b c : Nat) (L M : List Bool) (w : World) (hb : MapAt w b L) (hc : MapAt w c M) (hl : L.length = M.length) :
    Calls Try.prog 22 #[.pointer (some ⟨b, 0, none⟩), .pointer (some ⟨c, 0, none⟩)] w (NewPair (andL L M) w) := by
  have HC := Lib.hid (combine_and b c L M w hb hc hl)
  clear hb hc hl
  go_enter Try.func22, Try.ntmps22
  go_wp2_with fail
  refine HC.out.mono ?_
  rintro e w' ⟨r, rfl, h1, h2, h3⟩
  go_wp2_with fail
  go_ret2
  exact ⟨r, rfl, h1, h2, h3⟩
theorem and_len (b c : Nat) (L M : List Bool) (w : World) (hb : MapAt w b L) (hc : MapAt w c M) (hl : L.length ≠ M.length) :
    Calls Try.prog 22 #[.pointer (some ⟨b, 0, none⟩), .pointer (some ⟨c, 0, none⟩)] w fun e w' => e = .returned (.tuple #[.pointer none, .int .i64 2]) ∧ Below w.heap.size w w' := by
  have HC := Lib.hid (combine_len b c L M (.func (.func 54) #[] #[]) w hb hc hl)
  clear hb hc hl
  go_enter Try.func22, Try.ntmps22
  go_wp2_with fail
  refine HC.out.mono ?_
  rintro e w' ⟨rfl, h3⟩
  go_wp2_with fail
  go_ret2
  exact ⟨rfl, h3⟩
theorem and_no1 (p q : Value) (w : World) (hc : Calls Try.prog 51 #[p] w fun e w' => e = .returned (.bool false) ∧ w = w') :
    Calls Try.prog 22 #[p, q] w fun e w' => e = .returned (.tuple #[.pointer none, .int .i64 1]) ∧ w = w' := by
  have HC := Lib.hid (combine_no1 p q (.func (.func 54) #[] #[]) w hc)
  clear hc
  go_enter Try.func22, Try.ntmps22
  go_wp2_with fail
  refine HC.out.mono ?_
  rintro e w' ⟨rfl, rfl⟩
  go_wp2_with fail
  go_ret2
  exact ⟨rfl, rfl⟩
theorem and_no2 (b : Nat) (L : List Bool) (q : Value) (w : World) (hb : MapAt w b L) (hc : Calls Try.prog 51 #[q] w fun e w' => e = .returned (.bool false) ∧ w = w') :
    Calls Try.prog 22 #[.pointer (some ⟨b, 0, none⟩), q] w fun e w' => e = .returned (.tuple #[.pointer none, .int .i64 1]) ∧ w = w' := by
  have HC := Lib.hid (combine_no2 b L q (.func (.func 54) #[] #[]) w hb hc)
  clear hc hb
  go_enter Try.func22, Try.ntmps22
  go_wp2_with fail
  refine HC.out.mono ?_
  rintro e w' ⟨rfl, rfl⟩
  go_wp2_with fail
  go_ret2
  exact ⟨rfl, rfl⟩

theorem or_any (b c : Nat) (L M : List Bool) (w : World) (hb : MapAt w b L) (hc : MapAt w c M) (hl : L.length = M.length) :
    Calls Try.prog 23 #[.pointer (some ⟨b, 0, none⟩), .pointer (some ⟨c, 0, none⟩)] w (NewPair (orL L M) w) := by
  have HC := Lib.hid (combine_or b c L M w hb hc hl)
  clear hb hc hl
  go_enter Try.func23, Try.ntmps23
  go_wp2_with fail
  refine HC.out.mono ?_
  rintro e w' ⟨r, rfl, h1, h2, h3⟩
  go_wp2_with fail
  go_ret2
  exact ⟨r, rfl, h1, h2, h3⟩
theorem or_len (b c : Nat) (L M : List Bool) (w : World) (hb : MapAt w b L) (hc : MapAt w c M) (hl : L.length ≠ M.length) :
    Calls Try.prog 23 #[.pointer (some ⟨b, 0, none⟩), .pointer (some ⟨c, 0, none⟩)] w fun e w' => e = .returned (.tuple #[.pointer none, .int .i64 2]) ∧ Below w.heap.size w w' := by
  have HC := Lib.hid (combine_len b c L M (.func (.func 55) #[] #[]) w hb hc hl)
  clear hb hc hl
  go_enter Try.func23, Try.ntmps23
  go_wp2_with fail
  refine HC.out.mono ?_
  rintro e w' ⟨rfl, h3⟩
  go_wp2_with fail
  go_ret2
  exact ⟨rfl, h3⟩
theorem or_no1 (p q : Value) (w : World) (hc : Calls Try.prog 51 #[p] w fun e w' => e = .returned (.bool false) ∧ w = w') :
    Calls Try.prog 23 #[p, q] w fun e w' => e = .returned (.tuple #[.pointer none, .int .i64 1]) ∧ w = w' := by
  have HC := Lib.hid (combine_no1 p q (.func (.func 55) #[] #[]) w hc)
  clear hc
  go_enter Try.func23, Try.ntmps23
  go_wp2_with fail
  refine HC.out.mono ?_
  rintro e w' ⟨rfl, rfl⟩
  go_wp2_with fail
  go_ret2
  exact ⟨rfl, rfl⟩
theorem or_no2 (b : Nat) (L : List Bool) (q : Value) (w : World) (hb : MapAt w b L) (hc : Calls Try.prog 51 #[q] w fun e w' => e = .returned (.bool false) ∧ w = w') :
    Calls Try.prog 23 #[.pointer (some ⟨b, 0, none⟩), q] w fun e w' => e = .returned (.tuple #[.pointer none, .int .i64 1]) ∧ w = w' := by
  have HC := Lib.hid (combine_no2 b L q (.func (.func 55) #[] #[]) w hb hc)
  clear hc hb
  go_enter Try.func23, Try.ntmps23
  go_wp2_with fail
  refine HC.out.mono ?_
  rintro e w' ⟨rfl, rfl⟩
  go_wp2_with fail
  go_ret2
  exact ⟨rfl, rfl⟩

theorem xor_any (b c : Nat) (L M : List Bool) (w : World) (hb : MapAt w b L) (hc : MapAt w c M) (hl : L.length = M.length) :
    Calls Try.prog 24 #[.pointer (some ⟨b, 0, none⟩), .pointer (some ⟨c, 0, none⟩)] w (NewPair (xorL L M) w) := by
  have HC := Lib.hid (combine_xor b c L M w hb hc hl)
  clear hb hc hl
  go_enter Try.func24, Try.ntmps24
  go_wp2_with fail
  refine HC.out.mono ?_
  rintro e w' ⟨r, rfl, h1, h2, h3⟩
  go_wp2_with fail
  go_ret2
  exact ⟨r, rfl, h1, h2, h3⟩
theorem xor_len (b c : Nat) (L M : List Bool) (w : World) (hb : MapAt w b L) (hc : MapAt w c M) (hl : L.length ≠ M.length) :
    Calls Try.prog 24 #[.pointer (some ⟨b, 0, none⟩), .pointer (some ⟨c, 0, none⟩)] w fun e w' => e = .returned (.tuple #[.pointer none, .int .i64 2]) ∧ Below w.heap.size w w' := by
  have HC := Lib.hid (combine_len b c L M (.func (.func 56) #[] #[]) w hb hc hl)
  clear hb hc hl
  go_enter Try.func24, Try.ntmps24
  go_wp2_with fail
  refine HC.out.mono ?_
  rintro e w' ⟨rfl, h3⟩
  go_wp2_with fail
  go_ret2
  exact ⟨rfl, h3⟩
theorem xor_no1 (p q : Value) (w : World) (hc : Calls Try.prog 51 #[p] w fun e w' => e = .returned (.bool false) ∧ w = w') :
    Calls Try.prog 24 #[p, q] w fun e w' => e = .returned (.tuple #[.pointer none, .int .i64 1]) ∧ w = w' := by
  have HC := Lib.hid (combine_no1 p q (.func (.func 56) #[] #[]) w hc)
  clear hc
  go_enter Try.func24, Try.ntmps24
  go_wp2_with fail
  refine HC.out.mono ?_
  rintro e w' ⟨rfl, rfl⟩
  go_wp2_with fail
  go_ret2
  exact ⟨rfl, rfl⟩
theorem xor_no2 (b : Nat) (L : List Bool) (q : Value) (w : World) (hb : MapAt w b L) (hc : Calls Try.prog 51 #[q] w fun e w' => e = .returned (.bool false) ∧ w = w') :
    Calls Try.prog 24 #[.pointer (some ⟨b, 0, none⟩), q] w fun e w' => e = .returned (.tuple #[.pointer none, .int .i64 1]) ∧ w = w' := by
  have HC := Lib.hid (combine_no2 b L q (.func (.func 56) #[] #[]) w hb hc)
  clear hc hb
  go_enter Try.func24, Try.ntmps24
  go_wp2_with fail
  refine HC.out.mono ?_
  rintro e w' ⟨rfl, rfl⟩
  go_wp2_with fail
  go_ret2
  exact ⟨rfl, rfl⟩
end Go.Proofs.Ytaiaibpcpcndgaa
