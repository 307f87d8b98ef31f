/- The law RecordsOne: the walk. -/
import Derived.Test.YtnocmkjaifjgfaaRValC
import Derived.Test.YtnocmkjaifjgfaaRShown
namespace Go.Proofs.Ytnocmkjaifjgfaa.R
open Go.RowKit

set_option maxHeartbeats 4000000 in
set_option maxRecDepth 100000 in
theorem recordsOne_any (s : ByteArray) (a : Option Addr) (d : Nat) (b : List UInt8) (w : World) (hs : s.size ≤ maxLen) (hd : b.length ≤ d) (hb : BytesAt w (.slice a b.length d) b) (hl : b.length ≤ maxLen) :
    Calls Try.prog 6 #[.string s, .slice a b.length d] w fun e w' => e = .returned (.bool true) ∧ Below w.heap.size w w' := by
  have HSH := Lib.hid (fun w => shown_any w)
  have HB := Lib.hid hb
  have HD := Lib.hid (decode_any s _ b w hs ⟨a, d, rfl, hd⟩ hb hl)
  have HML := Lib.hid hs
  have hs' := hs
  have hl' := hl
  unfold maxLen at hs' hl'
  clear hs hl hb
  by_cases h1 : 70 < s.size
  · have d1 : decide ((70 : Int) < s.size) = true := decide_eq_true (by omega)
    clear h1
    go_enter Try.func6, Try.ntmps6
    go_wp2_with fail
    refine (HSH.out _).mono ?_
    rintro e w2 ⟨rfl, hB⟩
    go_wp2_with fail
    go_ret
    exact ⟨rfl, hB⟩
  have d1 : decide ((70 : Int) < s.size) = false := decide_eq_false (by omega)
  clear h1
  by_cases h2 : 6000 < b.length
  · have d2 : decide ((6000 : Int) < b.length) = true := decide_eq_true (by omega)
    clear h2
    go_enter Try.func6, Try.ntmps6
    go_wp2_with fail
    refine (HSH.out _).mono ?_
    rintro e w2 ⟨rfl, hB⟩
    go_wp2_with fail
    go_ret
    exact ⟨rfl, hB⟩
  have d2 : decide ((6000 : Int) < b.length) = false := decide_eq_false (by omega)
  clear h2
  by_cases he : (decR s.data.toList b).2.2 = 0
  · obtain ⟨e1, e2, e3, e4, e5⟩ := one_rec he
    have h5 := (formE_kind (encE_0 e1).1).1
    have HEN := Lib.hid (fun (v : Value) (W : World) (hv : ValsAt W v (decR s.data.toList b).1) => encode_any s v _ W HML.out hv e3 (by unfold maxLen; omega))
    unfold EncPost at HEN
    rw [e1, e2] at HEN
    rw [he] at HD
    generalize decR s.data.toList b = r at *
    obtain ⟨rl, rn, re⟩ := r
    simp only [] at HD HEN e4
    have d3 : decide ((0 : Int) ≤ rn) = true := decide_eq_true (by omega)
    have d4 : decide (rn ≤ b.length) = true := decide_eq_true e4
    have hrd : rn ≤ d := by omega
    have HSM := Lib.hid (fun (W : World) (u : Value) (h1 : BytesAt W u (b.take rn)) (h2 : BytesAt W (.slice a rn d) (b.take rn)) => same_any u _ _ W h1 h2 (by rw [List.length_take]; unfold maxLen; omega))
    clear e1 e2 e3 e5 h5 he
    go_enter Try.func6, Try.ntmps6
    go_wp2_with fail
    refine HD.out.mono ?_
    rintro e w2 ⟨u, rfl, hu, hB2⟩
    have HE2 := Lib.hid (HEN.out u w2 hu)
    obtain ⟨au, du, rfl⟩ := hu.shape
    have HB2 := Lib.hid hB2
    clear hu hB2
    go_wp2_with fail
    refine HE2.out.mono ?_
    rintro e w3 ⟨c, rfl, hc, hB3⟩
    have HB3 := Lib.hid (HB2.out.trans (hB3.mono HB2.out.size))
    have HC := Lib.hid (HSM.out w3 c hc ((HB.out.below HB3.out (Nat.le_refl _)).take rn e4))
    obtain ⟨ac, dc, rfl⟩ : ∃ x y, c = .slice x rn y := by
      obtain ⟨x, y, h⟩ := hc.shape
      exact ⟨x, y, by rw [h, List.length_take, Nat.min_eq_left e4]⟩
    clear hc hB3
    go_wp2_with fail
    refine HC.out.mono ?_
    rintro e w4 ⟨rfl, hB4⟩
    have HB4 := Lib.hid (HB3.out.trans (hB4.mono HB3.out.size))
    clear hB4
    go_wp2_with fail
    refine (HSH.out _).mono ?_
    rintro e w5 ⟨rfl, hB5⟩
    go_wp2_with fail
    go_ret
    exact ⟨rfl, HB4.out.trans (hB5.mono HB4.out.size)⟩
  · obtain ⟨e1, e2⟩ := decR_bad he
    have hz : (((decR s.data.toList b).2.2 : Int) == 0) = false := by simp; omega
    rw [e1, e2] at HD
    generalize (decR s.data.toList b).2.2 = q at *
    clear e1 e2 he
    go_enter Try.func6, Try.ntmps6
    go_wp2_with fail
    refine HD.out.mono ?_
    rintro e w2 ⟨u, rfl, hu, hB2⟩
    obtain ⟨au, du, rfl⟩ := hu.shape
    have HB2 := Lib.hid hB2
    clear hu hB2
    go_wp2_with fail
    refine (HSH.out _).mono ?_
    rintro e w5 ⟨rfl, hB5⟩
    go_wp2_with fail
    go_ret
    exact ⟨rfl, HB2.out.trans (hB5.mono HB2.out.size)⟩
end Go.Proofs.Ytnocmkjaifjgfaa.R
