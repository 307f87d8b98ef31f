/- firstByte as one function of the bytes; the quoted form at the beginning of a string. -/
import Derived.Test.YtnmkcohfhomenaaDoorFirstY
namespace Go.Proofs.YtnmkcohfhomenaaDoor
open Go.RowKit

def hexB (x y : UInt8) : UInt8 := UInt8.ofNat (hexD x.toNat * 16 + hexD y.toNat).toNat
/-- The byte that a string says first inside quotes, and in how many bytes; 0: it says none. -/
def firstB (l : List UInt8) : UInt8 × Nat :=
  match l with
  | [] => (0, 0)
  | a :: r =>
    if plainB a.toNat then (a, 1) else if a.toNat ≠ 92 then (0, 0) else
    match r with
    | [] => (0, 0)
    | b :: r2 =>
      if b.toNat = 34 then (34, 2) else if b.toNat = 92 then (92, 2) else if b.toNat = 110 then (10, 2) else if b.toNat = 114 then (13, 2) else if b.toNat = 116 then (9, 2) else
      if b.toNat ≠ 120 then (0, 0) else
      match r2 with
      | x :: y :: _ => if hexD x.toNat < 16 ∧ hexD y.toNat < 16 then (if encB (hexB x y) = [a, b, x, y] then (hexB x y, 4) else (0, 0)) else (0, 0)
      | _ => (0, 0)

def firstV (l : List UInt8) : Value := .tuple #[.int .u8 (firstB l).1.toNat, .int .i64 (firstB l).2]

theorem p92 : plainB 92 = false := by decide
theorem dig_of (x : UInt8) (h : hexD x.toNat < 16) : Dig x.toNat (hexD x.toNat) := by
  have := x.toNat_lt
  exact ⟨by omega, by omega, hexD_0 _, by omega, hexD_yes _ h⟩
theorem noDig_of (x : UInt8) (h : ¬ hexD x.toNat < 16) : NoDig x.toNat := by
  have := x.toNat_lt
  have := hexD_no _ h
  exact ⟨by omega, by omega, this.1, this.2⟩
theorem hexB_val (x y : UInt8) (hx : hexD x.toNat < 16) (hy : hexD y.toNat < 16) : ((hexB x y).toNat : Int) = hexD x.toNat * 16 + hexD y.toNat := by
  have := hexD_0 x.toNat; have := hexD_0 y.toNat
  unfold hexB
  rw [UInt8.toNat_ofNat']
  omega

theorem firstByte_list (l : List UInt8) (w : World) (h0 : l ≠ []) (hE : Env w) :
    Calls Tryd.prog 69 #[.string ⟨⟨l⟩⟩] w fun e w' => e = .returned (firstV l) ∧ Below w.heap.size w w' := by
  match l, h0 with
  | a :: r, _ =>
    by_cases hp : plainB a.toNat = true
    · refine (firstByte_plain ⟨⟨a :: r⟩⟩ w (show 0 < r.length + 1 by omega) hp).mono ?_
      rintro e w' ⟨rfl, rfl⟩
      exact ⟨by simp only [firstV, firstB, hp, if_true]; rfl, Below.refl _ _⟩
    · have hp' : plainB a.toNat = false := by simpa using hp
      by_cases h92 : a.toNat = 92
      · match r with
        | [] =>
          refine (firstByte_none ⟨⟨[a]⟩⟩ w (show 0 < 1 by omega) hp' (.inr (show 1 < 2 by omega))).mono ?_
          rintro e w' ⟨rfl, rfl⟩
          exact ⟨by simp [firstV, firstB, hp', p92, h92], Below.refl _ _⟩
        | b :: r2 =>
          have hs : 2 ≤ (⟨⟨a :: b :: r2⟩⟩ : ByteArray).size := show 2 ≤ r2.length + 2 by omega
          have h92' : (a.toNat : Int) = 92 := by omega
          by_cases g1 : b.toNat = 34
          · refine (firstByte_quot ⟨⟨a :: b :: r2⟩⟩ w hE hs hp' h92' (show (b.toNat : Int) = 34 by omega)).mono ?_
            rintro e w' ⟨rfl, hB⟩
            exact ⟨by simp [firstV, firstB, hp', p92, h92, g1], hB⟩
          by_cases g2 : b.toNat = 92
          · refine (firstByte_back ⟨⟨a :: b :: r2⟩⟩ w hE hs hp' h92' (show (b.toNat : Int) = 92 by omega)).mono ?_
            rintro e w' ⟨rfl, hB⟩
            exact ⟨by simp [firstV, firstB, hp', p92, h92, g2], hB⟩
          by_cases g3 : b.toNat = 110
          · refine (firstByte_lf ⟨⟨a :: b :: r2⟩⟩ w hE hs hp' h92' (show (b.toNat : Int) = 110 by omega)).mono ?_
            rintro e w' ⟨rfl, hB⟩
            exact ⟨by simp [firstV, firstB, hp', p92, h92, g3], hB⟩
          by_cases g4 : b.toNat = 114
          · refine (firstByte_cr ⟨⟨a :: b :: r2⟩⟩ w hE hs hp' h92' (show (b.toNat : Int) = 114 by omega)).mono ?_
            rintro e w' ⟨rfl, hB⟩
            exact ⟨by simp [firstV, firstB, hp', p92, h92, g4], hB⟩
          by_cases g5 : b.toNat = 116
          · refine (firstByte_tab ⟨⟨a :: b :: r2⟩⟩ w hE hs hp' h92' (show (b.toNat : Int) = 116 by omega)).mono ?_
            rintro e w' ⟨rfl, hB⟩
            exact ⟨by simp [firstV, firstB, hp', p92, h92, g5], hB⟩
          have hn : NoLet b.toNat := ⟨by omega, by omega, by omega, by omega, by omega⟩
          by_cases g6 : b.toNat = 120
          · match r2 with
            | [] =>
              refine (firstByte_nox ⟨⟨[a, b]⟩⟩ w hE hs hp' h92' hn (.inr (show 2 < 4 by omega))).mono ?_
              rintro e w' ⟨rfl, hB⟩
              exact ⟨by simp [firstV, firstB, hp', p92, h92, g6], hB⟩
            | [x] =>
              refine (firstByte_nox ⟨⟨[a, b, x]⟩⟩ w hE hs hp' h92' hn (.inr (show 3 < 4 by omega))).mono ?_
              rintro e w' ⟨rfl, hB⟩
              exact ⟨by simp [firstV, firstB, hp', p92, h92, g6], hB⟩
            | x :: y :: r3 =>
              have h4 : 4 ≤ (⟨⟨a :: b :: x :: y :: r3⟩⟩ : ByteArray).size := show 4 ≤ r3.length + 4 by omega
              have g6' : (b.toNat : Int) = 120 := by omega
              by_cases hx : hexD x.toNat < 16
              · by_cases hy : hexD y.toNat < 16
                · refine (firstByte_hexyes ⟨⟨a :: b :: x :: y :: r3⟩⟩ w hE hs hp' h92' hn g6' h4 _ _ (dig_of x hx) (dig_of y hy) (hexB x y) (hexB_val x y hx hy)).mono ?_
                  rintro e w' ⟨rfl, hB⟩
                  refine ⟨congrArg Ending.returned ?_, hB⟩
                  show (if encB (hexB x y) = [a, b, x, y] then _ else _) = _
                  simp only [firstV, firstB, hp', p92, h92, g6, hx, hy]
                  by_cases he : encB (hexB x y) = [a, b, x, y] <;> simp [he, p92]
                · refine (firstByte_hexno ⟨⟨a :: b :: x :: y :: r3⟩⟩ w hE hs hp' h92' hn g6' h4 (hexD x.toNat) (.inr ⟨dig_of x hx, noDig_of y hy⟩)).mono ?_
                  rintro e w' ⟨rfl, hB⟩
                  exact ⟨by simp [firstV, firstB, hp', p92, h92, g6, hy], hB⟩
              · refine (firstByte_hexno ⟨⟨a :: b :: x :: y :: r3⟩⟩ w hE hs hp' h92' hn g6' h4 0 (.inl (noDig_of x hx))).mono ?_
                rintro e w' ⟨rfl, hB⟩
                exact ⟨by simp [firstV, firstB, hp', p92, h92, g6, hx], hB⟩
          · refine (firstByte_nox ⟨⟨a :: b :: r2⟩⟩ w hE hs hp' h92' hn (.inl (show (b.toNat : Int) ≠ 120 by omega))).mono ?_
            rintro e w' ⟨rfl, hB⟩
            exact ⟨by simp [firstV, firstB, hp', p92, h92, g1, g2, g3, g4, g5, g6], hB⟩
      · refine (firstByte_none ⟨⟨a :: r⟩⟩ w (show 0 < r.length + 1 by omega) hp' (.inl (show (a.toNat : Int) ≠ 92 by omega))).mono ?_
        rintro e w' ⟨rfl, rfl⟩
        exact ⟨by simp [firstV, firstB, hp', p92, h92], Below.refl _ _⟩

theorem firstByte_any (s : ByteArray) (w : World) (h0 : 0 < s.size) (hE : Env w) :
    Calls Tryd.prog 69 #[.string s] w fun e w' => e = .returned (firstV s.data.toList) ∧ Below w.heap.size w w' := by
  refine firstByte_list s.data.toList w (fun h => ?_) hE
  have := size_len s; rw [h] at this; simp at this; omega
end Go.Proofs.YtnmkcohfhomenaaDoor
