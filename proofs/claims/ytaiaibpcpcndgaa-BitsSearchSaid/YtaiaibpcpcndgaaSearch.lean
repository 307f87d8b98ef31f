/- BitsSearch: the walk. -/
import Derived.Test.YtaiaibpcpcndgaaMade
import Derived.Test.YtaiaibpcpcndgaaAwake
namespace Go.Proofs.Ytaiaibpcpcndgaa
open Go.RowKit

theorem countTo_none (L : List Bool) (a : Nat) : ∀ k, (∀ j, a ≤ j → j < a + k → L.getD j false = false) → countTo L a k = 0
  | 0, _ => rfl
  | k + 1, h => by rw [countTo, countTo_none L a k (fun j h1 h2 => h j h1 (by omega)), h (a + k) (by omega) (by omega)]; rfl
theorem countTo_all (L : List Bool) (a : Nat) : ∀ k, (∀ j, a ≤ j → j < a + k → L.getD j false = true) → countTo L a k = k
  | 0, _ => rfl
  | k + 1, h => by rw [countTo, countTo_all L a k (fun j h1 h2 => h j h1 (by omega)), h (a + k) (by omega) (by omega)]; rfl

/-- What is asked of Next, v being what is looked for: the number that Count gives, between from and the end. -/
def wantN (v : Bool) (a e : Nat) : Int := if v then 0 else (e : Int) - a
theorem count_between (b : Nat) (L : List Bool) (v : Bool) (a e : Nat) (w : World) (h : MapAt w b L) (ha : a ≤ e) (he : e ≤ L.length) (hno : ∀ j, a ≤ j → j < e → L.getD j false ≠ v) :
    Calls Try.prog 30 #[.pointer (some ⟨b, 0, none⟩), .int .i64 a, .int .i64 ((e : Int) - a)] w fun r w' => r = .returned (.tuple #[.int .i64 (wantN v a e), .int .i64 0]) ∧ w = w' := by
  have hL := h.2
  have hr : inR L.length a ((e : Int) - a) = true := by unfold inR; exact decide_eq_true (by omega)
  have hc := count_any b L a ((e : Int) - a) w h (by omega) (by omega) (by omega) (by omega)
  rw [lookE_of hr] at hc
  have hv : countN L a ((e : Int) - a) = wantN v a e := by
    unfold countN; rw [hr, if_pos rfl]
    have e1 : ((a : Int)).toNat = a := by omega
    have e2 : ((e : Int) - a).toNat = e - a := by omega
    rw [e1, e2]
    unfold wantN
    cases v with
    | true => rw [countTo_none L a (e - a) (fun j h1 h2 => by have := hno j h1 (by omega); simpa using this)]; rfl
    | false => rw [countTo_all L a (e - a) (fun j h1 h2 => by have := hno j h1 (by omega); simpa using this)]; simp; omega
  rw [hv] at hc
  exact hc

/-- Next, as the law asks of it. -/
theorem next_ways (L : List Bool) (from_ : Int) (v : Bool) :
    (inR L.length from_ 0 = false ∧ nextN L from_ v = 0 ∧ nextE L from_ v = 7) ∨
    (∃ a i : Nat, from_ = a ∧ a ≤ i ∧ i < L.length ∧ L.getD i false = v ∧ (∀ j, a ≤ j → j < i → L.getD j false ≠ v) ∧ nextN L from_ v = i ∧ nextE L from_ v = 0) ∨
    (∃ a : Nat, from_ = a ∧ a ≤ L.length ∧ (∀ j, a ≤ j → j < L.length → L.getD j false ≠ v) ∧ nextN L from_ v = 0 ∧ nextE L from_ v = 4) := by
  cases hr : inR L.length from_ 0 with
  | false => exact .inl ⟨rfl, by unfold nextN; rw [hr]; rfl, by unfold nextE; rw [hr]; rfl⟩
  | true =>
    right
    obtain ⟨a, z, rfl, _, ha⟩ := inR_two hr
    have e1 : nextN L a v = oN (nextO L v a) := by unfold nextN; rw [hr]; rfl
    have e2 : nextE L a v = oE (nextO L v a) := by unfold nextE; rw [hr]; rfl
    rcases nextO_spec L v a with ⟨i, h, h1, h2, h3, h4⟩ | ⟨h, h4⟩
    · exact .inl ⟨a, i, rfl, h1, h2, h3, h4, by rw [e1, h]; rfl, by rw [e2, h]; rfl⟩
    · exact .inr ⟨a, rfl, by omega, h4, by rw [e1, h]; rfl, by rw [e2, h]; rfl⟩
theorem get_at (b : Nat) (L : List Bool) (v : Bool) (i : Nat) (w : World) (h : MapAt w b L) (hi : i < L.length) (hv : L.getD i false = v) :
    Calls Try.prog 32 #[.pointer (some ⟨b, 0, none⟩), .int .i64 i] w fun r w' => r = .returned (.tuple #[.bool v, .int .i64 0]) ∧ w = w' := by
  have hL := h.2
  have hr : inR L.length i 1 = true := by unfold inR; exact decide_eq_true (by omega)
  have hc := get_any b L i w h (by omega) (by omega)
  have e : getV L i = v := by unfold getV; rw [hr, if_pos rfl]; exact hv
  rw [e, lookE_of hr] at hc
  exact hc
theorem last_at (b : Nat) (L : List Bool) (v : Bool) (i : Nat) (w : World) (h : MapAt w b L) (hi : i < L.length) (hv : L.getD i false = v) :
    Calls Try.prog 33 #[.pointer (some ⟨b, 0, none⟩), .int .i64 ((i : Int) + 1), .bool v] w fun r w' => r = .returned (.tuple #[.int .i64 i, .int .i64 0]) ∧ w = w' := by
  have hL := h.2
  have hr : inR L.length ((i : Int) + 1) 0 = true := by unfold inR; exact decide_eq_true (by omega)
  have hc := last_any b L ((i : Int) + 1) v w h (by omega) (by omega)
  have ho : lastO L v (i + 1) = some i := lastO_some (by omega) hv (fun j h1 h2 => by omega)
  have e0 : ((i : Int) + 1).toNat = i + 1 := by omega
  have e1 : lastN L ((i : Int) + 1) v = i := by unfold lastN; rw [hr, if_pos rfl, e0, ho]; rfl
  have e2 : lastE L ((i : Int) + 1) v = 0 := by unfold lastE; rw [hr, if_pos rfl, e0, ho]; rfl
  rw [e1, e2] at hc
  exact hc

set_option maxHeartbeats 4000000 in
set_option maxRecDepth 100000 in
theorem bitsSearch_any (n : Nat) (u : Value) (l : List UInt8) (from_ : Int) (w : World) (hn : n ≤ 65535) (hv : BytesAt w u l) (hl : l.length ≤ maxLen) (l0 : -9223372036854775808 ≤ from_) (l1 : from_ ≤ 9223372036854775807) :
    Calls Try.prog 7 #[.int .u16 n, u, .int .i64 from_] w fun e w' => e = .returned (.bool true) ∧ Below w.heap.size w w' := by
  have H0 := Lib.hid (made_any n u l w hn hv hl)
  clear hv hl
  go_enter Try.func7, Try.ntmps7
  go_wp2_with fail
  refine H0.out.mono ?_
  rintro e w1 ⟨b, v1, L, rfl, hL, hm, hba, hb0, hB, -⟩
  have HM := Lib.hid hm
  have hLl := hm.2
  clear hL hm hba H0
  go_wp2_with fail
  go_loopw [9] (fun i wr => ∃ k : Nat, k ≤ 2 ∧ i = .int .i64 k ∧ wr = w1) (fun i _ => 2 - (intOf i).toNat)
  case atStart => exact ⟨0, by omega, rfl, rfl⟩
  case round =>
    obtain ⟨k, hk, rfl, rfl⟩ := hrel
    have HN := Lib.hid (len_any b L wr HM.out)
    have hcases : k = 0 ∨ k = 1 ∨ k = 2 := by omega
    rcases hcases with rfl | rfl | rfl
    · have HX := Lib.hid (next_any b L from_ false wr HM.out l0 l1)
      rcases next_ways L from_ false with ⟨hr, e1, e2⟩ | ⟨a, i, rfl, hai, hiL, hgi, hno, e1, e2⟩ | ⟨a, rfl, haL, hno, e1, e2⟩
      · rw [e1, e2] at HX
        have hr' : from_ < 0 ∨ (L.length : Int) < from_ := by
          have := of_decide_eq_false (show decide (0 ≤ from_ ∧ (0 : Int) ≤ 0 ∧ from_ + 0 ≤ (L.length : Int)) = false from hr)
          omega
        clear e1 e2 hr
        rcases hr' with h0 | h0
        · have d1 : decide (0 ≤ from_) = false := decide_eq_false (by omega)
          go_wp2_with fail
          refine HX.out.mono ?_
          rintro e w' ⟨rfl, rfl⟩
          go_wp2_with fail
          go_roundw
          case rel => exact ⟨0 + 1, by omega, by go_num, trivial⟩
          case measure => simp [intOf]
        · have d1 : decide (0 ≤ from_) = true := decide_eq_true (by omega)
          have d2 : decide (from_ ≤ (L.length : Int)) = false := decide_eq_false (by omega)
          go_wp2_with fail
          refine HX.out.mono ?_
          rintro e w' ⟨rfl, rfl⟩
          go_wp2_with fail
          refine HN.out.mono ?_
          rintro e w' ⟨rfl, rfl⟩
          go_wp2_with fail
          go_roundw
          case rel => exact ⟨0 + 1, by omega, by go_num, trivial⟩
          case measure => simp [intOf]
      · rw [e1, e2] at HX
        have HC := Lib.hid (count_between b L false a i wr HM.out hai (by omega) hno)
        have HG := Lib.hid (get_at b L false i wr HM.out hiL hgi)
        have HLa := Lib.hid (last_at b L false i wr HM.out hiL hgi)
        have HW := Lib.hid (show wantN false a i = (i : Int) - a from rfl)
        rw [HW.out] at HC
        clear e1 e2 hno hgi
        go_wp2_with fail
        refine HX.out.mono ?_
        rintro e w' ⟨rfl, rfl⟩
        go_wp2_with fail
        refine HN.out.mono ?_
        rintro e w' ⟨rfl, rfl⟩
        go_wp2_with fail
        refine HC.out.mono ?_
        rintro e w' ⟨rfl, rfl⟩
        go_wp2_with fail
        refine HG.out.mono ?_
        rintro e w' ⟨rfl, rfl⟩
        go_wp2_with fail
        refine HLa.out.mono ?_
        rintro e w' ⟨rfl, rfl⟩
        go_wp2_with fail
        go_roundw
        case rel => exact ⟨0 + 1, by omega, by go_num, trivial⟩
        case measure => simp [intOf]
      · rw [e1, e2] at HX
        have HC := Lib.hid (count_between b L false a L.length wr HM.out haL (by omega) hno)
        have HW := Lib.hid (show wantN false a L.length = (L.length : Int) - a from rfl)
        rw [HW.out] at HC
        clear e1 e2 hno
        go_wp2_with fail
        refine HX.out.mono ?_
        rintro e w' ⟨rfl, rfl⟩
        go_wp2_with fail
        refine HN.out.mono ?_
        rintro e w' ⟨rfl, rfl⟩
        go_wp2_with fail
        refine HN.out.mono ?_
        rintro e w' ⟨rfl, rfl⟩
        go_wp2_with fail
        refine HC.out.mono ?_
        rintro e w' ⟨rfl, rfl⟩
        go_wp2_with fail
        go_roundw
        case rel => exact ⟨0 + 1, by omega, by go_num, trivial⟩
        case measure => simp [intOf]
    · have HX := Lib.hid (next_any b L from_ true wr HM.out l0 l1)
      rcases next_ways L from_ true with ⟨hr, e1, e2⟩ | ⟨a, i, rfl, hai, hiL, hgi, hno, e1, e2⟩ | ⟨a, rfl, haL, hno, e1, e2⟩
      · rw [e1, e2] at HX
        have hr' : from_ < 0 ∨ (L.length : Int) < from_ := by
          have := of_decide_eq_false (show decide (0 ≤ from_ ∧ (0 : Int) ≤ 0 ∧ from_ + 0 ≤ (L.length : Int)) = false from hr)
          omega
        clear e1 e2 hr
        rcases hr' with h0 | h0
        · have d1 : decide (0 ≤ from_) = false := decide_eq_false (by omega)
          go_wp2_with fail
          refine HX.out.mono ?_
          rintro e w' ⟨rfl, rfl⟩
          go_wp2_with fail
          go_roundw
          case rel => exact ⟨1 + 1, by omega, by go_num, trivial⟩
          case measure => simp [intOf]
        · have d1 : decide (0 ≤ from_) = true := decide_eq_true (by omega)
          have d2 : decide (from_ ≤ (L.length : Int)) = false := decide_eq_false (by omega)
          go_wp2_with fail
          refine HX.out.mono ?_
          rintro e w' ⟨rfl, rfl⟩
          go_wp2_with fail
          refine HN.out.mono ?_
          rintro e w' ⟨rfl, rfl⟩
          go_wp2_with fail
          go_roundw
          case rel => exact ⟨1 + 1, by omega, by go_num, trivial⟩
          case measure => simp [intOf]
      · rw [e1, e2] at HX
        have HC := Lib.hid (count_between b L true a i wr HM.out hai (by omega) hno)
        have HG := Lib.hid (get_at b L true i wr HM.out hiL hgi)
        have HLa := Lib.hid (last_at b L true i wr HM.out hiL hgi)
        have HW := Lib.hid (show wantN true a i = 0 from rfl)
        rw [HW.out] at HC
        clear e1 e2 hno hgi
        go_wp2_with fail
        refine HX.out.mono ?_
        rintro e w' ⟨rfl, rfl⟩
        go_wp2_with fail
        refine HN.out.mono ?_
        rintro e w' ⟨rfl, rfl⟩
        go_wp2_with fail
        refine HC.out.mono ?_
        rintro e w' ⟨rfl, rfl⟩
        go_wp2_with fail
        refine HG.out.mono ?_
        rintro e w' ⟨rfl, rfl⟩
        go_wp2_with fail
        refine HLa.out.mono ?_
        rintro e w' ⟨rfl, rfl⟩
        go_wp2_with fail
        go_roundw
        case rel => exact ⟨1 + 1, by omega, by go_num, trivial⟩
        case measure => simp [intOf]
      · rw [e1, e2] at HX
        have HC := Lib.hid (count_between b L true a L.length wr HM.out haL (by omega) hno)
        have HW := Lib.hid (show wantN true a L.length = 0 from rfl)
        rw [HW.out] at HC
        clear e1 e2 hno
        go_wp2_with fail
        refine HX.out.mono ?_
        rintro e w' ⟨rfl, rfl⟩
        go_wp2_with fail
        refine HN.out.mono ?_
        rintro e w' ⟨rfl, rfl⟩
        go_wp2_with fail
        refine HN.out.mono ?_
        rintro e w' ⟨rfl, rfl⟩
        go_wp2_with fail
        refine HC.out.mono ?_
        rintro e w' ⟨rfl, rfl⟩
        go_wp2_with fail
        go_roundw
        case rel => exact ⟨1 + 1, by omega, by go_num, trivial⟩
        case measure => simp [intOf]
    · have HA := Lib.hid (awake_any wr)
      go_wp2_with fail
      refine HA.out.mono ?_
      rintro e w' ⟨rfl, hb'⟩
      go_wp2_with fail
      go_ret
      exact ⟨rfl, hB.trans (hb'.mono hB.size)⟩
end Go.Proofs.Ytaiaibpcpcndgaa
