/- The reference's functions that only read. -/
import Derived.Test.YtaiaibpcpcndgaaRBytes
import Derived.Test.YtaiaibpcpcndgaaRanges
namespace Go.Proofs.Ytaiaibpcpcndgaa
open Go.RowKit

set_option maxHeartbeats 400000 in
theorem refIn_any (s : Option Addr) (n d : Nat) (a m : Int) (w : World) (l0 : -9223372036854775808 ≤ a) (l1 : a ≤ 9223372036854775807) (l2 : -9223372036854775808 ≤ m) (l3 : m ≤ 9223372036854775807) (hn : n ≤ 4096) :
    Calls Try.prog 60 #[.slice s n d, .int .i64 a, .int .i64 m] w fun e w' => e = .returned (.bool (inR n a m)) ∧ w = w' := by
  by_cases c1 : 0 ≤ a
  · have d1 : decide (0 ≤ a) = true := decide_eq_true c1
    by_cases c2 : 0 ≤ m
    · have d2 : decide (0 ≤ m) = true := decide_eq_true c2
      by_cases c3 : a ≤ n
      · have d3 : decide (a ≤ (n : Int)) = true := decide_eq_true c3
        by_cases c4 : m ≤ n - a
        · have d4 : decide (m ≤ (n : Int) - a) = true := decide_eq_true c4
          have HF : Hid (inR n a m = true) := Lib.hid (by unfold inR; exact decide_eq_true (by omega))
          go_enter Try.func60, Try.ntmps60
          go_wp2
          go_ret
          exact ⟨ret_bool HF.out.symm, rfl⟩
        · have d4 : decide (m ≤ (n : Int) - a) = false := decide_eq_false c4
          have HF : Hid (inR n a m = false) := Lib.hid (by unfold inR; exact decide_eq_false (by omega))
          go_enter Try.func60, Try.ntmps60
          go_wp2
          go_ret
          exact ⟨ret_bool HF.out.symm, rfl⟩
      · have d3 : decide (a ≤ (n : Int)) = false := decide_eq_false c3
        have HF : Hid (inR n a m = false) := Lib.hid (by unfold inR; exact decide_eq_false (by omega))
        go_enter Try.func60, Try.ntmps60
        go_wp2
        go_ret
        exact ⟨ret_bool HF.out.symm, rfl⟩
    · have d2 : decide (0 ≤ m) = false := decide_eq_false c2
      have HF : Hid (inR n a m = false) := Lib.hid (by unfold inR; exact decide_eq_false (by omega))
      go_enter Try.func60, Try.ntmps60
      go_wp2
      go_ret
      exact ⟨ret_bool HF.out.symm, rfl⟩
  · have d1 : decide (0 ≤ a) = false := decide_eq_false c1
    have HF : Hid (inR n a m = false) := Lib.hid (by unfold inR; exact decide_eq_false (by omega))
    go_enter Try.func60, Try.ntmps60
    go_wp2
    go_ret
    exact ⟨ret_bool HF.out.symm, rfl⟩

/-- The tests that begin a reference's function: whether a place is there. -/
theorem inR_one_not {n : Nat} {i : Int} (h : inR n i 1 = false) : i < 0 ∨ (n : Int) ≤ i := by
  have := of_decide_eq_false (show decide (0 ≤ i ∧ (0 : Int) ≤ 1 ∧ i + 1 ≤ (n : Int)) = false from h); omega
theorem inR_zero_not {n : Nat} {i : Int} (h : inR n i 0 = false) : i < 0 ∨ (n : Int) < i := by
  have := of_decide_eq_false (show decide (0 ≤ i ∧ (0 : Int) ≤ 0 ∧ i + 0 ≤ (n : Int)) = false from h); omega

theorem refGet_any (v : Value) (L : List Bool) (i : Int) (w : World) (h : BoolsAt w v L) (hL : L.length ≤ 4096) :
    Calls Try.prog 40 #[v, .int .i64 i] w fun e w' => e = .returned (.tuple #[.bool (getV L i), .int .i64 (lookE L.length i 1)]) ∧ w = w' := by
  obtain ⟨s, d, rfl⟩ := h.val
  cases hr : inR L.length i 1 with
  | false =>
    have HF : Hid (getV L i = false) := Lib.hid (by unfold getV; rw [hr]; rfl)
    have HE := Lib.hid (lookE_not hr)
    rcases inR_one_not hr with h1 | h1
    · have d1 : decide (i < 0) = true := decide_eq_true h1
      clear hr h
      go_enter Try.func40, Try.ntmps40
      go_wp2
      go_ret2
      exact ⟨by rw [HF.out, HE.out]; rfl, rfl⟩
    · by_cases h0 : i < 0
      · have d1 : decide (i < 0) = true := decide_eq_true h0
        clear hr h
        go_enter Try.func40, Try.ntmps40
        go_wp2
        go_ret2
        exact ⟨by rw [HF.out, HE.out]; rfl, rfl⟩
      · have d1 : decide (i < 0) = false := decide_eq_false h0
        have d2 : decide ((L.length : Int) ≤ i) = true := decide_eq_true h1
        clear hr h
        go_enter Try.func40, Try.ntmps40
        go_wp2
        go_ret2
        exact ⟨by rw [HF.out, HE.out]; rfl, rfl⟩
  | true =>
    obtain ⟨k, rfl, hk⟩ := inR_one hr
    have HF : Hid (getV L k = L.getD k false) := Lib.hid (by unfold getV; rw [hr]; rfl)
    have HE := Lib.hid (lookE_of hr)
    obtain ⟨b, o, rfl, hb, hc⟩ := h.at_ k hk
    have d2 : decide ((L.length : Int) ≤ k) = false := decide_eq_false (by omega)
    generalize L.getD k false = x at *
    clear hr h
    go_enter Try.func40, Try.ntmps40
    go_wp2
    go_ret2
    exact ⟨by rw [HF.out, HE.out]; rfl, rfl⟩

set_option maxHeartbeats 400000 in
theorem refCount_any (v : Value) (L : List Bool) (a m : Int) (w : World) (h : BoolsAt w v L) (hL : L.length ≤ 4096) (l0 : -9223372036854775808 ≤ a) (l1 : a ≤ 9223372036854775807) (l2 : -9223372036854775808 ≤ m) (l3 : m ≤ 9223372036854775807) :
    Calls Try.prog 42 #[v, .int .i64 a, .int .i64 m] w fun e w' => e = .returned (.tuple #[.int .i64 (countN L a m), .int .i64 (lookE L.length a m)]) ∧ w = w' := by
  obtain ⟨s, d, rfl⟩ := h.val
  have HC := Lib.hid (refIn_any s L.length d a m w l0 l1 l2 l3 hL)
  cases hr : inR L.length a m with
  | false =>
    have HF := Lib.hid (show countN L a m = 0 by unfold countN; rw [hr]; rfl)
    have HE := lookE_not hr
    rw [hr] at HC; rw [HE]
    clear HE hr h
    go_enter Try.func42, Try.ntmps42
    go_wp2_with fail
    refine HC.out.mono ?_
    rintro e w' ⟨rfl, rfl⟩
    go_wp2_with fail
    go_ret2
    exact ⟨ret2 HF.out.symm rfl, rfl⟩
  | true =>
    obtain ⟨i, k, rfl, rfl, hik⟩ := inR_two hr
    have HF := Lib.hid (show countN L i k = (countTo L i k : Nat) by unfold countN; rw [hr]; rfl)
    have HE := lookE_of hr
    rw [hr] at HC; rw [HE]
    have HB := Lib.hid h
    clear HE hr h
    go_enter Try.func42, Try.ntmps42
    go_wp2_with fail
    refine HC.out.mono ?_
    rintro e w' ⟨rfl, rfl⟩
    go_wp2_with fail
    go_loop [8, 9] (fun c j => ∃ q : Nat, q ≤ k ∧ j = .int .i64 ((i + q : Nat) : Int) ∧ c = .int .i64 (countTo L i q : Nat)) (fun _ j => i + k - (intOf j).toNat)
    case atStart => exact ⟨0, by omega, rfl, rfl⟩
    case round =>
      obtain ⟨q, hq, rfl, rfl⟩ := hrel
      have hc := countTo_le L i q
      by_cases hlt : q < k
      · obtain ⟨b, o, rfl, hb, hcell⟩ := HB.out.at_ (i + q) (by omega)
        have HS := Lib.hid (show countTo L i (q + 1) = countTo L i q + if L.getD (i + q) false then 1 else 0 from rfl)
        generalize L.getD (i + q) false = x at *
        cases x
        · go_wp2_with fail
          go_round
          case rel => exact ⟨q + 1, by omega, by go_num, by rw [HS.out]; rfl⟩
          case measure => simp [intOf]; omega
        · go_wp2_with fail
          go_round
          case rel => exact ⟨q + 1, by omega, by go_num, by rw [HS.out]; rfl⟩
          case measure => simp [intOf]; omega
      · obtain rfl : q = k := by omega
        go_wp2_with fail
        go_ret2
        exact ⟨ret2 HF.out.symm rfl, rfl⟩

set_option maxHeartbeats 400000 in
theorem refNext_any (u : Value) (L : List Bool) (a : Int) (v : Bool) (w : World) (h : BoolsAt w u L) (hL : L.length ≤ 4096) :
    Calls Try.prog 43 #[u, .int .i64 a, .bool v] w fun e w' => e = .returned (.tuple #[.int .i64 (nextN L a v), .int .i64 (nextE L a v)]) ∧ w = w' := by
  obtain ⟨s, d, rfl⟩ := h.val
  cases hr : inR L.length a 0 with
  | false =>
    have HF := Lib.hid (show nextN L a v = 0 by unfold nextN; rw [hr]; rfl)
    have HG := Lib.hid (show nextE L a v = 7 by unfold nextE; rw [hr]; rfl)
    by_cases h0 : a < 0
    · have d1 : decide (a < 0) = true := decide_eq_true h0
      clear hr h
      go_enter Try.func43, Try.ntmps43
      go_wp2
      go_ret2
      exact ⟨ret2 HF.out.symm HG.out.symm, rfl⟩
    · have d1 : decide (a < 0) = false := decide_eq_false h0
      have d2 : decide ((L.length : Int) < a) = true := decide_eq_true (by have := inR_zero_not hr; omega)
      clear hr h
      go_enter Try.func43, Try.ntmps43
      go_wp2
      go_ret2
      exact ⟨ret2 HF.out.symm HG.out.symm, rfl⟩
  | true =>
    obtain ⟨i, k0, rfl, hk0, hik⟩ := inR_two hr
    have HF := Lib.hid (show nextN L i v = oN (nextO L v i) by unfold nextN; rw [hr]; rfl)
    have HG := Lib.hid (show nextE L i v = oE (nextO L v i) by unfold nextE; rw [hr]; rfl)
    have HB := Lib.hid h
    have hi : i ≤ L.length := by omega
    have d2 : decide ((L.length : Int) < i) = false := decide_eq_false (by omega)
    clear hr h hik hk0
    go_enter Try.func43, Try.ntmps43
    go_wp2_with fail
    go_loop [8] (fun j => ∃ q : Nat, i ≤ q ∧ q ≤ L.length ∧ j = .int .i64 q ∧ Hid (∀ p, i ≤ p → p < q → L.getD p false ≠ v)) (fun j => L.length - (intOf j).toNat)
    case atStart => exact ⟨i, Nat.le_refl _, hi, rfl, Lib.hid (fun p h1 h2 => by omega)⟩
    case round =>
      obtain ⟨q, hq0, hq, rfl, hno⟩ := hrel
      by_cases hlt : q < L.length
      · obtain ⟨b, o, rfl, hb, hcell⟩ := HB.out.at_ q hlt
        by_cases hx : L.getD q false = v
        · have HO := Lib.hid (nextO_some hq0 hlt hx hno.out)
          rw [hx] at hcell
          clear hx
          have hv : (v == v) = true := beq_self_eq_true v
          go_wp2_with fail
          go_ret2
          exact ⟨ret2 (by rw [HF.out, HO.out]; rfl) (by rw [HG.out, HO.out]; rfl), rfl⟩
        · have HN : Hid (∀ p, i ≤ p → p < q + 1 → L.getD p false ≠ v) := Lib.hid (fun p h1 h2 => by
            by_cases e : p = q
            · subst e; exact hx
            · exact hno.out p h1 (by omega))
          have hv : (L.getD q false == v) = false := beq_eq_false_iff_ne.2 hx
          clear hx
          generalize L.getD q false = x at *
          go_wp2_with fail
          go_round
          case rel => exact ⟨q + 1, by omega, by omega, by go_num, HN⟩
          case measure => simp [intOf]; omega
      · have HO := Lib.hid (nextO_none (L := L) (v := v) (a := i) (fun j h1 h2 => hno.out j h1 (by omega)))
        go_wp2_with fail
        go_ret2
        exact ⟨ret2 (by rw [HF.out, HO.out]; rfl) (by rw [HG.out, HO.out]; rfl), rfl⟩

set_option maxHeartbeats 400000 in
theorem refLast_any (u : Value) (L : List Bool) (a : Int) (v : Bool) (w : World) (h : BoolsAt w u L) (hL : L.length ≤ 4096) :
    Calls Try.prog 44 #[u, .int .i64 a, .bool v] w fun e w' => e = .returned (.tuple #[.int .i64 (lastN L a v), .int .i64 (lastE L a v)]) ∧ w = w' := by
  obtain ⟨s, d, rfl⟩ := h.val
  cases hr : inR L.length a 0 with
  | false =>
    have HF := Lib.hid (show lastN L a v = 0 by unfold lastN; rw [hr]; rfl)
    have HG := Lib.hid (show lastE L a v = 7 by unfold lastE; rw [hr]; rfl)
    by_cases h0 : a < 0
    · have d1 : decide (a < 0) = true := decide_eq_true h0
      clear hr h
      go_enter Try.func44, Try.ntmps44
      go_wp2
      go_ret2
      exact ⟨ret2 HF.out.symm HG.out.symm, rfl⟩
    · have d1 : decide (a < 0) = false := decide_eq_false h0
      have d2 : decide ((L.length : Int) < a) = true := decide_eq_true (by have := inR_zero_not hr; omega)
      clear hr h
      go_enter Try.func44, Try.ntmps44
      go_wp2
      go_ret2
      exact ⟨ret2 HF.out.symm HG.out.symm, rfl⟩
  | true =>
    obtain ⟨i, k0, rfl, hk0, hik⟩ := inR_two hr
    have HF := Lib.hid (show lastN L i v = oN (lastO L v i) by unfold lastN; rw [hr]; rfl)
    have HG := Lib.hid (show lastE L i v = oE (lastO L v i) by unfold lastE; rw [hr]; rfl)
    have HB := Lib.hid h
    have hi : i ≤ L.length := by omega
    have d2 : decide ((L.length : Int) < i) = false := decide_eq_false (by omega)
    clear hr h hik hk0
    go_enter Try.func44, Try.ntmps44
    go_wp2_with fail
    go_loop [8] (fun j => ∃ q : Nat, q ≤ i ∧ j = .int .i64 ((q : Int) - 1) ∧ Hid (∀ p, q ≤ p → p < i → L.getD p false ≠ v)) (fun j => (intOf j + 1).toNat)
    case atStart => exact ⟨i, Nat.le_refl _, rfl, Lib.hid (fun p h1 h2 => by omega)⟩
    case round =>
      obtain ⟨q, hq, rfl, hno⟩ := hrel
      by_cases hlt : 0 < q
      · obtain ⟨p, rfl⟩ : ∃ p, q = p + 1 := ⟨q - 1, by omega⟩
        have hp : ((p + 1 : Nat) : Int) - 1 = (p : Int) := by omega
        rw [hp]
        have HP := Lib.hid hp
        clear hp
        obtain ⟨b, o, rfl, hb, hcell⟩ := HB.out.at_ p (by omega)
        by_cases hx : L.getD p false = v
        · have HO := Lib.hid (lastO_some (n := i) (by omega) hx (fun j h1 h2 => hno.out j (by omega) h2))
          rw [hx] at hcell
          clear hx
          have hv : (v == v) = true := beq_self_eq_true v
          go_wp2_with fail
          go_ret2
          exact ⟨ret2 (by rw [HF.out, HO.out]; rfl) (by rw [HG.out, HO.out]; rfl), rfl⟩
        · have HN : Hid (∀ j, p ≤ j → j < i → L.getD j false ≠ v) := Lib.hid (fun j h1 h2 => by
            by_cases e : j = p
            · subst e; exact hx
            · exact hno.out j (by omega) h2)
          have hv : (L.getD p false == v) = false := beq_eq_false_iff_ne.2 hx
          clear hx
          generalize L.getD p false = x at *
          go_wp2_with fail
          go_round
          case rel => exact ⟨p, by omega, rfl, HN⟩
          case measure => simp [intOf]
      · obtain rfl : q = 0 := by omega
        have HO := Lib.hid (lastO_none (L := L) (v := v) (n := i) (fun j h1 => hno.out j (by omega) h1))
        have hz0 : ((0 : Nat) : Int) - 1 = -1 := rfl
        rw [hz0]
        clear hz0
        go_wp2_with fail
        go_ret2
        exact ⟨ret2 (by rw [HF.out, HO.out]; rfl) (by rw [HG.out, HO.out]; rfl), rfl⟩
end Go.Proofs.Ytaiaibpcpcndgaa
