/- Fill, Count, Next, Last, Run: the walks. -/
import Derived.Test.YtaiaibpcpcndgaaFind
namespace Go.Proofs.Ytaiaibpcpcndgaa
open Go.RowKit

theorem lookE_of {n : Nat} {a m : Int} (h : inR n a m = true) : lookE n a m = 0 := by rw [lookE_eq, h]; rfl
theorem lookE_not {n : Nat} {a m : Int} (h : inR n a m = false) : lookE n a m = 7 := by rw [lookE_eq, h]; rfl

set_option maxHeartbeats 400000 in
theorem count_any (b : Nat) (L : List Bool) (a m : Int) (w : World) (h : MapAt w b L) (l0 : -9223372036854775808 ≤ a) (l1 : a ≤ 9223372036854775807) (l2 : -9223372036854775808 ≤ m) (l3 : m ≤ 9223372036854775807) :
    Calls Try.prog 30 #[.pointer (some ⟨b, 0, none⟩), .int .i64 a, .int .i64 m] w fun e w' => e = .returned (.tuple #[.int .i64 (countN L a m), .int .i64 (lookE L.length a m)]) ∧ w = w' := by
  have HC := Lib.hid (lookAt_any b L a m w h l1 l3 l0 l2)
  cases hr : inR L.length a m with
  | false =>
    have HF := Lib.hid (show countN L a m = 0 by unfold countN; rw [hr]; rfl)
    have HE := lookE_not hr
    rw [HE] at HC; rw [HE]
    clear HE hr h
    go_enter Try.func30, Try.ntmps30
    go_wp2_with fail
    refine HC.out.mono ?_
    rintro e w' ⟨rfl, rfl⟩
    go_wp2_with fail
    go_ret2
    exact ⟨ret2 HF.out.symm rfl, rfl⟩
  | true =>
    obtain ⟨i, k, rfl, rfl, hik⟩ := inR_two hr
    have HF := Lib.hid (show countN L i k = (countTo L i k : Nat) by unfold countN; rw [hr]; rfl)
    have HE := lookE_of hr
    rw [HE] at HC; rw [HE]
    have HB := Lib.hid (fun j (hj : j < 4096) => bit_any b L j w h hj)
    have hL := h.2
    clear HE hr h
    go_enter Try.func30, Try.ntmps30
    go_wp2_with fail
    refine HC.out.mono ?_
    rintro e w' ⟨rfl, rfl⟩
    go_wp2_with fail
    go_loop [9, 10] (fun c j => ∃ q : Nat, q ≤ k ∧ j = .int .i64 ((i + q : Nat) : Int) ∧ c = .int .i64 (countTo L i q : Nat)) (fun _ j => i + k - (intOf j).toNat)
    case atStart => exact ⟨0, by omega, rfl, rfl⟩
    case round =>
      obtain ⟨q, hq, rfl, rfl⟩ := hrel
      have hc := countTo_le L i q
      by_cases hlt : q < k
      · have HBB := Lib.hid (HB.out (i + q) (by omega))
        have HS := Lib.hid (show countTo L i (q + 1) = countTo L i q + if L.getD (i + q) false then 1 else 0 from rfl)
        generalize L.getD (i + q) false = x at *
        cases x
        · go_wp2_with fail
          refine HBB.out.mono ?_
          rintro e w' ⟨rfl, rfl⟩
          go_wp2_with fail
          go_round
          case rel => exact ⟨q + 1, by omega, by go_num, by rw [HS.out]; rfl⟩
          case measure => simp [intOf]; omega
        · go_wp2_with fail
          refine HBB.out.mono ?_
          rintro e w' ⟨rfl, rfl⟩
          go_wp2_with fail
          go_round
          case rel => exact ⟨q + 1, by omega, by go_num, by rw [HS.out]; rfl⟩
          case measure => simp [intOf]; omega
      · obtain rfl : q = k := by omega
        go_wp2_with fail
        go_ret2
        exact ⟨ret2 HF.out.symm rfl, rfl⟩

set_option maxHeartbeats 400000 in
theorem fill_any (b : Nat) (L : List Bool) (a m : Int) (v : Bool) (w : World) (h : MapAt w b L) (l0 : -9223372036854775808 ≤ a) (l1 : a ≤ 9223372036854775807) (l2 : -9223372036854775808 ≤ m) (l3 : m ≤ 9223372036854775807) :
    Calls Try.prog 38 #[.pointer (some ⟨b, 0, none⟩), .int .i64 a, .int .i64 m, .bool v] w fun e w' => e = .returned (.int .i64 (lookE L.length a m)) ∧ Upd b (fillL L a m v) w w' := by
  have HC := Lib.hid (lookAt_any b L a m w h l1 l3 l0 l2)
  cases hr : inR L.length a m with
  | false =>
    have HF := Lib.hid (show Upd b (fillL L a m v) w w by unfold fillL; rw [hr]; exact Upd.refl h)
    have HE := lookE_not hr
    rw [HE] at HC; rw [HE]
    clear HE hr h
    go_enter Try.func38, Try.ntmps38
    go_wp2_with fail
    refine HC.out.mono ?_
    rintro e w' ⟨rfl, rfl⟩
    go_wp2_with fail
    go_ret
    exact ⟨rfl, HF.out⟩
  | true =>
    obtain ⟨i, k, rfl, rfl, hik⟩ := inR_two hr
    have HF := Lib.hid (show fillL L i k v = fillTo L i v k by unfold fillL; rw [hr]; rfl)
    have HE := lookE_of hr
    rw [HE] at HC; rw [HE]
    have H0 := Lib.hid (Upd.refl h)
    have hL := h.2
    clear HE hr h
    go_enter Try.func38, Try.ntmps38
    go_wp2_with fail
    refine HC.out.mono ?_
    rintro e w' ⟨rfl, rfl⟩
    go_wp2_with fail
    go_loopw [10] (fun j wr => ∃ q : Nat, q ≤ k ∧ j = .int .i64 ((i + q : Nat) : Int) ∧ Hid (Upd b (fillTo L i v q) w wr)) (fun j _ => i + k - (intOf j).toNat)
    case atStart => exact ⟨0, by omega, rfl, H0⟩
    case round =>
      obtain ⟨q, hq, rfl, hu⟩ := hrel
      by_cases hlt : q < k
      · have HP := Lib.hid (put_any b (fillTo L i v q) (i + q) v wr hu.out.map (by rw [fillTo_len]; omega))
        go_wp2_with fail
        refine HP.out.mono ?_
        rintro e w2 ⟨rfl, hu2⟩
        have HU2 := Lib.hid (hu.out.trans hu2)
        clear hu2
        go_wp2_with fail
        go_roundw
        case rel => exact ⟨q + 1, by omega, by go_num, HU2⟩
        case measure => simp [intOf]; omega
      · obtain rfl : q = k := by omega
        go_wp2_with fail
        go_ret
        exact ⟨rfl, by rw [HF.out]; exact hu.out⟩

set_option maxHeartbeats 400000 in
theorem next_any (b : Nat) (L : List Bool) (a : Int) (v : Bool) (w : World) (h : MapAt w b L) (l0 : -9223372036854775808 ≤ a) (l1 : a ≤ 9223372036854775807) :
    Calls Try.prog 31 #[.pointer (some ⟨b, 0, none⟩), .int .i64 a, .bool v] w fun e w' => e = .returned (.tuple #[.int .i64 (nextN L a v), .int .i64 (nextE L a v)]) ∧ w = w' := by
  have HC := Lib.hid (lookAt_any b L a 0 w h l1 (by omega) l0 (by omega))
  cases hr : inR L.length a 0 with
  | false =>
    have HF := Lib.hid (show nextN L a v = 0 by unfold nextN; rw [hr]; rfl)
    have HG := Lib.hid (show nextE L a v = 7 by unfold nextE; rw [hr]; rfl)
    have HE := lookE_not hr
    rw [HE] at HC
    clear HE hr h
    go_enter Try.func31, Try.ntmps31
    go_wp2_with fail
    refine HC.out.mono ?_
    rintro e w' ⟨rfl, rfl⟩
    go_wp2_with fail
    go_ret2
    exact ⟨ret2 HF.out.symm HG.out.symm, rfl⟩
  | true =>
    obtain ⟨i, k0, rfl, hk0, hik⟩ := inR_two hr
    have HF := Lib.hid (show nextN L i v = oN (nextO L v i) by unfold nextN; rw [hr]; rfl)
    have HG := Lib.hid (show nextE L i v = oE (nextO L v i) by unfold nextE; rw [hr]; rfl)
    have HE := lookE_of hr
    rw [HE] at HC
    have HB := Lib.hid (fun j (hj : j < 4096) => bit_any b L j w h hj)
    have hz := h.size
    have hL := h.2
    have hi : i ≤ L.length := by omega
    clear HE hr h hik hk0
    go_enter Try.func31, Try.ntmps31
    go_wp2_with fail
    refine HC.out.mono ?_
    rintro e w' ⟨rfl, rfl⟩
    go_wp2_with fail
    go_loop [9] (fun j => ∃ q : Nat, i ≤ q ∧ q ≤ L.length ∧ j = .int .i64 q ∧ Hid (∀ p, i ≤ p → p < q → L.getD p false ≠ v)) (fun j => L.length - (intOf j).toNat)
    case atStart => exact ⟨i, Nat.le_refl _, hi, rfl, Lib.hid (fun p h1 h2 => by omega)⟩
    case round =>
      obtain ⟨q, hq0, hq, rfl, hno⟩ := hrel
      by_cases hlt : q < L.length
      · have HBB := Lib.hid (HB.out q (by omega))
        by_cases hx : L.getD q false = v
        · have HO := Lib.hid (nextO_some hq0 hlt hx hno.out)
          rw [hx] at HBB
          clear hx
          have hv : (v == v) = true := beq_self_eq_true v
          go_wp2_with fail
          refine HBB.out.mono ?_
          rintro e w' ⟨rfl, rfl⟩
          go_wp2_with fail
          go_ret2
          exact ⟨ret2 (by rw [HF.out, HO.out]; rfl) (by rw [HG.out, HO.out]; rfl), rfl⟩
        · have HN : Hid (∀ p, i ≤ p → p < q + 1 → L.getD p false ≠ v) := Lib.hid (fun p h1 h2 => by
            by_cases e : p = q
            · subst e; exact hx
            · exact hno.out p h1 (by omega))
          have hv : (L.getD q false == v) = false := beq_eq_false_iff_ne.2 hx
          clear hx
          generalize L.getD q false = x at *
          go_wp2_with fail
          refine HBB.out.mono ?_
          rintro e w' ⟨rfl, rfl⟩
          go_wp2_with fail
          go_round
          case rel => exact ⟨q + 1, by omega, by omega, by go_num, HN⟩
          case measure => simp [intOf]; omega
      · have HO := Lib.hid (nextO_none (L := L) (v := v) (a := i) (fun j h1 h2 => hno.out j h1 (by omega)))
        go_wp2_with fail
        go_ret2
        exact ⟨ret2 (by rw [HF.out, HO.out]; rfl) (by rw [HG.out, HO.out]; rfl), rfl⟩

set_option maxHeartbeats 400000 in
theorem last_any (b : Nat) (L : List Bool) (a : Int) (v : Bool) (w : World) (h : MapAt w b L) (l0 : -9223372036854775808 ≤ a) (l1 : a ≤ 9223372036854775807) :
    Calls Try.prog 33 #[.pointer (some ⟨b, 0, none⟩), .int .i64 a, .bool v] w fun e w' => e = .returned (.tuple #[.int .i64 (lastN L a v), .int .i64 (lastE L a v)]) ∧ w = w' := by
  have HC := Lib.hid (lookAt_any b L a 0 w h l1 (by omega) l0 (by omega))
  cases hr : inR L.length a 0 with
  | false =>
    have HF := Lib.hid (show lastN L a v = 0 by unfold lastN; rw [hr]; rfl)
    have HG := Lib.hid (show lastE L a v = 7 by unfold lastE; rw [hr]; rfl)
    have HE := lookE_not hr
    rw [HE] at HC
    clear HE hr h
    go_enter Try.func33, Try.ntmps33
    go_wp2_with fail
    refine HC.out.mono ?_
    rintro e w' ⟨rfl, rfl⟩
    go_wp2_with fail
    go_ret2
    exact ⟨ret2 HF.out.symm HG.out.symm, rfl⟩
  | true =>
    obtain ⟨i, k0, rfl, hk0, hik⟩ := inR_two hr
    have HF := Lib.hid (show lastN L i v = oN (lastO L v i) by unfold lastN; rw [hr]; rfl)
    have HG := Lib.hid (show lastE L i v = oE (lastO L v i) by unfold lastE; rw [hr]; rfl)
    have HE := lookE_of hr
    rw [HE] at HC
    have HB := Lib.hid (fun j (hj : j < 4096) => bit_any b L j w h hj)
    have hz := h.size
    have hL := h.2
    have hi : i ≤ L.length := by omega
    clear HE hr h hik hk0
    go_enter Try.func33, Try.ntmps33
    go_wp2_with fail
    refine HC.out.mono ?_
    rintro e w' ⟨rfl, rfl⟩
    go_wp2_with fail
    go_loop [9] (fun j => ∃ q : Nat, q ≤ i ∧ j = .int .i64 ((q : Int) - 1) ∧ Hid (∀ p, q ≤ p → p < i → L.getD p false ≠ v)) (fun j => (intOf j + 1).toNat)
    case atStart => exact ⟨i, Nat.le_refl _, rfl, Lib.hid (fun p h1 h2 => by omega)⟩
    case round =>
      obtain ⟨q, hq, rfl, hno⟩ := hrel
      by_cases hlt : 0 < q
      · obtain ⟨p, rfl⟩ : ∃ p, q = p + 1 := ⟨q - 1, by omega⟩
        have hp : ((p + 1 : Nat) : Int) - 1 = (p : Int) := by omega
        rw [hp]
        have HP := Lib.hid hp
        clear hp
        have HBB := Lib.hid (HB.out p (by omega))
        by_cases hx : L.getD p false = v
        · have HO := Lib.hid (lastO_some (n := i) (by omega) hx (fun j h1 h2 => hno.out j (by omega) h2))
          rw [hx] at HBB
          clear hx
          have hv : (v == v) = true := beq_self_eq_true v
          go_wp2_with fail
          refine HBB.out.mono ?_
          rintro e w' ⟨rfl, rfl⟩
          go_wp2_with fail
          go_ret2
          exact ⟨ret2 (by rw [HF.out, HO.out]; rfl) (by rw [HG.out, HO.out]; rfl), rfl⟩
        · have HN : Hid (∀ j, p ≤ j → j < i → L.getD j false ≠ v) := Lib.hid (fun j h1 h2 => by
            by_cases e : j = p
            · subst e; exact hx
            · exact hno.out j (by omega) h2)
          have hv : (L.getD p false == v) = false := beq_eq_false_iff_ne.2 hx
          clear hx
          generalize L.getD p false = x at *
          go_wp2_with fail
          refine HBB.out.mono ?_
          rintro e w' ⟨rfl, rfl⟩
          go_wp2_with fail
          go_round
          case rel => exact ⟨p, by omega, rfl, HN⟩
          case measure => simp [intOf]
      · obtain rfl : q = 0 := by omega
        have HO := Lib.hid (lastO_none (L := L) (v := v) (n := i) (fun j h1 => hno.out j (by omega) h1))
        have hz0 : ((0 : Nat) : Int) - 1 = -1 := rfl
        rw [hz0]
        clear hz0
        go_wp2_with fail
        go_ret2
        exact ⟨ret2 (by rw [HF.out, HO.out]; rfl) (by rw [HG.out, HO.out]; rfl), rfl⟩
end Go.Proofs.Ytaiaibpcpcndgaa
