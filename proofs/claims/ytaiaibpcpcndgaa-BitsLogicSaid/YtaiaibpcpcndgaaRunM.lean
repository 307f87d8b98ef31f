/- Run: the walk, two loops with a label. -/
import Derived.Test.YtaiaibpcpcndgaaRanges
import Derived.Deep.LoopGhost
import Derived.WalkMore
namespace Go.Proofs.Ytaiaibpcpcndgaa
open Go.RowKit

theorem noRun_step {L : List Bool} {v : Bool} {a f q n : Nat} (hq : q < n) (hx : L.getD (f + q) false ≠ v) (h : ∀ j, a ≤ j → j < f → allV L v j n = false) : ∀ j, a ≤ j → j < f + q + 1 → allV L v j n = false := by
  intro j h1 h2
  by_cases e : j < f
  · exact h j h1 e
  · refine allV_false (k := f + q - j) (by omega) ?_
    rwa [show j + (f + q - j) = f + q from by omega]

set_option maxHeartbeats 1000000 in
theorem run_any (b : Nat) (L : List Bool) (a n : Int) (v : Bool) (w : World) (h : MapAt w b L) (l0 : -9223372036854775808 ≤ a) (l1 : a ≤ 9223372036854775807) (l2 : -9223372036854775808 ≤ n) (l3 : n ≤ 9223372036854775807) :
    Calls Try.prog 34 #[.pointer (some ⟨b, 0, none⟩), .int .i64 a, .int .i64 n, .bool v] w fun e w' => e = .returned (.tuple #[.int .i64 (runN L a n v), .int .i64 (runE L a n v)]) ∧ w = w' := by
  have HC := Lib.hid (lookAt_any b L a 0 w h l1 (by omega) l0 (by omega))
  cases hr : inR L.length a 0 with
  | false =>
    have HF := Lib.hid (show runN L a n v = 0 by unfold runN; rw [hr]; rfl)
    have HG := Lib.hid (show runE L a n v = 7 by unfold runE; rw [hr]; rfl)
    have HE := lookE_not hr
    rw [HE] at HC
    clear HE hr h
    go_enter Try.func34, Try.ntmps34
    go_wp2
    go_step3
    go_wp2_with fail
    refine HC.out.mono ?_
    rintro e w' ⟨rfl, rfl⟩
    go_wp2_with fail
    rw [Exit.noGoto_ret]
    go_ret2
    exact ⟨ret2 HF.out.symm HG.out.symm, rfl⟩
  | true =>
    obtain ⟨i, k0, rfl, hk0, hik⟩ := inR_two hr
    have HE := lookE_of hr
    rw [HE] at HC
    by_cases hn : n < 1
    · have HF := Lib.hid (show runN L i n v = 0 by unfold runN; rw [hr, if_pos rfl, if_pos hn])
      have HG := Lib.hid (show runE L i n v = 2 by unfold runE; rw [hr, if_pos rfl, if_pos hn])
      have dn : decide (n < 1) = true := by simpa using hn
      clear HE hr h hik hk0
      go_enter Try.func34, Try.ntmps34
      go_wp2
      go_step3
      go_wp2_with fail
      refine HC.out.mono ?_
      rintro e w' ⟨rfl, rfl⟩
      go_wp2_with fail
      rw [Exit.noGoto_ret]
      go_ret2
      exact ⟨ret2 HF.out.symm HG.out.symm, rfl⟩
    · obtain ⟨m, rfl⟩ : ∃ m : Nat, n = m := ⟨n.toNat, by omega⟩
      have HF := Lib.hid (show runN L i m v = oN (runO L v i m) by unfold runN; rw [hr, if_pos rfl, if_neg hn]; rfl)
      have HG := Lib.hid (show runE L i m v = oE (runO L v i m) by unfold runE; rw [hr, if_pos rfl, if_neg hn]; rfl)
      have HB := Lib.hid (fun j (hj : j < 4096) => bit_any b L j w h hj)
      have hz := h.size
      have hL := h.2
      have hi : i ≤ L.length := by omega
      have hm1 : 1 ≤ m := by omega
      have dn : decide ((m : Int) < 1) = false := by simp; omega
      clear HE hr h hik hk0 hn
      go_enter Try.func34, Try.ntmps34
      go_wp2
      go_step3
      go_wp2_with fail
      refine HC.out.mono ?_
      rintro e w' ⟨rfl, rfl⟩
      go_wp2_with fail
      go_step3
      go_wp2_with fail
      go_loopg [11] (L.length - i) (fun g f11 wx => ∃ f : Nat, i ≤ f ∧ f + g = L.length ∧ f11 = .int .i64 f ∧ wx = w ∧ Hid (∀ j, i ≤ j → j < f → allV L v j m = false))
      case atStart => exact ⟨i, Nat.le_refl _, by omega, rfl, rfl, Lib.hid (fun j h1 h2 => by omega)⟩
      case round =>
        obtain ⟨f, hf0, hfg, rfl, rfl, hno⟩ := hrel
        have HFG := Lib.hid hfg
        have hfl : f ≤ L.length := by omega
        clear hfg
        by_cases hlt : f + m ≤ L.length
        · have d1 : decide ((f : Int) ≤ L.length - m) = true := by simp; omega
          go_wp2_with fail
          go_loopg [11, 12] m (fun g f11 f12 wx => ∃ q : Nat, q + g = m ∧ f11 = .int .i64 (f : Nat) ∧ f12 = .int .i64 ((f + q : Nat) : Int) ∧ wx = wr ∧ Hid (∀ k, k < q → L.getD (f + k) false = v))
          case atStart => exact ⟨0, by omega, rfl, rfl, rfl, Lib.hid (fun k hk => by omega)⟩
          case round =>
            obtain ⟨q, hqg, rfl, rfl, hww, hall⟩ := hrel
            have HQG := Lib.hid hqg
            have hqm : q ≤ m := by omega
            clear hqg
            subst hww
            by_cases hq : q < m
            · have HBB := Lib.hid (HB.out (f + q) (by omega))
              by_cases hx : L.getD (f + q) false = v
              · have HA : Hid (∀ k, k < q + 1 → L.getD (f + k) false = v) := Lib.hid (fun k hk => by
                  by_cases e : k = q
                  · subst e; exact hx
                  · exact hall.out k (by omega))
                rw [hx] at HBB
                clear hx
                have hv : (v == v) = true := beq_self_eq_true v
                go_wp2_with fail
                refine HBB.out.mono ?_
                rintro e w' ⟨rfl, rfl⟩
                go_wp2_with fail
                go_roundg (m - (q + 1))
                case measure => have := HQG.out; omega
                case rel => exact ⟨q + 1, by omega, rfl, by go_num, rfl, HA⟩
              · have HN := Lib.hid (noRun_step hq hx hno.out)
                have hv : (L.getD (f + q) false == v) = false := beq_eq_false_iff_ne.2 hx
                clear hx
                generalize L.getD (f + q) false = x at *
                go_wp2_with fail
                refine HBB.out.mono ?_
                rintro e w' ⟨rfl, rfl⟩
                go_wp2_with fail
                go_roundg (L.length - (f + q + 1))
                case measure => have := HFG.out; omega
                case rel => exact ⟨f + q + 1, by omega, by omega, by go_num, rfl, HN⟩
            · obtain rfl : q = m := by omega
              have HO := Lib.hid (runO_some hf0 hlt (allV_true hall.out) hno.out)
              go_wp2_with fail
              rw [Exit.noGoto_ret]
              go_ret2
              exact ⟨ret2 (by rw [HF.out, HO.out]; rfl) (by rw [HG.out, HO.out]; rfl), rfl⟩
        · have d1 : decide ((f : Int) ≤ L.length - m) = false := by simp; omega
          have HO := Lib.hid (runO_none (L := L) (v := v) (a := i) (n := m) (fun j h1 h2 => hno.out j h1 (by omega)))
          go_wp2_with fail
          rw [Exit.noGoto_ret]
          go_ret2
          exact ⟨ret2 (by rw [HF.out, HO.out]; rfl) (by rw [HG.out, HO.out]; rfl), rfl⟩
end Go.Proofs.Ytaiaibpcpcndgaa
