/- BitsFirst: the walk. -/
import Derived.Test.YtaiaibpcpcndgaaMade
import Derived.Test.YtaiaibpcpcndgaaAwake
namespace Go.Proofs.Ytaiaibpcpcndgaa
open Go.RowKit

theorem countTo_lt (L : List Bool) (a : Nat) : ∀ k, (∃ j, j < k ∧ L.getD (a + j) false = false) → countTo L a k < k
  | 0, ⟨_, h, _⟩ => by omega
  | k + 1, ⟨j, h, hj⟩ => by
    rw [countTo]
    by_cases e : j = k
    · subst e; rw [hj]; have := countTo_le L a j; simp; omega
    · have := countTo_lt L a k ⟨j, by omega, hj⟩
      split <;> omega
theorem countTo_full (L : List Bool) (a : Nat) : ∀ k, (∀ j, j < k → L.getD (a + j) false = true) → countTo L a k = k
  | 0, _ => rfl
  | k + 1, h => by rw [countTo, countTo_full L a k (fun j h1 => h j (by omega)), h k (by omega)]; rfl
theorem count_allV (L : List Bool) (a k : Nat) (h : allV L true a k = true) : countTo L a k = k := countTo_full L a k (fun j hj => allV_at h j hj)
theorem count_noV (L : List Bool) (a k : Nat) (h : allV L true a k = false) : countTo L a k < k := by
  refine countTo_lt L a k (Classical.byContradiction fun hn => ?_)
  have : allV L true a k = true := allV_true fun j hj => by
    cases e : L.getD (a + j) false with
    | true => rfl
    | false => exact absurd ⟨j, hj, e⟩ hn
  rw [this] at h; cases h

theorem count_win (b : Nat) (L : List Bool) (k q : Nat) (w : World) (h : MapAt w b L) (hk : k + (1 + q) ≤ L.length) :
    Calls Try.prog 30 #[.pointer (some ⟨b, 0, none⟩), .int .i64 k, .int .i64 (1 + (q : Int))] w fun r w' => r = .returned (.tuple #[.int .i64 (countTo L k (1 + q) : Nat), .int .i64 0]) ∧ w = w' := by
  have hL := h.2
  have hr : inR L.length k (1 + (q : Int)) = true := by unfold inR; exact decide_eq_true (by omega)
  have hc := count_any b L k (1 + (q : Int)) w h (by omega) (by omega) (by omega) (by omega)
  rw [lookE_of hr] at hc
  have hv : countN L k (1 + (q : Int)) = (countTo L k (1 + q) : Nat) := by
    unfold countN; rw [hr, if_pos rfl]
    have e1 : ((k : Int)).toNat = k := by omega
    have e2 : (1 + (q : Int)).toNat = 1 + q := by omega
    rw [e1, e2]
  rw [hv] at hc
  exact hc
theorem run_ways (L : List Bool) (q : Nat) :
    (∃ p, p + (1 + q) ≤ L.length ∧ allV L true p (1 + q) = true ∧ (∀ j, j < p → allV L true j (1 + q) = false) ∧ runN L 0 (1 + (q : Int)) true = p ∧ runE L 0 (1 + (q : Int)) true = 0) ∨
    ((∀ j, j + (1 + q) ≤ L.length → allV L true j (1 + q) = false) ∧ runN L 0 (1 + (q : Int)) true = 0 ∧ runE L 0 (1 + (q : Int)) true = 4) := by
  have hr : inR L.length 0 0 = true := by unfold inR; exact decide_eq_true (by omega)
  have hn : ¬ (1 + (q : Int)) < 1 := by omega
  have e2 : (1 + (q : Int)).toNat = 1 + q := by omega
  have n1 : runN L 0 (1 + (q : Int)) true = oN (runO L true 0 (1 + q)) := by unfold runN; rw [hr, if_pos rfl, if_neg hn, e2]; rfl
  have n2 : runE L 0 (1 + (q : Int)) true = oE (runO L true 0 (1 + q)) := by unfold runE; rw [hr, if_pos rfl, if_neg hn, e2]; rfl
  rcases runO_spec L true 0 (1 + q) with ⟨p, h, _, h2, h3, h4⟩ | ⟨h, h4⟩
  · exact .inl ⟨p, h2, h3, fun j hj => h4 j (Nat.zero_le _) hj, by rw [n1, h]; rfl, by rw [n2, h]; rfl⟩
  · exact .inr ⟨fun j hj => h4 j (Nat.zero_le _) hj, by rw [n1, h]; rfl, by rw [n2, h]; rfl⟩

set_option maxHeartbeats 4000000 in
set_option maxRecDepth 100000 in
theorem bitsFirst_any (n : Nat) (u : Value) (l : List UInt8) (r : Nat) (w : World) (hn : n ≤ 65535) (hv : BytesAt w u l) (hl : l.length ≤ maxLen) (hr : r ≤ 255) :
    Calls Try.prog 8 #[.int .u16 n, u, .int .u8 r] w fun e w' => e = .returned (.bool true) ∧ Below w.heap.size w w' := by
  have H0 := Lib.hid (made_any n u l w hn hv hl)
  obtain ⟨q, hq⟩ : ∃ q, r % 20 = q := ⟨_, rfl⟩
  have hqI : (r : Int) % 20 = q := by omega
  have hq20 : q ≤ 19 := by omega
  clear hv hl hq
  go_enter Try.func8, Try.ntmps8
  go_wp2_with fail
  refine H0.out.mono ?_
  rintro e w1 ⟨b, v1, L, rfl, hL, hm, hba, hb0, hB, -⟩
  have HM := Lib.hid hm
  have hLl := hm.2
  clear hL hm hba H0
  have HR := Lib.hid (run_any b L 0 (1 + (q : Int)) true w1 HM.out (by omega) (by omega) (by omega) (by omega))
  have HN := Lib.hid (len_any b L w1 HM.out)
  have HA := Lib.hid (awake_any w1)
  have HC := Lib.hid (fun k (h : k + (1 + q) ≤ L.length) => count_win b L k q w1 HM.out h)
  rcases run_ways L q with ⟨p, hp, hall, hno, e1, e2⟩ | ⟨hno, e1, e2⟩
  · rw [e1, e2] at HR
    have HALL := Lib.hid hall
    have HNO := Lib.hid hno
    clear e1 e2 hall hno
    go_wp2_with fail
    refine HR.out.mono ?_
    rintro e w' ⟨rfl, rfl⟩
    go_wp2_with fail
    go_loopw [12] (fun i wr => ∃ k : Nat, k ≤ p + 1 ∧ i = .int .i64 k ∧ wr = w1) (fun i _ => p + 1 - (intOf i).toNat)
    case atStart => exact ⟨0, by omega, rfl, rfl⟩
    case round =>
      obtain ⟨k, hk, rfl, rfl⟩ := hrel
      by_cases hkp : k ≤ p
      · have HCC := Lib.hid (HC.out k (by omega))
        obtain ⟨z, hz⟩ : ∃ z, countTo L k (1 + q) = z := ⟨_, rfl⟩
        rw [hz] at HCC
        by_cases hkp2 : k < p
        · have hb := count_noV L k (1 + q) (HNO.out k hkp2)
          rw [hz] at hb
          have b1 : ((z : Int) == 1 + (q : Int)) = false := beq_eq_false_iff_ne.2 (by omega)
          have b2 : ((k : Int) == (p : Int)) = false := beq_eq_false_iff_ne.2 (by omega)
          clear hz hb
          go_wp2_with fail
          refine HN.out.mono ?_
          rintro e w' ⟨rfl, rfl⟩
          go_wp2_with fail
          refine HCC.out.mono ?_
          rintro e w' ⟨rfl, rfl⟩
          go_wp2_with fail
          go_roundw
          case rel => exact ⟨k + 1, by omega, by go_num, trivial⟩
          case measure => simp [intOf]; omega
        · obtain rfl : k = p := by omega
          have hb := count_allV L k (1 + q) HALL.out
          rw [hz] at hb
          have b1 : ((z : Int) == 1 + (q : Int)) = true := beq_iff_eq.2 (by omega)
          clear hz hb
          go_wp2_with fail
          refine HN.out.mono ?_
          rintro e w' ⟨rfl, rfl⟩
          go_wp2_with fail
          refine HCC.out.mono ?_
          rintro e w' ⟨rfl, rfl⟩
          go_wp2_with fail
          go_roundw
          case rel => exact ⟨k + 1, by omega, by go_num, trivial⟩
          case measure => simp [intOf]
      · go_wp2_with fail
        refine HN.out.mono ?_
        rintro e w' ⟨rfl, rfl⟩
        go_wp2_with fail
        refine HA.out.mono ?_
        rintro e w2 ⟨rfl, hB2⟩
        go_wp2_with fail
        go_ret
        exact ⟨rfl, hB.trans (hB2.mono hB.size)⟩
  · rw [e1, e2] at HR
    have HNO := Lib.hid hno
    clear e1 e2 hno
    go_wp2_with fail
    refine HR.out.mono ?_
    rintro e w' ⟨rfl, rfl⟩
    go_wp2_with fail
    refine HN.out.mono ?_
    rintro e w' ⟨rfl, rfl⟩
    go_wp2_with fail
    go_loopw [12] (fun i wr => ∃ k : Nat, k ≤ L.length ∧ i = .int .i64 k ∧ wr = w1) (fun i _ => L.length + 1 - (intOf i).toNat)
    case atStart => exact ⟨0, by omega, rfl, rfl⟩
    case round =>
      obtain ⟨k, hk, rfl, rfl⟩ := hrel
      by_cases hkp : k + (1 + q) ≤ L.length
      · have HCC := Lib.hid (HC.out k hkp)
        obtain ⟨z, hz⟩ : ∃ z, countTo L k (1 + q) = z := ⟨_, rfl⟩
        rw [hz] at HCC
        have hb := count_noV L k (1 + q) (HNO.out k hkp)
        rw [hz] at hb
        have b1 : ((z : Int) == 1 + (q : Int)) = false := beq_eq_false_iff_ne.2 (by omega)
        have b2 : ((k : Int) == (L.length : Int)) = false := beq_eq_false_iff_ne.2 (by omega)
        clear hz hb
        go_wp2_with fail
        refine HN.out.mono ?_
        rintro e w' ⟨rfl, rfl⟩
        go_wp2_with fail
        refine HCC.out.mono ?_
        rintro e w' ⟨rfl, rfl⟩
        go_wp2_with fail
        go_roundw
        case rel => exact ⟨k + 1, by omega, by go_num, trivial⟩
        case measure => simp [intOf]; omega
      · go_wp2_with fail
        refine HN.out.mono ?_
        rintro e w' ⟨rfl, rfl⟩
        go_wp2_with fail
        refine HA.out.mono ?_
        rintro e w2 ⟨rfl, hB2⟩
        go_wp2_with fail
        go_ret
        exact ⟨rfl, hB.trans (hB2.mono hB.size)⟩
end Go.Proofs.Ytaiaibpcpcndgaa
