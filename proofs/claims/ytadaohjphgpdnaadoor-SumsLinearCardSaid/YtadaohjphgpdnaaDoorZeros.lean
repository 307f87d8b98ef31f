/- zeroBytes, Zeros, Combine; the reference's. -/
import Derived.Test.YtadaohjphgpdnaaDoorMat
namespace Go.Proofs.YtadaohjphgpdnaaDoor
open Go.RowKit
attribute [local go_sem ↓] loadX_eq idxX_eq storeX_eq

theorem andI1 (a : Nat) (ha : a < 9223372036854775808) : bits .and .i64 (a : Int) 1 = ((a % 2 : Nat) : Int) := by
  have h1 : (BitVec.ofInt 64 (a : Int)).toNat = a := by rw [BitVec.ofInt_natCast, BitVec.toNat_ofNat]; exact Nat.mod_eq_of_lt (by omega)
  have h2 : (BitVec.ofInt 64 ((1 : Nat) : Int)).toNat = 1 := by rw [BitVec.ofInt_natCast, BitVec.toNat_ofNat]
  show IntKind.i64.wrap ((BitVec.ofInt 64 (a : Int) &&& BitVec.ofInt 64 ((1 : Nat) : Int)).toNat : Int) = _
  rw [BitVec.toNat_and, h1, h2, Nat.and_comm, Nat.one_and_eq_mod_two]
  unfold IntKind.wrap
  simp [IntKind.signed, IntKind.bits]
  omega
theorem andI_test (a : Nat) (ha : a < 9223372036854775808) : (bits .and .i64 (a : Int) 1 == 1) = decide (a % 2 = 1) := by
  rw [andI1 a ha, Bool.eq_iff_iff, beq_iff_eq, decide_eq_true_eq]
  omega

set_option maxHeartbeats 1000000 in
theorem zeroBytes_any (N : Nat) (w : World) (hE : Env w) (hN : N ≤ 1000000) :
    Calls Tryd.prog 38 #[.int .i64 N] w fun e w' => e = .returned (.agg (matA (8 * N))) ∧ Below w.heap.size w w' := by
  have hz := zeroMat
  have HI := Lib.hid (identity_any (w.alloc (.cells (matF fun _ => 0) 60)))
  have h1 := hE.one
  go_enter Tryd.func38, Tryd.ntmps38
  go_wp2_with fail
  refine HI.out.mono ?_
  rintro e w2 ⟨rfl, hb⟩
  have hsz : w.heap.size + 1 ≤ w2.heap.size := by have := hb.size; simp at this; omega
  have hB2 : Below w.heap.size w w2 := ((Below.refl _ _).alloc (Nat.le_refl _) _).trans (hb.mono (by simp))
  have hm0 : MatAt w2 w.heap.size (fun _ => 0) := (alloc_mat w (fun _ => 0) 60 _ rfl).below hb (by simp)
  have HZ := Lib.hid (zeroByte_any w2 (hE.below hB2 h1))
  clear HI hb
  go_wp2_with fail
  refine HZ.out.mono ?_
  rintro e w3 ⟨rfl, hb3⟩
  have hsz3 := hb3.size
  have hm0' := hm0.below hb3 (by omega)
  have hB3 := hB2.trans (hb3.mono (by omega))
  clear HZ hb3 hB2 hm0
  obtain ⟨w4, hst, hm1, hb4, hs4, ho4⟩ := storeX_run (g := fun i => halfN 0 (2 ^ i)) ((alloc_mat w3 (fun _ => 0) 60 _ rfl).alloc (.cells (matF fun _ => 0) 60))
  have hst' : Sem.run Tryd.prog (storeX (.pointer (some ⟨w3.heap.size, 0, none⟩)) (.agg (matA 0))) ((w3.alloc (.cells (matF fun _ => 0) 60)).alloc (.cells (matF fun _ => 0) 60)) = .ok () w4 := hst
  have hz4 : MatAt w4 (w3.heap.size + 1) (fun _ => 0) := by
    obtain ⟨t, h⟩ := alloc_mat (w3.alloc (.cells (matF fun _ => 0) 60)) (fun _ => 0) 60 (w3.heap.size + 1) (by simp)
    exact ⟨t, (ho4 _ (by omega)).trans h⟩
  have hm4 : MatAt w4 w.heap.size (fun _ => 0) := ((hm0'.alloc _).alloc _).below hb4 (by omega)
  have hB4 : Below w.heap.size w w4 := ((hB3.alloc (by omega) _).alloc (by simp; omega) _).trans (hb4.mono (by omega))
  obtain ⟨w5, hst5, hm5, hb5, hs5, ho5⟩ := storeX_run (g := fun i => halfN 8 (2 ^ i)) hz4
  have hst5' : Sem.run Tryd.prog (storeX (.pointer (some ⟨w3.heap.size + 1, 0, none⟩)) (.agg (matA 8))) w4 = .ok () w5 := hst5
  have HM0 := Lib.hid (hm4.below hb5 (by omega))
  have HM1 := Lib.hid (show MatAt w5 w3.heap.size (fun i => halfN (8 * 0) (2 ^ i)) from hm1.below hb5 (by omega))
  have HM2 := Lib.hid (show MatAt w5 (w3.heap.size + 1) (fun i => halfN (8 * 1) (2 ^ i)) from hm5)
  have HB := Lib.hid (hB4.trans (hb5.mono (by omega)))
  have hb1 : w.heap.size < w3.heap.size := by omega
  clear hst hst5 hm0' hB3 hm1 hb4 hs4 ho4 hz4 hm4 hB4 hm5 hb5 hs5 ho5
  go_wp2_with fail
  clear hst' hst5' hz hsz hsz3
  generalize w3.heap.size = b at *
  go_loopw [0] (fun i wr => ∃ n p q : Nat, n ≤ N ∧ i = .int .i64 n ∧ Hid (p + q * n = N) ∧ Hid (MatAt wr w.heap.size (fun _ => 0)) ∧ Hid (MatAt wr b (fun i => halfN (8 * p) (2 ^ i))) ∧ Hid (MatAt wr (b + 1) (fun i => halfN (8 * q) (2 ^ i))) ∧ Hid (Below w.heap.size w wr)) (fun i _ => (intOf i).toNat)
  case atStart => exact ⟨N, 0, 1, Nat.le_refl _, rfl, Lib.hid (by omega), HM0, HM1, HM2, HB⟩
  case round =>
    obtain ⟨n, p, q, hn, rfl, hpq, m0, m1, m2, hB⟩ := hrel
    clear HM0 HM1 HM2 HB
    by_cases hlt : 0 < n
    · have htest := andI_test n (by omega)
      have hl2 : Sem.run Tryd.prog (loadX (.pointer (some ⟨b + 1, 0, none⟩))) wr = .ok (.agg (matA (8 * q))) wr := loadX_run m2.out
      by_cases hp : n % 2 = 1
      · rw [decide_eq_true hp] at htest
        have hl1 : Sem.run Tryd.prog (loadX (.pointer (some ⟨b, 0, none⟩))) wr = .ok (.agg (matA (8 * p))) wr := loadX_run m1.out
        have HA := Lib.hid (after_any (8 * q) (8 * p) wr)
        have HP := Lib.hid hp
        clear hp
        go_wp2_with fail
        refine HA.out.mono ?_
        rintro e w2 ⟨rfl, hb2⟩
        have k0 := m0.out.below hb2 m0.out.lt
        have k2 := m2.out.below hb2 m2.out.lt
        obtain ⟨w3, hst, hm1, hb3, hs3, ho3⟩ := storeX_run (g := fun i => halfN (8 * q + 8 * p) (2 ^ i)) (m1.out.below hb2 m1.out.lt)
        have hst' : Sem.run Tryd.prog (storeX (.pointer (some ⟨b, 0, none⟩)) (.agg (matA (8 * q + 8 * p)))) w2 = .ok () w3 := hst
        have k0' : MatAt w3 w.heap.size (fun _ => 0) := k0.below hb3 (by omega)
        have k2' : MatAt w3 (b + 1) (fun i => halfN (8 * q) (2 ^ i)) := by obtain ⟨t, h⟩ := k2; exact ⟨t, (ho3 _ (by omega)).trans h⟩
        have hB3 := (hB.out.trans (hb2.mono hB.out.size)).trans (hb3.mono (by omega))
        have hl2' : Sem.run Tryd.prog (loadX (.pointer (some ⟨b + 1, 0, none⟩))) w3 = .ok (.agg (matA (8 * q))) w3 := loadX_run k2'
        have HA2 := Lib.hid (after_any (8 * q) (8 * q) w3)
        have K0 := Lib.hid k0'
        have K1 := Lib.hid hm1
        have K2 := Lib.hid k2'
        have HB3 := Lib.hid hB3
        clear hl1 hl2 HA hst k0 k2 hb2 hm1 hb3 hs3 ho3 k0' k2' hB3
        go_wp2_with fail
        refine HA2.out.mono ?_
        rintro e w4 ⟨rfl, hb4⟩
        have k0 := K0.out.below hb4 K0.out.lt
        have k1 := K1.out.below hb4 K1.out.lt
        obtain ⟨w5, hst, hm2, hb5, hs5, ho5⟩ := storeX_run (g := fun i => halfN (8 * q + 8 * q) (2 ^ i)) (K2.out.below hb4 K2.out.lt)
        have hst5 : Sem.run Tryd.prog (storeX (.pointer (some ⟨b + 1, 0, none⟩)) (.agg (matA (8 * q + 8 * q)))) w4 = .ok () w5 := hst
        have K0' := Lib.hid (k0.below hb5 (by omega))
        have K1' := Lib.hid (show MatAt w5 b (fun i => halfN (8 * (p + q)) (2 ^ i)) by rw [Nat.mul_add, Nat.add_comm]; exact k1.below hb5 (by omega))
        have K2' := Lib.hid (show MatAt w5 (b + 1) (fun i => halfN (8 * (2 * q)) (2 ^ i)) by rw [show 8 * (2 * q) = 8 * q + 8 * q from by omega]; exact hm2)
        have HB5 := Lib.hid ((HB3.out.trans (hb4.mono HB3.out.size)).trans (hb5.mono (by omega)))
        clear hst hl2' hst' HA2 K0 K1 K2 HB3 k0 k1 hb4 hm2 hb5 hs5 ho5
        go_wp2_with fail
        go_roundw
        case rel => exact ⟨n / 2, p + q, 2 * q, by omega, by simp, Lib.hid (by have := hpq.out; have := HP.out; rw [show p + q + 2 * q * (n / 2) = p + q * (1 + 2 * (n / 2)) by rw [Nat.mul_add]; rw [← Nat.mul_assoc, Nat.mul_comm q 2]; omega, show 1 + 2 * (n / 2) = n by omega]; exact hpq.out), K0', K1', K2', HB5⟩
        case measure => simp [intOf]; omega
      · rw [decide_eq_false hp] at htest
        have HP := Lib.hid hp
        have HA2 := Lib.hid (after_any (8 * q) (8 * q) wr)
        clear hp
        go_wp2_with fail
        refine HA2.out.mono ?_
        rintro e w4 ⟨rfl, hb4⟩
        have k0 := m0.out.below hb4 m0.out.lt
        have k1 := m1.out.below hb4 m1.out.lt
        obtain ⟨w5, hst, hm2, hb5, hs5, ho5⟩ := storeX_run (g := fun i => halfN (8 * q + 8 * q) (2 ^ i)) (m2.out.below hb4 m2.out.lt)
        have hst5 : Sem.run Tryd.prog (storeX (.pointer (some ⟨b + 1, 0, none⟩)) (.agg (matA (8 * q + 8 * q)))) w4 = .ok () w5 := hst
        have K0' := Lib.hid (k0.below hb5 (by omega))
        have K1' := Lib.hid (k1.below hb5 (by omega))
        have K2' := Lib.hid (show MatAt w5 (b + 1) (fun i => halfN (8 * (2 * q)) (2 ^ i)) by rw [show 8 * (2 * q) = 8 * q + 8 * q from by omega]; exact hm2)
        have HB5 := Lib.hid ((hB.out.trans (hb4.mono hB.out.size)).trans (hb5.mono (by omega)))
        clear hst hl2 HA2 k0 k1 hb4 hm2 hb5 hs5 ho5
        go_wp2_with fail
        go_roundw
        case rel => exact ⟨n / 2, p, 2 * q, by omega, by simp, Lib.hid (by have := hpq.out; have := HP.out; rw [show 2 * q * (n / 2) = q * (2 * (n / 2)) by rw [← Nat.mul_assoc, Nat.mul_comm q 2], show 2 * (n / 2) = n by omega]; exact hpq.out), K0', K1', K2', HB5⟩
        case measure => simp [intOf]; omega
    · obtain rfl : n = 0 := by omega
      have hpn : p = N := by have := hpq.out; simpa using this
      subst hpn
      have hl : Sem.run Tryd.prog (loadX (.pointer (some ⟨b, 0, none⟩))) wr = .ok (.agg (matA (8 * p))) wr := loadX_run m1.out
      obtain ⟨w3, hst, hm3, hb3, -, -⟩ := storeX_run (g := fun i => halfN (8 * p) (2 ^ i)) m0.out
      have hst' : Sem.run Tryd.prog (storeX (.pointer (some ⟨w.heap.size, 0, none⟩)) (.agg (matA (8 * p)))) wr = .ok () w3 := hst
      have HM := Lib.hid hm3
      have HB := Lib.hid (hB.out.trans hb3)
      clear hst hm3 hb3
      go_wp2_with fail
      exact ret_mat rfl rfl rfl HM.out ⟨rfl, HB.out⟩
end Go.Proofs.YtadaohjphgpdnaaDoor
