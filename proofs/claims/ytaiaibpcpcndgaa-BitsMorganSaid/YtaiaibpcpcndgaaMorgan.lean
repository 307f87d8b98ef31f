/- BitsMorgan: the walk. -/
import Derived.Test.YtaiaibpcpcndgaaLogicM
import Derived.Test.YtaiaibpcpcndgaaMade
import Derived.Test.YtaiaibpcpcndgaaAwake
namespace Go.Proofs.Ytaiaibpcpcndgaa
open Go.RowKit

theorem getD_past (L : List Bool) (i : Nat) (h : L.length ≤ i) : L.getD i false = false := by
  rw [List.getD_eq_getElem?_getD, List.getElem?_eq_none h]; rfl
theorem notL_len (L : List Bool) : (notL L).length = L.length := partK_len _ _ _
theorem andL_len (L M : List Bool) : (andL L M).length = L.length := partK_len _ _ _
theorem orL_len (L M : List Bool) : (orL L M).length = L.length := partK_len _ _ _
theorem xorL_len (L M : List Bool) : (xorL L M).length = L.length := partK_len _ _ _
theorem notL_get (L : List Bool) (i : Nat) (h : i < L.length) : (notL L).getD i false = !L.getD i false := by
  unfold notL; rw [partK_get, decide_eq_true h]; simp
theorem andL_get (L M : List Bool) (i : Nat) (h : i < L.length) : (andL L M).getD i false = (L.getD i false && M.getD i false) := by
  unfold andL; rw [partK_get, decide_eq_true h]; simp
theorem orL_get (L M : List Bool) (i : Nat) (h : i < L.length) : (orL L M).getD i false = (L.getD i false || M.getD i false) := by
  unfold orL; rw [partK_get, decide_eq_true h]; simp
theorem xorL_get (L M : List Bool) (i : Nat) (h : i < L.length) : (xorL L M).getD i false = (L.getD i false ^^ M.getD i false) := by
  unfold xorL; rw [partK_get, decide_eq_true h]; simp
theorem morgan (L M : List Bool) (h : L.length = M.length) : notL (andL L M) = orL (notL L) (notL M) := by
  apply list_ext (by rw [notL_len, andL_len, orL_len, notL_len])
  intro i hi
  rw [notL_len, andL_len] at hi
  rw [notL_get _ _ (by rw [andL_len]; exact hi), andL_get _ _ _ hi, orL_get _ _ _ (by rw [notL_len]; exact hi), notL_get _ _ hi, notL_get _ _ (by omega), Bool.not_and]
theorem not_not (L : List Bool) : notL (notL L) = L := by
  apply list_ext (by rw [notL_len, notL_len])
  intro i hi
  rw [notL_len, notL_len] at hi
  rw [notL_get _ _ (by rw [notL_len]; exact hi), notL_get _ _ hi, Bool.not_not]
theorem xor_is (L M : List Bool) (h : L.length = M.length) : andL (orL L M) (notL (andL L M)) = xorL L M := by
  apply list_ext (by rw [andL_len, orL_len, xorL_len])
  intro i hi
  rw [andL_len, orL_len] at hi
  rw [andL_get _ _ _ (by rw [orL_len]; exact hi), orL_get _ _ _ hi, notL_get _ _ (by rw [andL_len]; exact hi), andL_get _ _ _ hi, xorL_get _ _ _ hi]
  cases L.getD i false <;> cases M.getD i false <;> rfl
theorem count_sum (L M : List Bool) : ∀ k, k ≤ L.length → countTo L 0 k + countTo M 0 k = countTo (andL L M) 0 k + countTo (orL L M) 0 k
  | 0, _ => rfl
  | k + 1, h => by
    have ih := count_sum L M k (by omega)
    rw [countTo, countTo, countTo, countTo, Nat.zero_add, andL_get _ _ _ (by omega), orL_get _ _ _ (by omega)]
    cases L.getD k false <;> cases M.getD k false <;> simp <;> omega
theorem count_all (b : Nat) (L : List Bool) (n : Nat) (w : World) (h : MapAt w b L) (hn : L.length = n) :
    Calls Try.prog 30 #[.pointer (some ⟨b, 0, none⟩), .int .i64 0, .int .i64 n] w fun r w' => r = .returned (.tuple #[.int .i64 (countTo L 0 n : Nat), .int .i64 0]) ∧ w = w' := by
  have hL := h.2
  subst hn
  have hr : inR L.length 0 (L.length : Int) = true := by unfold inR; exact decide_eq_true (by omega)
  have hc := count_any b L 0 L.length w h (by omega) (by omega) (by omega) (by omega)
  rw [lookE_of hr] at hc
  have hv : countN L 0 (L.length : Int) = (countTo L 0 L.length : Nat) := by
    unfold countN; rw [hr, if_pos rfl]; rfl
  rw [hv] at hc
  exact hc

set_option maxHeartbeats 4000000 in
set_option maxRecDepth 100000 in
theorem bitsMorgan_any (n : Nat) (u u2 : Value) (l l2 : List UInt8) (w : World) (hn : n ≤ 65535) (hv : BytesAt w u l) (hl : l.length ≤ maxLen) (hv2 : BytesAt w u2 l2) (hl2 : l2.length ≤ maxLen) :
    Calls Try.prog 6 #[.int .u16 n, u, u2] w fun e w' => e = .returned (.bool true) ∧ Below w.heap.size w w' := by
  go_enter Try.func6, Try.ntmps6
  go_wp2_with fail
  refine (made_any n u l w hn hv hl).mono ?_
  rintro e w1 ⟨bx, vx, Lx, rfl, hLx, hm_x, -, -, hB1, -⟩
  have HLx := Lib.hid hLx
  clear hLx
  have Hx_1 := Lib.hid hm_x
  clear hm_x
  go_wp2_with fail
  refine (made_any n u2 l2 w1 hn (hv2.below hB1) hl2).mono ?_
  rintro e w2 ⟨by_, vy, Ly, rfl, hLy, hm_y, -, -, hB2, -⟩
  have HLy := Lib.hid hLy
  clear hLy
  have Hx_2 := Lib.hid (Hx_1.out.below hB2 Hx_1.out.lt)
  have Hy_2 := Lib.hid hm_y
  clear hm_y
  clear hv hv2 hl hl2
  have HXY : Hid (Lx.length = Ly.length) := Lib.hid (HLx.out.trans HLy.out.symm)
  go_wp2_with fail
  refine (and_any bx by_ Lx Ly w2 Hx_2.out Hy_2.out HXY.out).mono ?_
  rintro e w3 ⟨ba, rfl, -, hm_a, hB3⟩
  have Hx_3 := Lib.hid (Hx_2.out.below hB3 Hx_2.out.lt)
  have Hy_3 := Lib.hid (Hy_2.out.below hB3 Hy_2.out.lt)
  have Ha_3 := Lib.hid hm_a
  clear hm_a
  go_wp2_with fail
  refine (or_any bx by_ Lx Ly w3 Hx_3.out Hy_3.out HXY.out).mono ?_
  rintro e w4 ⟨bo, rfl, -, hm_o, hB4⟩
  have Hx_4 := Lib.hid (Hx_3.out.below hB4 Hx_3.out.lt)
  have Hy_4 := Lib.hid (Hy_3.out.below hB4 Hy_3.out.lt)
  have Ha_4 := Lib.hid (Ha_3.out.below hB4 Ha_3.out.lt)
  have Ho_4 := Lib.hid hm_o
  clear hm_o
  go_wp2_with fail
  refine (xor_any bx by_ Lx Ly w4 Hx_4.out Hy_4.out HXY.out).mono ?_
  rintro e w5 ⟨br, rfl, -, hm_r, hB5⟩
  have Hx_5 := Lib.hid (Hx_4.out.below hB5 Hx_4.out.lt)
  have Hy_5 := Lib.hid (Hy_4.out.below hB5 Hy_4.out.lt)
  have Ha_5 := Lib.hid (Ha_4.out.below hB5 Ha_4.out.lt)
  have Ho_5 := Lib.hid (Ho_4.out.below hB5 Ho_4.out.lt)
  have Hr_5 := Lib.hid hm_r
  clear hm_r
  go_wp2_with fail
  refine (not_any bx Lx w5 Hx_5.out).mono ?_
  rintro e w6 ⟨bu, rfl, -, hm_u, hB6⟩
  have Hx_6 := Lib.hid (Hx_5.out.below hB6 Hx_5.out.lt)
  have Hy_6 := Lib.hid (Hy_5.out.below hB6 Hy_5.out.lt)
  have Ha_6 := Lib.hid (Ha_5.out.below hB6 Ha_5.out.lt)
  have Ho_6 := Lib.hid (Ho_5.out.below hB6 Ho_5.out.lt)
  have Hr_6 := Lib.hid (Hr_5.out.below hB6 Hr_5.out.lt)
  have Hu_6 := Lib.hid hm_u
  clear hm_u
  go_wp2_with fail
  refine (not_any by_ Ly w6 Hy_6.out).mono ?_
  rintro e w7 ⟨bv, rfl, -, hm_v, hB7⟩
  have Hx_7 := Lib.hid (Hx_6.out.below hB7 Hx_6.out.lt)
  have Hy_7 := Lib.hid (Hy_6.out.below hB7 Hy_6.out.lt)
  have Ha_7 := Lib.hid (Ha_6.out.below hB7 Ha_6.out.lt)
  have Ho_7 := Lib.hid (Ho_6.out.below hB7 Ho_6.out.lt)
  have Hr_7 := Lib.hid (Hr_6.out.below hB7 Hr_6.out.lt)
  have Hu_7 := Lib.hid (Hu_6.out.below hB7 Hu_6.out.lt)
  have Hv_7 := Lib.hid hm_v
  clear hm_v
  go_wp2_with fail
  refine (not_any ba _ w7 Ha_7.out).mono ?_
  rintro e w8 ⟨bp, rfl, -, hm_p, hB8⟩
  have Hx_8 := Lib.hid (Hx_7.out.below hB8 Hx_7.out.lt)
  have Hy_8 := Lib.hid (Hy_7.out.below hB8 Hy_7.out.lt)
  have Ha_8 := Lib.hid (Ha_7.out.below hB8 Ha_7.out.lt)
  have Ho_8 := Lib.hid (Ho_7.out.below hB8 Ho_7.out.lt)
  have Hr_8 := Lib.hid (Hr_7.out.below hB8 Hr_7.out.lt)
  have Hu_8 := Lib.hid (Hu_7.out.below hB8 Hu_7.out.lt)
  have Hv_8 := Lib.hid (Hv_7.out.below hB8 Hv_7.out.lt)
  have Hp_8 := Lib.hid hm_p
  clear hm_p
  go_wp2_with fail
  refine (or_any bu bv _ _ w8 Hu_8.out Hv_8.out (by rw [notL_len, notL_len]; exact HXY.out)).mono ?_
  rintro e w9 ⟨bq, rfl, -, hm_q, hB9⟩
  have Hx_9 := Lib.hid (Hx_8.out.below hB9 Hx_8.out.lt)
  have Hy_9 := Lib.hid (Hy_8.out.below hB9 Hy_8.out.lt)
  have Ha_9 := Lib.hid (Ha_8.out.below hB9 Ha_8.out.lt)
  have Ho_9 := Lib.hid (Ho_8.out.below hB9 Ho_8.out.lt)
  have Hr_9 := Lib.hid (Hr_8.out.below hB9 Hr_8.out.lt)
  have Hu_9 := Lib.hid (Hu_8.out.below hB9 Hu_8.out.lt)
  have Hv_9 := Lib.hid (Hv_8.out.below hB9 Hv_8.out.lt)
  have Hp_9 := Lib.hid (Hp_8.out.below hB9 Hp_8.out.lt)
  have Hq_9 := Lib.hid hm_q
  clear hm_q
  go_wp2_with fail
  refine (not_any bu _ w9 Hu_9.out).mono ?_
  rintro e w10 ⟨bk, rfl, -, hm_k, hB10⟩
  have Hx_10 := Lib.hid (Hx_9.out.below hB10 Hx_9.out.lt)
  have Hy_10 := Lib.hid (Hy_9.out.below hB10 Hy_9.out.lt)
  have Ha_10 := Lib.hid (Ha_9.out.below hB10 Ha_9.out.lt)
  have Ho_10 := Lib.hid (Ho_9.out.below hB10 Ho_9.out.lt)
  have Hr_10 := Lib.hid (Hr_9.out.below hB10 Hr_9.out.lt)
  have Hu_10 := Lib.hid (Hu_9.out.below hB10 Hu_9.out.lt)
  have Hv_10 := Lib.hid (Hv_9.out.below hB10 Hv_9.out.lt)
  have Hp_10 := Lib.hid (Hp_9.out.below hB10 Hp_9.out.lt)
  have Hq_10 := Lib.hid (Hq_9.out.below hB10 Hq_9.out.lt)
  have Hk_10 := Lib.hid hm_k
  clear hm_k
  go_wp2_with fail
  refine (and_any bo bp _ _ w10 Ho_10.out Hp_10.out (by rw [orL_len, notL_len, andL_len])).mono ?_
  rintro e w11 ⟨bw, rfl, -, hm_w, hB11⟩
  have Hx_11 := Lib.hid (Hx_10.out.below hB11 Hx_10.out.lt)
  have Hy_11 := Lib.hid (Hy_10.out.below hB11 Hy_10.out.lt)
  have Ha_11 := Lib.hid (Ha_10.out.below hB11 Ha_10.out.lt)
  have Ho_11 := Lib.hid (Ho_10.out.below hB11 Ho_10.out.lt)
  have Hr_11 := Lib.hid (Hr_10.out.below hB11 Hr_10.out.lt)
  have Hu_11 := Lib.hid (Hu_10.out.below hB11 Hu_10.out.lt)
  have Hv_11 := Lib.hid (Hv_10.out.below hB11 Hv_10.out.lt)
  have Hp_11 := Lib.hid (Hp_10.out.below hB11 Hp_10.out.lt)
  have Hq_11 := Lib.hid (Hq_10.out.below hB11 Hq_10.out.lt)
  have Hk_11 := Lib.hid (Hk_10.out.below hB11 Hk_10.out.lt)
  have Hw_11 := Lib.hid hm_w
  clear hm_w
  go_wp2_with fail
  have HS12 := Lib.hid (sameM_any bp bq _ _ w11 Hp_11.out Hq_11.out)
  rw [morgan _ _ HXY.out, beq_self_eq_true] at HS12
  refine HS12.out.mono ?_
  rintro e w12 ⟨rfl, hB12⟩
  have Hx_12 := Lib.hid (Hx_11.out.below hB12 Hx_11.out.lt)
  have Hy_12 := Lib.hid (Hy_11.out.below hB12 Hy_11.out.lt)
  have Ha_12 := Lib.hid (Ha_11.out.below hB12 Ha_11.out.lt)
  have Ho_12 := Lib.hid (Ho_11.out.below hB12 Ho_11.out.lt)
  have Hr_12 := Lib.hid (Hr_11.out.below hB12 Hr_11.out.lt)
  have Hu_12 := Lib.hid (Hu_11.out.below hB12 Hu_11.out.lt)
  have Hv_12 := Lib.hid (Hv_11.out.below hB12 Hv_11.out.lt)
  have Hp_12 := Lib.hid (Hp_11.out.below hB12 Hp_11.out.lt)
  have Hq_12 := Lib.hid (Hq_11.out.below hB12 Hq_11.out.lt)
  have Hk_12 := Lib.hid (Hk_11.out.below hB12 Hk_11.out.lt)
  have Hw_12 := Lib.hid (Hw_11.out.below hB12 Hw_11.out.lt)
  go_wp2_with fail
  have HS13 := Lib.hid (sameM_any bk bx _ _ w12 Hk_12.out Hx_12.out)
  rw [not_not, beq_self_eq_true] at HS13
  refine HS13.out.mono ?_
  rintro e w13 ⟨rfl, hB13⟩
  have Hx_13 := Lib.hid (Hx_12.out.below hB13 Hx_12.out.lt)
  have Hy_13 := Lib.hid (Hy_12.out.below hB13 Hy_12.out.lt)
  have Ha_13 := Lib.hid (Ha_12.out.below hB13 Ha_12.out.lt)
  have Ho_13 := Lib.hid (Ho_12.out.below hB13 Ho_12.out.lt)
  have Hr_13 := Lib.hid (Hr_12.out.below hB13 Hr_12.out.lt)
  have Hu_13 := Lib.hid (Hu_12.out.below hB13 Hu_12.out.lt)
  have Hv_13 := Lib.hid (Hv_12.out.below hB13 Hv_12.out.lt)
  have Hp_13 := Lib.hid (Hp_12.out.below hB13 Hp_12.out.lt)
  have Hq_13 := Lib.hid (Hq_12.out.below hB13 Hq_12.out.lt)
  have Hk_13 := Lib.hid (Hk_12.out.below hB13 Hk_12.out.lt)
  have Hw_13 := Lib.hid (Hw_12.out.below hB13 Hw_12.out.lt)
  go_wp2_with fail
  have HS14 := Lib.hid (sameM_any bw br _ _ w13 Hw_13.out Hr_13.out)
  rw [xor_is _ _ HXY.out, beq_self_eq_true] at HS14
  refine HS14.out.mono ?_
  rintro e w14 ⟨rfl, hB14⟩
  have Hx_14 := Lib.hid (Hx_13.out.below hB14 Hx_13.out.lt)
  have Hy_14 := Lib.hid (Hy_13.out.below hB14 Hy_13.out.lt)
  have Ha_14 := Lib.hid (Ha_13.out.below hB14 Ha_13.out.lt)
  have Ho_14 := Lib.hid (Ho_13.out.below hB14 Ho_13.out.lt)
  have Hr_14 := Lib.hid (Hr_13.out.below hB14 Hr_13.out.lt)
  have Hu_14 := Lib.hid (Hu_13.out.below hB14 Hu_13.out.lt)
  have Hv_14 := Lib.hid (Hv_13.out.below hB14 Hv_13.out.lt)
  have Hp_14 := Lib.hid (Hp_13.out.below hB14 Hp_13.out.lt)
  have Hq_14 := Lib.hid (Hq_13.out.below hB14 Hq_13.out.lt)
  have Hk_14 := Lib.hid (Hk_13.out.below hB14 Hk_13.out.lt)
  have Hw_14 := Lib.hid (Hw_13.out.below hB14 Hw_13.out.lt)
  go_wp2_with fail
  refine (len_any bx Lx w14 Hx_14.out).mono ?_
  rintro e w' ⟨rfl, rfl⟩
  obtain ⟨N, hN⟩ : ∃ N, Lx.length = N := ⟨_, rfl⟩
  have HN := Lib.hid hN
  have HSUM := Lib.hid (count_sum Lx Ly N (by omega))
  have C1 := Lib.hid (count_all bx Lx N w14 Hx_14.out hN)
  have C2 := Lib.hid (count_all by_ Ly N w14 Hy_14.out (by rw [← HXY.out]; exact hN))
  have C3 := Lib.hid (count_all ba _ N w14 Ha_14.out (by rw [andL_len]; exact hN))
  have C4 := Lib.hid (count_all bo _ N w14 Ho_14.out (by rw [orL_len]; exact hN))
  rw [hN]
  have hNle : N ≤ 4096 := by have := Hx_14.out.2; omega
  have z1 := countTo_le Lx 0 N; have z2 := countTo_le Ly 0 N; have z3 := countTo_le (andL Lx Ly) 0 N; have z4 := countTo_le (orL Lx Ly) 0 N
  clear hN
  generalize countTo Lx 0 N = c1 at *
  generalize countTo Ly 0 N = c2 at *
  generalize countTo (andL Lx Ly) 0 N = c3 at *
  generalize countTo (orL Lx Ly) 0 N = c4 at *
  have heq : ((c1 : Int) + c2 == (c3 : Int) + c4) = true := beq_iff_eq.2 (by have := HSUM.out; omega)
  go_wp2_with fail
  refine C1.out.mono ?_
  rintro e w' ⟨rfl, rfl⟩
  go_wp2_with fail
  refine C2.out.mono ?_
  rintro e w' ⟨rfl, rfl⟩
  go_wp2_with fail
  refine C3.out.mono ?_
  rintro e w' ⟨rfl, rfl⟩
  go_wp2_with fail
  refine C4.out.mono ?_
  rintro e w' ⟨rfl, rfl⟩
  go_wp2_with fail
  refine (awake_any w14).mono ?_
  rintro e w15 ⟨rfl, hB15⟩
  go_wp2_with fail
  go_ret
  have s0 := hB1.size
  have k1 := hB1
  have k2 : Below w.heap.size w w2 := k1.trans (hB2.mono k1.size)
  have k3 : Below w.heap.size w w3 := k2.trans (hB3.mono k2.size)
  have k4 : Below w.heap.size w w4 := k3.trans (hB4.mono k3.size)
  have k5 : Below w.heap.size w w5 := k4.trans (hB5.mono k4.size)
  have k6 : Below w.heap.size w w6 := k5.trans (hB6.mono k5.size)
  have k7 : Below w.heap.size w w7 := k6.trans (hB7.mono k6.size)
  have k8 : Below w.heap.size w w8 := k7.trans (hB8.mono k7.size)
  have k9 : Below w.heap.size w w9 := k8.trans (hB9.mono k8.size)
  have k10 : Below w.heap.size w w10 := k9.trans (hB10.mono k9.size)
  have k11 : Below w.heap.size w w11 := k10.trans (hB11.mono k10.size)
  have k12 : Below w.heap.size w w12 := k11.trans (hB12.mono k11.size)
  have k13 : Below w.heap.size w w13 := k12.trans (hB13.mono k12.size)
  have k14 : Below w.heap.size w w14 := k13.trans (hB14.mono k13.size)
  have k15 : Below w.heap.size w w15 := k14.trans (hB15.mono k14.size)
  exact ⟨rfl, k15⟩
end Go.Proofs.Ytaiaibpcpcndgaa
