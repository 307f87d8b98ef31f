/- BitsLogic: the walk, maps of equal numbers of bits. -/
import Derived.Test.YtaiaibpcpcndgaaLogicB
namespace Go.Proofs.Ytaiaibpcpcndgaa
open Go.RowKit

set_option maxHeartbeats 8000000 in
set_option maxRecDepth 100000 in
theorem logic_eq (n1 n2 : Nat) (u u2 : Value) (l l2 : List UInt8) (w : World) (hn1 : n1 ≤ 65535) (hn2 : n2 ≤ 65535) (hv : BytesAt w u l) (hl : l.length ≤ maxLen) (hv2 : BytesAt w u2 l2) (hl2 : l2.length ≤ maxLen) (hlen : n1 % 601 = n2 % 601) :
    Calls Try.prog 5 #[.agg #[.int .u16 n1, .int .u16 n2], u, u2] w fun e w' => e = .returned (.bool true) ∧ Below w.heap.size w w' := by
  have HLEN := Lib.hid hlen
  obtain ⟨w0, hw0⟩ : ∃ w0, w.alloc (.cells #[.int .u16 n1, .int .u16 n2] 47) = w0 := ⟨_, rfl⟩
  have hB0 : Below w.heap.size w w0 := by rw [← hw0]; exact (Below.refl _ _).alloc (Nat.le_refl _) _
  have hc0 : w0.cell? ⟨w.heap.size, 0, none⟩ = some (.int .u16 n1) := by rw [← hw0]; simp
  have hc1 : w0.cell? ⟨w.heap.size, 1, none⟩ = some (.int .u16 n2) := by rw [← hw0]; simp
  have hs0 : w0.heap.size = w.heap.size + 1 := by rw [← hw0]; simp
  have HV1 := Lib.hid (hv.below hB0)
  have HV2 := Lib.hid (hv2.below hB0)
  have HC1 := Lib.hid hc1
  have HS0 := Lib.hid hs0
  have HB0 := Lib.hid hB0
  clear hlen hv hv2 hc1 hs0 hB0
  go_enter Try.func5, Try.ntmps5
  go_wp2_with fail
  (try rw [hw0])
  clear hw0
  refine (made_any n1 u l w0 hn1 HV1.out hl).mono ?_
  rintro e w1 ⟨bx, vx, Lx, rfl, hLx, hm_x, hj_x, -, hB1, -⟩
  have HLx := Lib.hid hLx
  clear hLx hc0
  have Hx_1 := Lib.hid hm_x
  clear hm_x
  have Jx_1 := Lib.hid hj_x
  clear hj_x
  have hc1' := (hB1.cell (p := ⟨w.heap.size, 1, none⟩) (by have := HS0.out; simp; omega)).trans HC1.out
  have HV2' := Lib.hid (HV2.out.below hB1)
  go_wp2_with fail
  refine (made_any n2 u2 l2 w1 hn2 HV2'.out hl2).mono ?_
  rintro e w2 ⟨by_, vy, Ly, rfl, hLy, hm_y, hj_y, -, hB2, -⟩
  have HLy := Lib.hid hLy
  clear hLy hc1'
  have Hx_2 := Lib.hid (Hx_1.out.below hB2 Hx_1.out.lt)
  have Jx_2 := Lib.hid (Jx_1.out.below hB2)
  have Hy_2 := Lib.hid hm_y
  clear hm_y
  have Jy_2 := Lib.hid hj_y
  clear hj_y
  have hLx6 : Lx.length ≤ 4096 := by have := HLx.out; omega
  have hLy6 : Ly.length ≤ 4096 := by have := HLy.out; omega
  have HXY : Hid (Lx.length = Ly.length) := Lib.hid (by rw [HLx.out, HLy.out]; exact HLEN.out)
  go_wp2_with fail
  refine (and_any bx by_ Lx Ly w2 Hx_2.out Hy_2.out HXY.out).mono ?_
  rintro e w3 ⟨ba, rfl, -, hm_a, hB3⟩
  have Hx_3 := Lib.hid (Hx_2.out.below hB3 Hx_2.out.lt)
  have Hy_3 := Lib.hid (Hy_2.out.below hB3 Hy_2.out.lt)
  have Jx_3 := Lib.hid (Jx_2.out.below hB3)
  have Jy_3 := Lib.hid (Jy_2.out.below hB3)
  have Ha_3 := Lib.hid hm_a
  clear hm_a
  go_wp2_with fail
  refine (or_any bx by_ Lx Ly w3 Hx_3.out Hy_3.out HXY.out).mono ?_
  rintro e w4 ⟨bo, rfl, -, hm_o, hB4⟩
  have Hx_4 := Lib.hid (Hx_3.out.below hB4 Hx_3.out.lt)
  have Hy_4 := Lib.hid (Hy_3.out.below hB4 Hy_3.out.lt)
  have Ha_4 := Lib.hid (Ha_3.out.below hB4 Ha_3.out.lt)
  have Jx_4 := Lib.hid (Jx_3.out.below hB4)
  have Jy_4 := Lib.hid (Jy_3.out.below hB4)
  have Ho_4 := Lib.hid hm_o
  clear hm_o
  go_wp2_with fail
  refine (xor_any bx by_ Lx Ly w4 Hx_4.out Hy_4.out HXY.out).mono ?_
  rintro e w5 ⟨br, rfl, -, hm_r, hB5⟩
  have Hx_5 := Lib.hid (Hx_4.out.below hB5 Hx_4.out.lt)
  have Hy_5 := Lib.hid (Hy_4.out.below hB5 Hy_4.out.lt)
  have Ha_5 := Lib.hid (Ha_4.out.below hB5 Ha_4.out.lt)
  have Ho_5 := Lib.hid (Ho_4.out.below hB5 Ho_4.out.lt)
  have Jx_5 := Lib.hid (Jx_4.out.below hB5)
  have Jy_5 := Lib.hid (Jy_4.out.below hB5)
  have Hr_5 := Lib.hid hm_r
  clear hm_r
  go_wp2_with fail
  refine (refAnd_any vx vy Lx Ly w5 Jx_5.out Jy_5.out HXY.out hLx6).mono ?_
  rintro e w6 ⟨va, rfl, hj_a, hB6, -⟩
  have Hx_6 := Lib.hid (Hx_5.out.below hB6 Hx_5.out.lt)
  have Hy_6 := Lib.hid (Hy_5.out.below hB6 Hy_5.out.lt)
  have Ha_6 := Lib.hid (Ha_5.out.below hB6 Ha_5.out.lt)
  have Ho_6 := Lib.hid (Ho_5.out.below hB6 Ho_5.out.lt)
  have Hr_6 := Lib.hid (Hr_5.out.below hB6 Hr_5.out.lt)
  have Jx_6 := Lib.hid (Jx_5.out.below hB6)
  have Jy_6 := Lib.hid (Jy_5.out.below hB6)
  have Ja_6 := Lib.hid hj_a
  clear hj_a
  go_wp2_with fail
  refine (refOr_any vx vy Lx Ly w6 Jx_6.out Jy_6.out HXY.out hLx6).mono ?_
  rintro e w7 ⟨vo, rfl, hj_o, hB7, -⟩
  have Hx_7 := Lib.hid (Hx_6.out.below hB7 Hx_6.out.lt)
  have Hy_7 := Lib.hid (Hy_6.out.below hB7 Hy_6.out.lt)
  have Ha_7 := Lib.hid (Ha_6.out.below hB7 Ha_6.out.lt)
  have Ho_7 := Lib.hid (Ho_6.out.below hB7 Ho_6.out.lt)
  have Hr_7 := Lib.hid (Hr_6.out.below hB7 Hr_6.out.lt)
  have Jx_7 := Lib.hid (Jx_6.out.below hB7)
  have Jy_7 := Lib.hid (Jy_6.out.below hB7)
  have Ja_7 := Lib.hid (Ja_6.out.below hB7)
  have Jo_7 := Lib.hid hj_o
  clear hj_o
  go_wp2_with fail
  refine (refXor_any vx vy Lx Ly w7 Jx_7.out Jy_7.out HXY.out hLx6).mono ?_
  rintro e w8 ⟨vr, rfl, hj_r, hB8, -⟩
  have Hx_8 := Lib.hid (Hx_7.out.below hB8 Hx_7.out.lt)
  have Hy_8 := Lib.hid (Hy_7.out.below hB8 Hy_7.out.lt)
  have Ha_8 := Lib.hid (Ha_7.out.below hB8 Ha_7.out.lt)
  have Ho_8 := Lib.hid (Ho_7.out.below hB8 Ho_7.out.lt)
  have Hr_8 := Lib.hid (Hr_7.out.below hB8 Hr_7.out.lt)
  have Jx_8 := Lib.hid (Jx_7.out.below hB8)
  have Jy_8 := Lib.hid (Jy_7.out.below hB8)
  have Ja_8 := Lib.hid (Ja_7.out.below hB8)
  have Jo_8 := Lib.hid (Jo_7.out.below hB8)
  have Jr_8 := Lib.hid hj_r
  clear hj_r
  have HS := Lib.hid (fun (W : World) (h1 : MapAt W bx Lx) (h2 : MapAt W by_ Ly) => sameM_any bx by_ Lx Ly W h1 h2)
  have HBx := Lib.hid (fun (W : World) (h : BoolsAt W vx Lx) => refBytes_any vx Lx W h hLx6)
  have HBy := Lib.hid (fun (W : World) (h : BoolsAt W vy Ly) => refBytes_any vy Ly W h hLy6)
  have HXv := Lib.hid (Jx_8.out.val)
  have HYv := Lib.hid (Jy_8.out.val)
  have K1 : Hid (Below w.heap.size w w1) := Lib.hid (HB0.out.trans (hB1.mono HB0.out.size))
  have K2 : Hid (Below w.heap.size w w2) := Lib.hid (K1.out.trans (hB2.mono K1.out.size))
  have K3 : Hid (Below w.heap.size w w3) := Lib.hid (K2.out.trans (hB3.mono K2.out.size))
  have K4 : Hid (Below w.heap.size w w4) := Lib.hid (K3.out.trans (hB4.mono K3.out.size))
  have K5 : Hid (Below w.heap.size w w5) := Lib.hid (K4.out.trans (hB5.mono K4.out.size))
  have K6 : Hid (Below w.heap.size w w6) := Lib.hid (K5.out.trans (hB6.mono K5.out.size))
  have K7 : Hid (Below w.heap.size w w7) := Lib.hid (K6.out.trans (hB7.mono K6.out.size))
  have K8 : Hid (Below w.heap.size w w8) := Lib.hid (K7.out.trans (hB8.mono K7.out.size))
  obtain ⟨sx, dx, hvx⟩ := HXv.out
  obtain ⟨sy, dy, hvy⟩ := HYv.out
  subst hvx
  subst hvy
  have HG := Lib.hid (show LgS bx by_ (.slice sx Lx.length dx) (.slice sy Ly.length dy) Lx Ly w8 w8 from ⟨Hx_8.out, Hy_8.out, Jx_8.out, Jy_8.out, Below.refl _ _⟩)
  clear hB1 hB2 hB3 hB4 hB5 hB6 hB7 hB8 K1 K2 K3 K4 K5 K6 K7 Hx_1 Jx_1 Hx_2 Jx_2 Hy_2 Jy_2 Hx_3 Jx_3 Hy_3 Jy_3 Ha_3 Hx_4 Jx_4 Hy_4 Jy_4 Ha_4 Ho_4 Hx_5 Jx_5 Hy_5 Jy_5 Ha_5 Ho_5 Hr_5 Hx_6 Jx_6 Hy_6 Jy_6 Ha_6 Ja_6 Ho_6 Hr_6 Hx_7 Jx_7 Hy_7 Jy_7 Ha_7 Ja_7 Ho_7 Jo_7 Hr_7 HV1 HV2 HV2' HC1 HS0 HB0 HLEN HLx HLy hl hl2 hn1 hn2 HXv HYv
  by_cases hqb : bytesL Lx = bytesL Ly
  · obtain rfl : Lx = Ly := by have := bytesL_inj HXY.out; rw [hqb, beq_self_eq_true] at this; exact (beq_iff_eq.1 this.symm)
    have hqs : (Lx == Lx) = true := beq_self_eq_true _
    clear hqb
    have HS := Lib.hid (fun W h1 h2 => (show Calls Try.prog 21 #[.pointer (some ⟨bx, 0, none⟩), .pointer (some ⟨by_, 0, none⟩)] W fun e w' => e = .returned (.bool true) ∧ Below W.heap.size W w' from by have := HS.out W h1 h2; rw [hqs] at this; exact this))
    go_wp2_with fail
    rw [show Op.convert 23 9 (Operand.tmp 97) = cv98 from rfl, show Op.convert 23 9 (Operand.tmp 100) = cv101 from rfl]
    have hcv98 : cv98 = Op.convert 23 9 (Operand.tmp 97) := rfl
    have hcv101 : cv101 = Op.convert 23 9 (Operand.tmp 100) := rfl
    apply cutG
    case r =>
      intro MAIN
      go_region_held3 (LgS bx by_ (.slice sx Lx.length dx) (.slice sy Lx.length dy) Lx Lx w8) (first | assumption | exact HG.out | exact HG.out.drew | (exact LgS.below (by assumption) (by assumption))) ((first | (go_at_call 21; refine (HS.out _ (LgS.mx (by first | assumption | exact HG.out.drew | exact HG.out)) (LgS.my (by first | assumption | exact HG.out.drew | exact HG.out))).mono ?_; rintro e wA ⟨rfl, hBA⟩; have hS9 := LgS.below (by first | assumption | exact HG.out.drew | exact HG.out) hBA) | (go_at_call 28; refine (refBytes_any _ _ _ (by first | exact LgS.lx (by assumption) | exact LgS.ly (by assumption)) (by assumption)).mono ?_; (first | (have hzt := hz1; rintro e wC ⟨z2, rfl, -, hz2, hBC⟩; have cz2 := hz2.conv; have czo := (hz1.below hBC).conv; have hS9 := LgS.below (by assumption) hBC; clear hzt) | (rintro e wB ⟨z1, rfl, -, hz1, hBB⟩; have cz1 := hz1.conv; have hS9 := LgS.below (by assumption) hBB))) | fail))
      all_goals
        clear hz1 hz2 cz1 cz2 czo hBB hBC
        revert hS9
        revert wC
        revert z2
        revert z1
        exact MAIN.out
    case m =>
      intro z1 z2 wC hS9 _
      have hbz := hS9.bel
      have Ha_q := Lib.hid (Ha_8.out.below hbz Ha_8.out.lt)
      have Ja_q := Lib.hid (Ja_8.out.below hbz)
      have Ho_q := Lib.hid (Ho_8.out.below hbz Ho_8.out.lt)
      have Jo_q := Lib.hid (Jo_8.out.below hbz)
      have Hr_q := Lib.hid (Hr_8.out.below hbz Hr_8.out.lt)
      have Jr_q := Lib.hid (Jr_8.out.below hbz)
      have Hx_q := Lib.hid (Hx_8.out.below hbz Hx_8.out.lt)
      have Jx_q := Lib.hid (Jx_8.out.below hbz)
      have Hy_q := Lib.hid (Hy_8.out.below hbz Hy_8.out.lt)
      have Jy_q := Lib.hid (Jy_8.out.below hbz)
      have K_q := Lib.hid (K8.out.trans (hbz.mono K8.out.size))
      clear hbz hS9 HG HS HBx HBy Ha_8 Ja_8 Ho_8 Jo_8 Hr_8 Jr_8 Hx_8 Jx_8 Hy_8 Jy_8 K8
      all_goals go_wp2_with fail
      refine (same_any ba (andL Lx Lx) (andL Lx Lx) _ _ Ha_q.out Ja_q.out (lenLe _ _ Ha_q.out)).mono ?_
      rw [beq_self_eq_true]
      rintro e wq0 ⟨rfl, hBq0⟩
      have Ho_q0 := Lib.hid (Ho_q.out.below hBq0 Ho_q.out.lt)
      have Jo_q0 := Lib.hid (Jo_q.out.below hBq0)
      have Hr_q0 := Lib.hid (Hr_q.out.below hBq0 Hr_q.out.lt)
      have Jr_q0 := Lib.hid (Jr_q.out.below hBq0)
      have Hx_q0 := Lib.hid (Hx_q.out.below hBq0 Hx_q.out.lt)
      have Jx_q0 := Lib.hid (Jx_q.out.below hBq0)
      have Hy_q0 := Lib.hid (Hy_q.out.below hBq0 Hy_q.out.lt)
      have Jy_q0 := Lib.hid (Jy_q.out.below hBq0)
      have K_q0 := Lib.hid (K_q.out.trans (hBq0.mono K_q.out.size))
      clear hBq0 K_q Ha_q Ja_q Ho_q Jo_q Hr_q Jr_q Hx_q Jx_q Hy_q Jy_q
      go_wp2_with fail
      refine (same_any bo (orL Lx Lx) (orL Lx Lx) _ _ Ho_q0.out Jo_q0.out (lenLe _ _ Ho_q0.out)).mono ?_
      rw [beq_self_eq_true]
      rintro e wq1 ⟨rfl, hBq1⟩
      have Hr_q1 := Lib.hid (Hr_q0.out.below hBq1 Hr_q0.out.lt)
      have Jr_q1 := Lib.hid (Jr_q0.out.below hBq1)
      have Hx_q1 := Lib.hid (Hx_q0.out.below hBq1 Hx_q0.out.lt)
      have Jx_q1 := Lib.hid (Jx_q0.out.below hBq1)
      have Hy_q1 := Lib.hid (Hy_q0.out.below hBq1 Hy_q0.out.lt)
      have Jy_q1 := Lib.hid (Jy_q0.out.below hBq1)
      have K_q1 := Lib.hid (K_q0.out.trans (hBq1.mono K_q0.out.size))
      clear hBq1 K_q0 Ho_q0 Jo_q0 Hr_q0 Jr_q0 Hx_q0 Jx_q0 Hy_q0 Jy_q0
      go_wp2_with fail
      refine (same_any br (xorL Lx Lx) (xorL Lx Lx) _ _ Hr_q1.out Jr_q1.out (lenLe _ _ Hr_q1.out)).mono ?_
      rw [beq_self_eq_true]
      rintro e wq2 ⟨rfl, hBq2⟩
      have Hx_q2 := Lib.hid (Hx_q1.out.below hBq2 Hx_q1.out.lt)
      have Jx_q2 := Lib.hid (Jx_q1.out.below hBq2)
      have Hy_q2 := Lib.hid (Hy_q1.out.below hBq2 Hy_q1.out.lt)
      have Jy_q2 := Lib.hid (Jy_q1.out.below hBq2)
      have K_q2 := Lib.hid (K_q1.out.trans (hBq2.mono K_q1.out.size))
      clear hBq2 K_q1 Hr_q1 Jr_q1 Hx_q1 Jx_q1 Hy_q1 Jy_q1
      go_wp2_with fail
      refine (same_any bx Lx Lx _ _ Hx_q2.out Jx_q2.out (lenLe _ _ Hx_q2.out)).mono ?_
      rw [beq_self_eq_true]
      rintro e wq3 ⟨rfl, hBq3⟩
      have Hy_q3 := Lib.hid (Hy_q2.out.below hBq3 Hy_q2.out.lt)
      have Jy_q3 := Lib.hid (Jy_q2.out.below hBq3)
      have K_q3 := Lib.hid (K_q2.out.trans (hBq3.mono K_q2.out.size))
      clear hBq3 K_q2 Hx_q2 Jx_q2 Hy_q2 Jy_q2
      go_wp2_with fail
      refine (same_any by_ Lx Lx _ _ Hy_q3.out Jy_q3.out (lenLe _ _ Hy_q3.out)).mono ?_
      rw [beq_self_eq_true]
      rintro e wq4 ⟨rfl, hBq4⟩
      have K_q4 := Lib.hid (K_q3.out.trans (hBq4.mono K_q3.out.size))
      clear hBq4 K_q3 Hy_q3 Jy_q3
      go_wp2_with fail
      refine (awake_any _).mono ?_
      rintro e wl ⟨rfl, hBl⟩
      have K_l := Lib.hid (K_q4.out.trans (hBl.mono K_q4.out.size))
      clear hBl
      go_wp2_with fail
      go_ret
      exact ⟨rfl, K_l.out⟩
  · have hqq : (bytesL Lx == bytesL Ly) = false := beq_eq_false_iff_ne.2 hqb
    have hqs : (Lx == Ly) = false := by rw [← bytesL_inj HXY.out]; exact hqq
    clear hqb
    have HS := Lib.hid (fun W h1 h2 => (show Calls Try.prog 21 #[.pointer (some ⟨bx, 0, none⟩), .pointer (some ⟨by_, 0, none⟩)] W fun e w' => e = .returned (.bool false) ∧ Below W.heap.size W w' from by have := HS.out W h1 h2; rw [hqs] at this; exact this))
    go_wp2_with fail
    rw [show Op.convert 23 9 (Operand.tmp 97) = cv98 from rfl, show Op.convert 23 9 (Operand.tmp 100) = cv101 from rfl]
    have hcv98 : cv98 = Op.convert 23 9 (Operand.tmp 97) := rfl
    have hcv101 : cv101 = Op.convert 23 9 (Operand.tmp 100) := rfl
    rw [show Op.call { callee := Callee.builtin Builtin.len, args := #[Operand.tmp 104], argTypes := #[27] } = ln105 from rfl, show Op.call { callee := Callee.builtin Builtin.len, args := #[Operand.tmp 106], argTypes := #[27] } = ln107 from rfl, show Op.binOp BinOp.eql 3 (Operand.tmp 105) (Operand.tmp 107) 3 = eq108 from rfl]
    rw (config := {occs := .pos [2]}) [show Op.move (Operand.tmp 8) = mv8 from rfl]
    rw (config := {occs := .pos [2]}) [show Op.move (Operand.tmp 10) = mv10 from rfl]
    have hl105 : ln105 = Op.call { callee := Callee.builtin Builtin.len, args := #[Operand.tmp 104], argTypes := #[27] } := rfl
    have hl107 : ln107 = Op.call { callee := Callee.builtin Builtin.len, args := #[Operand.tmp 106], argTypes := #[27] } := rfl
    have he108 : eq108 = Op.binOp BinOp.eql 3 (Operand.tmp 105) (Operand.tmp 107) 3 := rfl
    have hmv8 : mv8 = Op.move (Operand.tmp 8) := rfl
    have hmv10 : mv10 = Op.move (Operand.tmp 10) := rfl
    apply cutG
    case r =>
      intro MAIN
      go_region_held3 (LgS bx by_ (.slice sx Lx.length dx) (.slice sy Ly.length dy) Lx Ly w8) (first | assumption | exact HG.out | exact HG.out.drew | (exact LgS.below (by assumption) (by assumption))) ((first | (go_at_call 21; refine (HS.out _ (LgS.mx (by first | assumption | exact HG.out.drew | exact HG.out)) (LgS.my (by first | assumption | exact HG.out.drew | exact HG.out))).mono ?_; rintro e wA ⟨rfl, hBA⟩; have hS9 := LgS.below (by first | assumption | exact HG.out.drew | exact HG.out) hBA) | (go_at_call 28; refine (refBytes_any _ _ _ (by first | exact LgS.lx (by assumption) | exact LgS.ly (by assumption)) (by assumption)).mono ?_; (first | (have hzt := hz1; rintro e wC ⟨z2, rfl, -, hz2, hBC⟩; have cz2 := hz2.conv; have czo := (hz1.below hBC).conv; have hS9 := LgS.below (by assumption) hBC; clear hzt) | (rintro e wB ⟨z1, rfl, -, hz1, hBB⟩; have cz1 := hz1.conv; have hS9 := LgS.below (by assumption) hBB))) | fail))
      all_goals
        clear hz1 hz2 cz1 cz2 czo hBB hBC
        revert hS9
        revert wC
        revert z2
        revert z1
        exact MAIN.out
    case m =>
      intro z1 z2 wC hS9 _
      have hbz := hS9.bel
      have Ha_q := Lib.hid (Ha_8.out.below hbz Ha_8.out.lt)
      have Ja_q := Lib.hid (Ja_8.out.below hbz)
      have Ho_q := Lib.hid (Ho_8.out.below hbz Ho_8.out.lt)
      have Jo_q := Lib.hid (Jo_8.out.below hbz)
      have Hr_q := Lib.hid (Hr_8.out.below hbz Hr_8.out.lt)
      have Jr_q := Lib.hid (Jr_8.out.below hbz)
      have Hx_q := Lib.hid (Hx_8.out.below hbz Hx_8.out.lt)
      have Jx_q := Lib.hid (Jx_8.out.below hbz)
      have Hy_q := Lib.hid (Hy_8.out.below hbz Hy_8.out.lt)
      have Jy_q := Lib.hid (Jy_8.out.below hbz)
      have K_q := Lib.hid (K8.out.trans (hbz.mono K8.out.size))
      clear hbz hS9 HG HS HBx HBy Ha_8 Ja_8 Ho_8 Jo_8 Hr_8 Jr_8 Hx_8 Jx_8 Hy_8 Jy_8 K8
      all_goals go_wp2_with fail
      refine (same_any ba (andL Lx Ly) (andL Lx Ly) _ _ Ha_q.out Ja_q.out (lenLe _ _ Ha_q.out)).mono ?_
      rw [beq_self_eq_true]
      rintro e wq0 ⟨rfl, hBq0⟩
      have Ho_q0 := Lib.hid (Ho_q.out.below hBq0 Ho_q.out.lt)
      have Jo_q0 := Lib.hid (Jo_q.out.below hBq0)
      have Hr_q0 := Lib.hid (Hr_q.out.below hBq0 Hr_q.out.lt)
      have Jr_q0 := Lib.hid (Jr_q.out.below hBq0)
      have Hx_q0 := Lib.hid (Hx_q.out.below hBq0 Hx_q.out.lt)
      have Jx_q0 := Lib.hid (Jx_q.out.below hBq0)
      have Hy_q0 := Lib.hid (Hy_q.out.below hBq0 Hy_q.out.lt)
      have Jy_q0 := Lib.hid (Jy_q.out.below hBq0)
      have K_q0 := Lib.hid (K_q.out.trans (hBq0.mono K_q.out.size))
      clear hBq0 K_q Ha_q Ja_q Ho_q Jo_q Hr_q Jr_q Hx_q Jx_q Hy_q Jy_q
      go_wp2_with fail
      refine (same_any bo (orL Lx Ly) (orL Lx Ly) _ _ Ho_q0.out Jo_q0.out (lenLe _ _ Ho_q0.out)).mono ?_
      rw [beq_self_eq_true]
      rintro e wq1 ⟨rfl, hBq1⟩
      have Hr_q1 := Lib.hid (Hr_q0.out.below hBq1 Hr_q0.out.lt)
      have Jr_q1 := Lib.hid (Jr_q0.out.below hBq1)
      have Hx_q1 := Lib.hid (Hx_q0.out.below hBq1 Hx_q0.out.lt)
      have Jx_q1 := Lib.hid (Jx_q0.out.below hBq1)
      have Hy_q1 := Lib.hid (Hy_q0.out.below hBq1 Hy_q0.out.lt)
      have Jy_q1 := Lib.hid (Jy_q0.out.below hBq1)
      have K_q1 := Lib.hid (K_q0.out.trans (hBq1.mono K_q0.out.size))
      clear hBq1 K_q0 Ho_q0 Jo_q0 Hr_q0 Jr_q0 Hx_q0 Jx_q0 Hy_q0 Jy_q0
      go_wp2_with fail
      refine (same_any br (xorL Lx Ly) (xorL Lx Ly) _ _ Hr_q1.out Jr_q1.out (lenLe _ _ Hr_q1.out)).mono ?_
      rw [beq_self_eq_true]
      rintro e wq2 ⟨rfl, hBq2⟩
      have Hx_q2 := Lib.hid (Hx_q1.out.below hBq2 Hx_q1.out.lt)
      have Jx_q2 := Lib.hid (Jx_q1.out.below hBq2)
      have Hy_q2 := Lib.hid (Hy_q1.out.below hBq2 Hy_q1.out.lt)
      have Jy_q2 := Lib.hid (Jy_q1.out.below hBq2)
      have K_q2 := Lib.hid (K_q1.out.trans (hBq2.mono K_q1.out.size))
      clear hBq2 K_q1 Hr_q1 Jr_q1 Hx_q1 Jx_q1 Hy_q1 Jy_q1
      go_wp2_with fail
      refine (same_any bx Lx Lx _ _ Hx_q2.out Jx_q2.out (lenLe _ _ Hx_q2.out)).mono ?_
      rw [beq_self_eq_true]
      rintro e wq3 ⟨rfl, hBq3⟩
      have Hy_q3 := Lib.hid (Hy_q2.out.below hBq3 Hy_q2.out.lt)
      have Jy_q3 := Lib.hid (Jy_q2.out.below hBq3)
      have K_q3 := Lib.hid (K_q2.out.trans (hBq3.mono K_q2.out.size))
      clear hBq3 K_q2 Hx_q2 Jx_q2 Hy_q2 Jy_q2
      go_wp2_with fail
      refine (same_any by_ Ly Ly _ _ Hy_q3.out Jy_q3.out (lenLe _ _ Hy_q3.out)).mono ?_
      rw [beq_self_eq_true]
      rintro e wq4 ⟨rfl, hBq4⟩
      have K_q4 := Lib.hid (K_q3.out.trans (hBq4.mono K_q3.out.size))
      clear hBq4 K_q3 Hy_q3 Jy_q3
      go_wp2_with fail
      refine (awake_any _).mono ?_
      rintro e wl ⟨rfl, hBl⟩
      have K_l := Lib.hid (K_q4.out.trans (hBl.mono K_q4.out.size))
      clear hBl
      go_wp2_with fail
      go_ret
      exact ⟨rfl, K_l.out⟩
end Go.Proofs.Ytaiaibpcpcndgaa
