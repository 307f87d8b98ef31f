/- BitsLogic: the walk, maps of different numbers of bits. -/
import Derived.Test.YtaiaibpcpcndgaaLogicB
namespace Go.Proofs.Ytaiaibpcpcndgaa
open Go.RowKit

set_option maxHeartbeats 8000000 in
set_option maxRecDepth 100000 in
theorem logic_ne (n1 n2 : Nat) (u u2 : Value) (l l2 : List UInt8) (w : World) (hn1 : n1 ≤ 65535) (hn2 : n2 ≤ 65535) (hv : BytesAt w u l) (hl : l.length ≤ maxLen) (hv2 : BytesAt w u2 l2) (hl2 : l2.length ≤ maxLen) (hlen : n1 % 601 ≠ n2 % 601) :
    Calls Try.prog 5 #[.agg #[.int .u16 n1, .int .u16 n2], u, u2] w fun e w' => e = .returned (.bool true) ∧ Below w.heap.size w w' := by
  have HLEN := Lib.hid hlen
  obtain ⟨w0, hw0⟩ : ∃ w0, w.alloc (.cells #[.int .u16 n1, .int .u16 n2] 47) = w0 := ⟨_, rfl⟩
  have hB0 : Below w.heap.size w w0 := by rw [← hw0]; exact (Below.refl _ _).alloc (Nat.le_refl _) _
  have hc0 : w0.cell? ⟨w.heap.size, 0, none⟩ = some (.int .u16 n1) := by rw [← hw0]; simp
  have hc1 : w0.cell? ⟨w.heap.size, 1, none⟩ = some (.int .u16 n2) := by rw [← hw0]; simp
  have hs0 : w0.heap.size = w.heap.size + 1 := by rw [← hw0]; simp
  have HV1 := Lib.hid (hv.below hB0)
  have HV2 := Lib.hid (hv2.below hB0)
  have HC1 := Lib.hid hc1
  have HS0 := Lib.hid hs0
  have HB0 := Lib.hid hB0
  clear hlen hv hv2 hc1 hs0 hB0
  go_enter Try.func5, Try.ntmps5
  go_wp2_with fail
  (try rw [hw0])
  clear hw0
  refine (made_any n1 u l w0 hn1 HV1.out hl).mono ?_
  rintro e w1 ⟨bx, vx, Lx, rfl, hLx, hm_x, hj_x, -, hB1, -⟩
  have HLx := Lib.hid hLx
  clear hLx hc0
  have Hx_1 := Lib.hid hm_x
  clear hm_x
  have Jx_1 := Lib.hid hj_x
  clear hj_x
  have hc1' := (hB1.cell (p := ⟨w.heap.size, 1, none⟩) (by have := HS0.out; simp; omega)).trans HC1.out
  have HV2' := Lib.hid (HV2.out.below hB1)
  go_wp2_with fail
  refine (made_any n2 u2 l2 w1 hn2 HV2'.out hl2).mono ?_
  rintro e w2 ⟨by_, vy, Ly, rfl, hLy, hm_y, hj_y, -, hB2, -⟩
  have HLy := Lib.hid hLy
  clear hLy hc1'
  have Hx_2 := Lib.hid (Hx_1.out.below hB2 Hx_1.out.lt)
  have Jx_2 := Lib.hid (Jx_1.out.below hB2)
  have Hy_2 := Lib.hid hm_y
  clear hm_y
  have Jy_2 := Lib.hid hj_y
  clear hj_y
  have hLx6 : Lx.length ≤ 4096 := by have := HLx.out; omega
  have hLy6 : Ly.length ≤ 4096 := by have := HLy.out; omega
  have HXY : Hid (Lx.length ≠ Ly.length) := Lib.hid (by rw [HLx.out, HLy.out]; exact HLEN.out)
  go_wp2_with fail
  refine (and_len bx by_ Lx Ly w2 Hx_2.out Hy_2.out HXY.out).mono ?_
  rintro e w3 ⟨rfl, hB3⟩
  have Hx_3 := Lib.hid (Hx_2.out.below hB3 Hx_2.out.lt)
  have Hy_3 := Lib.hid (Hy_2.out.below hB3 Hy_2.out.lt)
  have Jx_3 := Lib.hid (Jx_2.out.below hB3)
  have Jy_3 := Lib.hid (Jy_2.out.below hB3)
  go_wp2_with fail
  refine (or_len bx by_ Lx Ly w3 Hx_3.out Hy_3.out HXY.out).mono ?_
  rintro e w4 ⟨rfl, hB4⟩
  have Hx_4 := Lib.hid (Hx_3.out.below hB4 Hx_3.out.lt)
  have Hy_4 := Lib.hid (Hy_3.out.below hB4 Hy_3.out.lt)
  have Jx_4 := Lib.hid (Jx_3.out.below hB4)
  have Jy_4 := Lib.hid (Jy_3.out.below hB4)
  go_wp2_with fail
  refine (xor_len bx by_ Lx Ly w4 Hx_4.out Hy_4.out HXY.out).mono ?_
  rintro e w5 ⟨rfl, hB5⟩
  have Hx_5 := Lib.hid (Hx_4.out.below hB5 Hx_4.out.lt)
  have Hy_5 := Lib.hid (Hy_4.out.below hB5 Hy_4.out.lt)
  have Jx_5 := Lib.hid (Jx_4.out.below hB5)
  have Jy_5 := Lib.hid (Jy_4.out.below hB5)
  go_wp2_with fail
  refine (refAnd_len vx vy Lx Ly w5 Jx_5.out Jy_5.out HXY.out).mono ?_
  rintro e w6' ⟨rfl, rfl⟩
  go_wp2_with fail
  refine (refOr_len vx vy Lx Ly w5 Jx_5.out Jy_5.out HXY.out).mono ?_
  rintro e w6' ⟨rfl, rfl⟩
  go_wp2_with fail
  refine (refXor_len vx vy Lx Ly w5 Jx_5.out Jy_5.out HXY.out).mono ?_
  rintro e w6' ⟨rfl, rfl⟩
  have HS := Lib.hid (fun (W : World) (h1 : MapAt W bx Lx) (h2 : MapAt W by_ Ly) => sameM_any bx by_ Lx Ly W h1 h2)
  have HBx := Lib.hid (fun (W : World) (h : BoolsAt W vx Lx) => refBytes_any vx Lx W h hLx6)
  have HBy := Lib.hid (fun (W : World) (h : BoolsAt W vy Ly) => refBytes_any vy Ly W h hLy6)
  have HXv := Lib.hid (Jx_5.out.val)
  have HYv := Lib.hid (Jy_5.out.val)
  have K1 : Hid (Below w.heap.size w w1) := Lib.hid (HB0.out.trans (hB1.mono HB0.out.size))
  have K2 : Hid (Below w.heap.size w w2) := Lib.hid (K1.out.trans (hB2.mono K1.out.size))
  have K3 : Hid (Below w.heap.size w w3) := Lib.hid (K2.out.trans (hB3.mono K2.out.size))
  have K4 : Hid (Below w.heap.size w w4) := Lib.hid (K3.out.trans (hB4.mono K3.out.size))
  have K5 : Hid (Below w.heap.size w w5) := Lib.hid (K4.out.trans (hB5.mono K4.out.size))
  obtain ⟨sx, dx, hvx⟩ := HXv.out
  obtain ⟨sy, dy, hvy⟩ := HYv.out
  subst hvx
  subst hvy
  have HG := Lib.hid (show LgS bx by_ (.slice sx Lx.length dx) (.slice sy Ly.length dy) Lx Ly w5 w5 from ⟨Hx_5.out, Hy_5.out, Jx_5.out, Jy_5.out, Below.refl _ _⟩)
  clear hB1 hB2 hB3 hB4 hB5 K1 K2 K3 K4 Hx_1 Jx_1 Hx_2 Jx_2 Hy_2 Jy_2 Hx_3 Jx_3 Hy_3 Jy_3 Hx_4 Jx_4 Hy_4 Jy_4 HV1 HV2 HV2' HC1 HS0 HB0 HLEN HLx HLy hl hl2 hn1 hn2 HXv HYv
  by_cases hqb : bytesL Lx = bytesL Ly
  · have hqs : (Lx == Ly) = false := beq_eq_false_iff_ne.2 (fun e => HXY.out (by rw [e]))
    have hln : ((Lx.length : Int) == (Ly.length : Int)) = false := by rw [beq_eq_false_iff_ne]; have := HXY.out; omega
    have HS := Lib.hid (fun W h1 h2 => (show Calls Try.prog 21 #[.pointer (some ⟨bx, 0, none⟩), .pointer (some ⟨by_, 0, none⟩)] W fun e w' => e = .returned (.bool false) ∧ Below W.heap.size W w' from by have := HS.out W h1 h2; rw [hqs] at this; exact this))
    go_wp2_with fail
    rw [show Op.convert 23 9 (Operand.tmp 97) = cv98 from rfl, show Op.convert 23 9 (Operand.tmp 100) = cv101 from rfl]
    have hcv98 : cv98 = Op.convert 23 9 (Operand.tmp 97) := rfl
    have hcv101 : cv101 = Op.convert 23 9 (Operand.tmp 100) := rfl
    apply cutG
    case r =>
      intro MAIN
      go_region_held3 (LgS bx by_ (.slice sx Lx.length dx) (.slice sy Ly.length dy) Lx Ly w5) (first | assumption | exact HG.out | exact HG.out.drew | (exact LgS.below (by assumption) (by assumption))) ((first | (go_at_call 21; refine (HS.out _ (LgS.mx (by first | assumption | exact HG.out.drew | exact HG.out)) (LgS.my (by first | assumption | exact HG.out.drew | exact HG.out))).mono ?_; rintro e wA ⟨rfl, hBA⟩; have hS9 := LgS.below (by first | assumption | exact HG.out.drew | exact HG.out) hBA) | (go_at_call 28; refine (refBytes_any _ _ _ (by first | exact LgS.lx (by assumption) | exact LgS.ly (by assumption)) (by assumption)).mono ?_; (first | (have hzt := hz1; rintro e wC ⟨z2, rfl, -, hz2, hBC⟩; have cz2 := hz2.conv; have czo := (hz1.below hBC).conv; have hS9 := LgS.below (by assumption) hBC; clear hzt) | (rintro e wB ⟨z1, rfl, -, hz1, hBB⟩; have cz1 := hz1.conv; have hS9 := LgS.below (by assumption) hBB))) | fail))
      all_goals
        clear hz1 hz2 cz1 cz2 czo hBB hBC
        revert hS9
        revert wC
        revert z2
        revert z1
        exact MAIN.out
    case m =>
      intro z1 z2 wC hS9 _
      have hbz := hS9.bel
      have K_q := Lib.hid (K5.out.trans (hbz.mono K5.out.size))
      clear hbz hS9
      all_goals go_wp2_with fail
      refine (awake_any _).mono ?_
      rintro e wl ⟨rfl, hBl⟩
      have K_l := Lib.hid (K_q.out.trans (hBl.mono K_q.out.size))
      clear hBl
      go_wp2_with fail
      go_ret
      exact ⟨rfl, K_l.out⟩
  · have hqs : (Lx == Ly) = false := beq_eq_false_iff_ne.2 (fun e => HXY.out (by rw [e]))
    have hln : ((Lx.length : Int) == (Ly.length : Int)) = false := by rw [beq_eq_false_iff_ne]; have := HXY.out; omega
    have hqq : (bytesL Lx == bytesL Ly) = false := beq_eq_false_iff_ne.2 hqb
    clear hqb
    have HS := Lib.hid (fun W h1 h2 => (show Calls Try.prog 21 #[.pointer (some ⟨bx, 0, none⟩), .pointer (some ⟨by_, 0, none⟩)] W fun e w' => e = .returned (.bool false) ∧ Below W.heap.size W w' from by have := HS.out W h1 h2; rw [hqs] at this; exact this))
    go_wp2_with fail
    rw [show Op.convert 23 9 (Operand.tmp 97) = cv98 from rfl, show Op.convert 23 9 (Operand.tmp 100) = cv101 from rfl]
    have hcv98 : cv98 = Op.convert 23 9 (Operand.tmp 97) := rfl
    have hcv101 : cv101 = Op.convert 23 9 (Operand.tmp 100) := rfl
    rw [show Op.call { callee := Callee.builtin Builtin.len, args := #[Operand.tmp 104], argTypes := #[27] } = ln105 from rfl, show Op.call { callee := Callee.builtin Builtin.len, args := #[Operand.tmp 106], argTypes := #[27] } = ln107 from rfl, show Op.binOp BinOp.eql 3 (Operand.tmp 105) (Operand.tmp 107) 3 = eq108 from rfl]
    rw (config := {occs := .pos [2]}) [show Op.move (Operand.tmp 8) = mv8 from rfl]
    rw (config := {occs := .pos [2]}) [show Op.move (Operand.tmp 10) = mv10 from rfl]
    have hl105 : ln105 = Op.call { callee := Callee.builtin Builtin.len, args := #[Operand.tmp 104], argTypes := #[27] } := rfl
    have hl107 : ln107 = Op.call { callee := Callee.builtin Builtin.len, args := #[Operand.tmp 106], argTypes := #[27] } := rfl
    have he108 : eq108 = Op.binOp BinOp.eql 3 (Operand.tmp 105) (Operand.tmp 107) 3 := rfl
    have hmv8 : mv8 = Op.move (Operand.tmp 8) := rfl
    have hmv10 : mv10 = Op.move (Operand.tmp 10) := rfl
    apply cutG
    case r =>
      intro MAIN
      go_region_held3 (LgS bx by_ (.slice sx Lx.length dx) (.slice sy Ly.length dy) Lx Ly w5) (first | assumption | exact HG.out | exact HG.out.drew | (exact LgS.below (by assumption) (by assumption))) ((first | (go_at_call 21; refine (HS.out _ (LgS.mx (by first | assumption | exact HG.out.drew | exact HG.out)) (LgS.my (by first | assumption | exact HG.out.drew | exact HG.out))).mono ?_; rintro e wA ⟨rfl, hBA⟩; have hS9 := LgS.below (by first | assumption | exact HG.out.drew | exact HG.out) hBA) | (go_at_call 28; refine (refBytes_any _ _ _ (by first | exact LgS.lx (by assumption) | exact LgS.ly (by assumption)) (by assumption)).mono ?_; (first | (have hzt := hz1; rintro e wC ⟨z2, rfl, -, hz2, hBC⟩; have cz2 := hz2.conv; have czo := (hz1.below hBC).conv; have hS9 := LgS.below (by assumption) hBC; clear hzt) | (rintro e wB ⟨z1, rfl, -, hz1, hBB⟩; have cz1 := hz1.conv; have hS9 := LgS.below (by assumption) hBB))) | fail))
      all_goals
        clear hz1 hz2 cz1 cz2 czo hBB hBC
        revert hS9
        revert wC
        revert z2
        revert z1
        exact MAIN.out
    case m =>
      intro z1 z2 wC hS9 _
      have hbz := hS9.bel
      have K_q := Lib.hid (K5.out.trans (hbz.mono K5.out.size))
      clear hbz hS9
      all_goals go_wp2_with fail
      refine (awake_any _).mono ?_
      rintro e wl ⟨rfl, hBl⟩
      have K_l := Lib.hid (K_q.out.trans (hBl.mono K_q.out.size))
      clear hBl
      go_wp2_with fail
      go_ret
      exact ⟨rfl, K_l.out⟩
end Go.Proofs.Ytaiaibpcpcndgaa
