/- The reference's Patch and Same. -/
import Derived.Test.YtadaohjphgpdnaaDoorPatch
namespace Go.Proofs.YtadaohjphgpdnaaDoor
open Go.RowKit
attribute [local go_sem ↓] sliceX_eq

theorem refPatch_no (v : Value) (l : List UInt8) (at_ : Int) (want : Nat) (w : World) (hv : BytesAt w v l) (hl : l.length ≤ maxLen) (h : at_ < 0 ∨ (l.length : Int) - 4 < at_) :
    Calls Tryd.prog 23 #[v, .int .i64 at_, .int .u32 want] w fun e w' => e = .returned (.tuple #[.slice none 0 0, .int .i64 7]) ∧ Below w.heap.size w w' := by
  unfold maxLen at hl
  obtain ⟨s, d, rfl⟩ := hv.shape
  clear hv
  by_cases h0 : at_ < 0
  · have d1 : decide (at_ < 0) = true := decide_eq_true h0
    clear h h0
    go_enter Tryd.func23, Tryd.ntmps23
    go_wp2_with fail
    go_ret2
    exact ⟨rfl, Below.refl _ _⟩
  · have d1 : decide (at_ < 0) = false := decide_eq_false h0
    have d2 : decide ((l.length : Int) - 4 < at_) = true := decide_eq_true (by omega)
    clear h h0
    go_enter Tryd.func23, Tryd.ntmps23
    go_wp2_with fail
    go_ret2
    exact ⟨rfl, Below.refl _ _⟩

theorem undosV_at (l : List UInt8) (x i : Nat) (hi : i < l.length) : undosV x (l.drop i) = backN 8 (undosV x (l.drop (i + 1))) ^^^ l[i].toNat := by
  rw [List.drop_eq_getElem_cons hi]; rfl
theorem patR_def (l : List UInt8) (k want : Nat) : patR l k want = backN (8 * 4) (undosV (want ^^^ allV) (l.drop (k + 4))) := rfl
theorem byteK_pow (x j : Nat) : (byteK x j).toNat = x / 256 ^ j % 256 := byteK_nat x j
theorem div_pow_succ (x j : Nat) : x / 256 ^ j / 256 = x / 256 ^ (j + 1) := by rw [Nat.div_div_eq_div_mul, Nat.pow_succ]

set_option maxHeartbeats 1000000 in
set_option maxRecDepth 100000 in
theorem refPatch_any (g o d : Nat) (l : List UInt8) (k want : Nat) (w : World) (hv : BytesAt w (.slice (some ⟨g, o, none⟩) l.length d) l) (hcap : l.length ≤ d) (hl : l.length ≤ 2000) (hk : k + 4 ≤ l.length) (hw : want < 4294967296) :
    Calls Tryd.prog 23 #[.slice (some ⟨g, o, none⟩) l.length d, .int .i64 k, .int .u32 want] w (PatchP (patV l k want) w) := by
  have d1 : decide ((k : Int) < 0) = false := decide_eq_false (by omega)
  have d2 : decide ((l.length : Int) - 4 < k) = false := decide_eq_false (by omega)
  have hx0 : bits .xor .u32 (want : Int) 4294967295 = ((want ^^^ allV : Nat) : Int) := xor32 want allV hw allV_lt
  have hx1 := xor_lt hw allV_lt
  have HV := Lib.hid hv
  have HU0 := Kp.mk (show undosV (want ^^^ allV) (l.drop l.length) = want ^^^ allV by rw [List.drop_length]; rfl)
  clear hv
  go_enter Tryd.func23, Tryd.ntmps23
  go_wp2_with fail
  go_loopw [8, 9] (fun a i wr => ∃ j x : Nat, k + 4 ≤ j ∧ j ≤ l.length ∧ i = .int .i64 ((j : Int) - 1) ∧ a = .int .u32 x ∧ Kp (x = undosV (want ^^^ allV) (l.drop j)) ∧ Hid (Below w.heap.size w wr)) (fun _ i _ => (intOf i + 1).toNat)
  case atStart => exact ⟨l.length, want ^^^ allV, hk, Nat.le_refl _, by simp, rfl, ⟨HU0.out.symm⟩, Lib.hid (Below.refl _ _)⟩
  case round =>
    obtain ⟨j, x, hj1, hj2, rfl, rfl, hx, hB⟩ := hrel
    have hxl : x < 4294967296 := by rw [hx.out]; exact undosV_lt _ hx1
    clear hx0
    by_cases hlt : k + 4 < j
    · obtain ⟨q, rfl⟩ : ∃ q, j = q + 1 := ⟨j - 1, by omega⟩
      have hq1 : ((q + 1 : Nat) : Int) - 1 = (q : Int) := by omega
      rw [hq1]
      have hql : q < l.length := by omega
      have HBK := Lib.hid (fun W => refBack_any x W hxl)
      rcases HV.out.below hB.out (Nat.le_refl _) with ⟨a, c, hva, hl0⟩ | ⟨g', i', c', hva, hg, hcs⟩
      · subst hl0; simp at hql
      · cases hva
        have hcl := hcs q hql
        have hby := byte_lt l q hql
        have HST := Kp.mk (undosV_at l (want ^^^ allV) q hql)
        have HXX := Kp.mk hx.out
        have hbk := backN_lt (k := 8) hxl
        have hxx : bits .xor .u32 (backN 8 x : Nat) (l[q].toNat : Nat) = ((backN 8 x ^^^ l[q].toNat : Nat) : Int) := xor32 _ _ hbk (by omega)
        generalize hbb : backN 8 x = bx at *
        have HBB := Kp.mk hbb
        generalize hzz : l[q].toNat = z at *
        have HZZ := Kp.mk hzz
        clear hx hcs hq1 hbb hzz
        go_wp2_with fail
        go_quiet ((go_at_call 43; exact Calls.quiet_of_same ((HBK.out _).mono (fun _ _ h => ⟨h.1, h.2.symm⟩))))
        go_wp2_with fail
        go_roundw
        case rel => exact ⟨q, bx ^^^ z, by omega, by omega, rfl, rfl, ⟨by first | rw [HST.out, ← HXX.out, HBB.out, HZZ.out] | rw [HST.out, ← HXX.out, HBB.out] | rw [HST.out, ← HXX.out]⟩, Lib.hid (hB.out.trans ⟨rfl, rfl, rfl, Nat.le_refl _, fun _ _ => rfl⟩)⟩
        case measure => simp [intOf]
    · obtain rfl : j = k + 4 := by omega
      obtain ⟨e9, he9⟩ : ∃ e9 : Int, ((k + 4 : Nat) : Int) - 1 = e9 := ⟨_, rfl⟩
      have d3 : decide ((k : Int) + 4 ≤ e9) = false := decide_eq_false (by omega)
      rw [he9]
      clear he9
      go_wp2_with fail
      go_loopw [8, 10] (fun a i wr => ∃ j y : Nat, j ≤ 4 ∧ i = .int .i64 j ∧ a = .int .u32 y ∧ Kp (y = backN (8 * j) x) ∧ Hid (Below w.heap.size w wr)) (fun _ i _ => 4 - (intOf i).toNat)
      case atStart => exact ⟨0, x, by omega, rfl, rfl, ⟨rfl⟩, hB⟩
      case round =>
        obtain ⟨j, y, hj, rfl, rfl, hy, hB2⟩ := hrel
        have hyl : y < 4294967296 := by rw [hy.out]; exact backN_lt hxl
        by_cases hlt4 : j < 4
        · have HBK := Lib.hid (fun W => refBack_any y W hyl)
          have HST := Kp.mk (show backN 8 y = backN (8 * (j + 1)) x by rw [hy.out, ← backN_add, Nat.mul_add, Nat.add_comm])
          generalize backN 8 y = y2 at *
          go_wp2_with fail
          refine (HBK.out _).mono ?_
          rintro e w9 ⟨rfl, rfl⟩
          go_wp2_with fail
          go_roundw
          case rel => exact ⟨j + 1, y2, by omega, by go_num, rfl, HST, hB2⟩
          case measure => simp [intOf]; omega
        · obtain rfl : j = 4 := by omega
          have hyp : y = patR l k want := by rw [patR_def, ← hx.out]; exact hy.out
          have hst := sliceX_to g o l.length d k (by omega) (k : Int) rfl
          rename_i wr
          have HVw := Lib.hid (HV.out.below hB2.out (Nat.le_refl _))
          have HCR := Lib.hid (refOn_any 0 (.slice (some ⟨g, o, none⟩) k d) (l.take k) wr (by omega) (HVw.out.take (d' := d) k (by omega)) (by rw [List.length_take]; unfold maxLen; omega))
          rw [show crcOn 0 (l.take k) = crcV (l.take k) from rfl] at HCR
          have HCL := Lib.hid (crcV_lt (l.take k))
          have hxx : bits .xor .u32 (y : Nat) (crcV (l.take k) : Nat) = ((y ^^^ crcV (l.take k) : Nat) : Int) := xor32 _ _ hyl HCL.out
          have hx2 : bits .xor .u32 ((y ^^^ crcV (l.take k) : Nat) : Int) 4294967295 = (patX l k want : Nat) := by
            rw [show (4294967295 : Int) = (allV : Nat) from rfl, xor32 _ _ (xor_lt hyl HCL.out) allV_lt, hyp, Nat.xor_assoc]; rfl
          have HX := Lib.hid (patX_lt l k want hw)
          have HPF := Kp.mk (pset_four l k want hk)
          generalize y ^^^ crcV (l.take k) = pc at *
          generalize crcV (l.take k) = cr at *
          generalize patX l k want = px at *
          clear hx hy hyp hxl hyl
          go_wp2_with fail
          refine HCR.out.mono ?_
          rintro e w9 ⟨rfl, rfl⟩
          have hB3 := (Below.refl wr.heap.size wr).alloc (Nat.le_refl _) (.cells #[] 5 (0, 0))
          have HO0 := Lib.hid (made0 wr wr.heap.size (Nat.le_refl _))
          have HV0 := Lib.hid (HVw.out.below hB3 (Nat.le_refl _))
          clear HVw HCR
          go_wp2_with (at_builtin; refine wpList_append_bytes (by rfl) _ _ (by rfl) wr.heap.size (.slice (some ⟨wr.heap.size, 0, none⟩) 0 0) (.slice (some ⟨g, o, none⟩) l.length d) 0 [] l (by rfl) (by rfl) HO0.out ⟨_, _, rfl⟩ HV0.out (by omega) (by simp) ?_; intro g2 cap2 w1 hown hgr; rw [Nat.zero_add, List.nil_append] at hown; rw [Nat.zero_add]; have HB1 := Lib.hid (hB2.out.trans ((hB3.grown hgr (by simp) (fun k e => (HO0.out.lt k e).1)).mono hB2.out.size)); have HOW := Lib.hid (show OwnBytes w1 wr.heap.size g2 cap2 (pset l k px 0) from hown); clear hgr hown)
          have hs1 := hB2.out.size
          go_loopw [11, 13] (fun a i wr' => ∃ j y : Nat, j ≤ 4 ∧ i = .int .i64 j ∧ a = .int .u32 y ∧ Kp (y = px / 256 ^ j) ∧ Hid (OwnBytes wr' wr.heap.size g2 cap2 (pset l k px j)) ∧ Hid (Below w.heap.size w wr')) (fun _ i _ => 4 - (intOf i).toNat)
          case atStart => exact ⟨0, px, by omega, rfl, rfl, ⟨by simp⟩, HOW, HB1⟩
          case round =>
            obtain ⟨j, y2, hj, rfl, rfl, hy2, hown, hB7⟩ := hrel
            clear HOW HB1
            have hge := hown.out.ge
            have HPL := Lib.hid (pset_len l k px j)
            have hy2l : y2 < 4294967296 := by rw [hy2.out]; exact Nat.lt_of_le_of_lt (Nat.div_le_self _ _) HX.out
            by_cases hlt5 : j < 4
            · have hcl := hown.out.cell (k + j) (by rw [HPL.out]; omega)
              have hfz := hown.out.frozen (k + j)
              have hset := Lib.hid (hown.out.set (k + j) (byteK px j))
              have hbk : ((byteK px j).toNat : Int) = (y2 : Int) % 256 := by rw [hy2.out, byteK_nat px j]; rfl
              have HNX := Kp.mk (show y2 / 256 = px / 256 ^ (j + 1) by rw [hy2.out, div_pow_succ])
              have HB8 := Lib.hid (hB7.out.setCell (p := ⟨g2, k + j, none⟩) (by show w.heap.size ≤ g2; omega) (.int .u8 (byteK px j).toNat))
              rw [hbk] at hset HB8
              clear hy2
              go_wp2_with fail
              go_roundw
              case rel => exact ⟨j + 1, y2 / 256, by omega, by go_num, rfl, HNX, hset, HB8⟩
              case measure => simp [intOf]; omega
            · obtain rfl : j = 4 := by omega
              have hop := hown.out
              rw [HPF.out] at hop
              have HVL := Lib.hid (patV_len l k want hk)
              have HOP := Lib.hid hop
              clear hown hop hy2
              go_wp2_with fail
              go_ret2
              refine ⟨.slice (some ⟨g2, 0, none⟩) l.length cap2, rfl, ⟨_, _, by rw [HVL.out]⟩, ?_, hB7.out⟩
              have := HOP.out.at_
              rw [HVL.out] at this
              exact this
end Go.Proofs.YtadaohjphgpdnaaDoor
