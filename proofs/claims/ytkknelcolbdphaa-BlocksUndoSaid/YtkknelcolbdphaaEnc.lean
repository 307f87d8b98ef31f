/- Encode: the bitmap as an array; set. -/
import Derived.Test.YtkknelcolbdphaaSame
import Derived.Test.YtkknelcolbdphaaBytV
import Derived.Lib.UnsafeStr
import Derived.Maps.AppendAt
namespace Go.Proofs.Ytkknelcolbdphaa
open Go.RowKit
set_option maxRecDepth 100000
attribute [local irreducible] World.setCells

/-- The bitmap at b. -/
def bmA (U : List Bool) (k : Nat) : Array Value := (Lib.byteCells (bytesN (U.take k) 96)).toArray
theorem bmA_size (U : List Bool) (k : Nat) : (bmA U k).size = 96 := by simp [bmA, Lib.byteCells, bytesN]
theorem bm_cell {w : World} {b T k : Nat} {U : List Bool} (h : Row w b (bmA U k) T) (j : Nat) (hj : j < 96) : w.cell? ⟨b, j, none⟩ = some (.int .u8 (byteV (U.take k) j : Nat)) := by
  refine h.cell j _ ?_
  unfold bmA
  rw [List.getElem?_toArray]
  exact cells_get _ _ _ hj
theorem or8_val (a b : Nat) (ha : a < 256) (hb : b < 8) : bits BinOp.or IntKind.u8 (a : Int) (IntKind.u8.wrap (2 ^ b)) = ((a ||| 2 ^ b : Nat) : Int) := by
  have hp : (2 : Nat) ^ b < 2 ^ 8 := Nat.pow_lt_pow_right (by omega) hb
  have e : IntKind.u8.wrap (2 ^ b) = ((2 ^ b : Nat) : Int) := by
    rw [IntKind.wrap_u8']
    have e : (2 : Int) ^ b = ((2 ^ b : Nat) : Int) := by simp
    rw [e]
    generalize (2 : Nat) ^ b = p at hp
    omega
  rw [e]
  exact u8_or_nat a (2 ^ b) ha (by omega)
theorem or8_val2 (a b : Nat) (ha : a < 256) (hb : b < 8) : bits BinOp.or IntKind.u8 (a : Int) (2 ^ b % 256) = ((a ||| 2 ^ b : Nat) : Int) := by
  rw [← or8_val a b ha hb, IntKind.wrap_u8']
theorem bm_set {w : World} {b k : Nat} {U : List Bool} (h : Row w b (bmA U k) 72) (hk : k < 768) (x : Int) (hx : x = (byteV (U.take (k + 1)) (k / 8) : Nat)) : Row (w.setCell ⟨b, k / 8, none⟩ (.int .u8 x)) b (bmA U (k + 1)) 72 := by
  have h1 := h.set (k / 8) (.int .u8 x)
  have e : (bmA U k).setIfInBounds (k / 8) (.int .u8 x) = bmA U (k + 1) := by
    unfold bmA
    rw [List.setIfInBounds_toArray, cells_step_true U k 96 (by omega) x hx]
  rw [e] at h1
  exact h1
set_option maxHeartbeats 1000000 in
theorem set_any {w : World} {b k : Nat} {U : List Bool} (h : Row w b (bmA U k) 72) (hk : k < U.length) (hu : U.getD k false = true) (h7 : U.length ≤ 768) :
    Calls Try.prog 48 #[.pointer (some ⟨b, 0, none⟩), .int .i64 (k : Int)] w fun e w' => e = .returned (.tuple #[]) ∧ Row w' b (bmA U (k + 1)) 72 ∧ Kept (fun x => x = b) w w' := by
  have hc := bm_cell h (k / 8) (by omega)
  have hf := h.froz (k / 8)
  have hbv := byteV_lt (U.take k) (k / 8)
  have HV := Lib.hid (or8_val2 (byteV (U.take k) (k / 8)) (k % 8) hbv (by omega))
  have HW := Lib.hid (byteV_step_true U k hk hu)
  have HR := Lib.hid h
  have hkc : k / 8 < 96 := by omega
  clear h hu
  go_enter Try.func48, Try.ntmps48
  go_wp2
  go_region
  go_wp2
  go_end0
  exact ⟨rfl, (bm_set HR.out (by omega) _ (by rw [HV.out, HW.out])).drew, ((Kept.refl (fun x => x = b) w).setCell ⟨b, k / 8, none⟩ rfl _).drew⟩

/-! ### Encode -/
/-- The slice v reads as the bytes l. -/
def byV (c : UInt8) : Value := .int .u8 (c.toNat : Int)
abbrev BytesAt (w : World) (v : Value) (l : List UInt8) : Prop := RowAt byV w v l
def encL (l : Lay) (U : List Bool) : List UInt8 := if chkE l U = 0 then bytesN U 96 else []
theorem encL_ok {l : Lay} {U : List Bool} (h : chkE l U = 0) : encL l U = bytesN U 96 := if_pos h
theorem encL_no {l : Lay} {U : List Bool} (h : chkE l U ≠ 0) : encL l U = [] := if_neg h
def EncPost (l : Lay) (U : List Bool) (w : World) (e : Ending) (w' : World) : Prop := ∃ v, e = .returned (.tuple #[v, .int .i64 (chkE l U)]) ∧ BytesAt w' v (encL l U) ∧ Below w.heap.size w w'
theorem Try.infoBm : (Try.prog.info? 72).map (fun i => (i.zero, i.size, i.bytes)) = some (some (.agg (bmA [] 0)), 96, 96) := by kernel_rfl
noncomputable def allocM : Sem Value := Instr.alloc 72 true (.tuple #[])
theorem allocM_eq : Instr.alloc 72 true (.tuple #[]) = allocM := rfl
theorem bmA_zero (U : List Bool) : bmA [] 0 = bmA U 0 := by unfold bmA; rw [List.take_zero, List.take_zero]
theorem run_allocM (w : World) : allocM.run Try.prog w = .ok (.pointer (some ⟨w.heap.size, 0, none⟩)) (w.alloc (.cells (bmA [] 0) 72 (0, 0))) := by
  obtain ⟨i, hi, hz0, _, _⟩ := info_parts Try.infoBm
  simp [allocM, Instr.alloc, zeroValue, typeInfo, hi, hz0, newVar, newRow, Value.cells]
theorem bm_bytes {w : World} {b : Nat} {U : List Bool} (h : Row w b (bmA U U.length) 72) : BytesAt w (.slice (some ⟨b, 0, none⟩) 96 96) (bytesN U 96) := by
  refine .inr ⟨b, 0, 96, by rw [bytesN_len], h.lt, fun k hk => ?_⟩
  rw [bytesN_len] at hk
  rw [Nat.zero_add, bm_cell h k hk]
  have := bytesN_get U 96 k hk
  rw [List.getElem?_eq_getElem (by rw [bytesN_len]; exact hk)] at this
  injection this with this
  rw [this, List.take_length]
  unfold byV
  rw [ofNat_toNat _ (byteV_lt _ _)]
attribute [local go_sem ↓] allocM_eq
set_option maxHeartbeats 2000000 in
theorem encode_any {w : World} {l : Lay} {v : Value} {U : List Bool} (hv : BoolsAt w v U) :
    Calls Try.prog 33 #[.agg (stA l v)] w (EncPost l U w) := by
  obtain ⟨s, c, rfl⟩ := hv.val
  obtain ⟨w0, hw0⟩ : ∃ w0, w.alloc (.cells (stA l (.slice s U.length c)) 33 (0, 0)) = w0 := ⟨_, rfl⟩
  have HB0 : Hid (Below w.heap.size w w0) := Lib.hid (by rw [← hw0]; exact (Below.refl _ _).alloc (Nat.le_refl _) _)
  have HR0 : Hid (Row w0 w.heap.size (stA l (.slice s U.length c)) 33) := Lib.hid (by rw [← hw0]; exact Row.new _ _ _)
  have HC := Lib.hid (check_any l U s c w0)
  have HV := Lib.hid hv
  clear hv
  obtain ⟨E, hEE⟩ : ∃ E, chkE l U = E := ⟨_, rfl⟩
  have HEE := Lib.hid hEE
  rw [hEE] at HC
  unfold stA at *
  obtain ⟨x0, x1, x2, x3⟩ := HR0.out.four
  by_cases hE : E = 0
  · subst hE
    obtain ⟨hn8, hn245⟩ := chkE_len hEE
    have HL := Lib.hid (encL_ok hEE)
    clear hEE
    go_enter Try.func33, Try.ntmps33
    go_wp2_with (rw [hw0])
    refine HC.out.mono ?_
    rintro e w' ⟨rfl, hb'⟩
    have HB' := Lib.hid (HB0.out.trans (hb'.mono HB0.out.size))
    obtain ⟨w3, hw3⟩ : ∃ w3, w'.alloc (.cells (bmA [] 0) 72 (0, 0)) = w3 := ⟨_, rfl⟩
    have ham := run_allocM w'
    rw [hw3] at ham
    have HR3 : Hid (Row w3 w.heap.size #[.int .i64 l.s, .int .i64 l.j, .int .i64 l.n, .slice s U.length c] 33) := Lib.hid (by rw [← hw3]; exact (HR0.out.below hb' HR0.out.lt).alloc _)
    have HM3 : Hid (Row w3 w'.heap.size (bmA U 0) 72) := Lib.hid (by rw [← hw3, ← bmA_zero U]; exact Row.new _ _ _)
    have HB3 : Hid (Below w.heap.size w w3) := Lib.hid (by rw [← hw3]; exact HB'.out.alloc HB'.out.size _)
    have HN : Hid (w.heap.size ≤ w'.heap.size) := Lib.hid HB'.out.size
    clear hb' x0 x1 x2 x3 hw3 hw0
    obtain ⟨x0, x1, x2, x3⟩ := HR3.out.four
    go_wp2
    clear x0 x1 x2 x3
    go_loopw [16] (fun i wr => ∃ k : Nat, k ≤ U.length ∧ i = .int .i64 k ∧ Hid (Row wr w'.heap.size (bmA U k) 72) ∧ Hid (Below w.heap.size w wr)) (fun i _ => U.length - (intOf i).toNat)
    case atStart => exact ⟨0, Nat.zero_le _, rfl, HM3, HB3⟩
    case round =>
      obtain ⟨k, hk, rfl, hM, hB⟩ := hrel
      clear HM3 HB3
      by_cases hlt : k < U.length
      · have hd : decide ((k : Int) < U.length) = true := by simpa using hlt
        obtain ⟨g, o, rfl, h1⟩ := (HV.out.below hB.out (Nat.le_refl _)).at_ k hlt
        have hgd : U[k] = U.getD k false := by rw [List.getD_eq_getElem?_getD, List.getElem?_eq_getElem hlt]; rfl
        rw [hgd] at h1
        cases hu : U.getD k false with
        | true =>
          rw [hu] at h1
          have HS := Lib.hid (set_any hM.out hlt hu (by omega))
          clear hu hgd
          go_wp2_with fail
          refine HS.out.mono ?_
          rintro e w5 ⟨rfl, hr5, hk5⟩
          have HR5 := Lib.hid hr5
          have HB5 := Lib.hid (hB.out.trans (hk5.toBelow hB.out.size (fun x e => by have := HN.out; omega)))
          clear hr5 hk5
          go_wp2
          go_roundw
          case rel => exact ⟨k + 1, by omega, by go_num, HR5, HB5⟩
          case measure => simp [intOf]; omega
        | false =>
          rw [hu] at h1
          have HR5 : Hid (Row wr w'.heap.size (bmA U (k + 1)) 72) := Lib.hid (by unfold bmA; rw [cells_step_false U k 96 hu]; exact hM.out)
          clear hu hgd
          go_wp2
          go_roundw
          case rel => exact ⟨k + 1, by omega, by go_num, HR5, hB⟩
          case measure => simp [intOf]; omega
      · obtain rfl : k = U.length := by omega
        have hd : decide ((U.length : Int) < U.length) = false := by simp
        have HBY := Lib.hid (bm_bytes hM.out)
        go_wp2
        go_ret2
        exact ⟨_, by rw [HEE.out]; rfl, by rw [HL.out]; exact HBY.out, hB.out⟩
  · have hd := decB hE
    have HL := Lib.hid (encL_no (by rw [hEE]; exact hE))
    clear hEE
    go_enter Try.func33, Try.ntmps33
    go_wp2_with (rw [hw0])
    refine HC.out.mono ?_
    rintro e w' ⟨rfl, hb'⟩
    have HB' := Lib.hid (HB0.out.trans (hb'.mono HB0.out.size))
    go_wp2_with fail
    go_ret2
    exact ⟨_, by rw [HEE.out]; rfl, by rw [HL.out]; exact .inl ⟨_, _, rfl, rfl⟩, HB'.out⟩
end Go.Proofs.Ytkknelcolbdphaa
