/- The reference's number, numbered, Fixed, Seal. -/
import Derived.Test.YtbaibmndmcdfdaaDoorFSeal
namespace Go.Proofs.YtbaibmndmcdfdaaDoor.F
open Go.RowKit
open D (Sec Kept loadS storeS allocS loadS_eq storeS_eq allocS_eq)
set_option maxRecDepth 100000
noncomputable def boxS (x : Value) : Sem Value := Instr.box 27 x
theorem boxS_eq (x : Value) : Instr.box 27 x = boxS x := rfl
theorem run_boxS (s : Sec) (w : World) : (boxS (.agg s.A)).run Tryd.prog w = .ok (.pointer (some ⟨w.heap.size, 0, none⟩)) (w.alloc (.cells s.A 27 (0, 0))) := by
  simp [boxS, Instr.box, newVar, newRow, Value.cells]
attribute [local go_sem ↓] loadS_eq storeS_eq allocS_eq boxS_eq
theorem BAt.new (w : World) (s : Sec) : BAt (w.alloc (.cells s.A 27 (0, 0))) w.heap.size s.l := by
  unfold BAt; rw [heap_alloc_new]; rfl

/-- The crc of limewashref04. -/
theorem crcRef (v : Value) (l : List UInt8) (w : World) (hv : BytesAt w v l) (hl : l.length ≤ maxLen) : Calls Tryd.prog 31 #[v] w fun e w' => e = .returned (.int .u32 (crcV l : Nat)) ∧ w = w' := refCrc_any v l w hv hl
set_option maxHeartbeats 1000000 in
theorem refNumber_any (b o : Nat) (l : List UInt8) (n : Nat) (w : World) (hb : BAt w b l) (hl : l.length = 128) (ho : o + 4 ≤ 128) :
    Calls Tryd.prog 30 #[.pointer (some ⟨b, 0, none⟩), .int .i64 o, .int .u32 n] w fun e w' => e = .returned (.tuple #[]) ∧ Wrote b (putN l o n 4) w w' := by
  have H0 : Hid (Wrote b (putN l o n 0) w w) := Lib.hid (Wrote.refl hb)
  clear hb
  go_enter Tryd.func30, Tryd.ntmps30
  go_wp2
  go_loopw [6] (fun i wr => ∃ k : Nat, k ≤ 4 ∧ i = .int .i64 k ∧ Hid (Wrote b (putN l o n k) w wr)) (fun i _ => 4 - (intOf i).toNat)
  case atStart => exact ⟨0, by omega, rfl, H0⟩
  case round =>
    obtain ⟨k, hk, rfl, hP⟩ := hrel
    by_cases hlt : k < 4
    · have hl' : o + k < (putN l o n k).length := by rw [putN_len]; omega
      have hc1 := hP.out.at_.cell (o + k) hl'
      have hf := hP.out.at_.frozen (o + k)
      have hz := fun q => hP.out.step (o := o + k) (byteK n k) q
      rw [byteK_int] at hz
      have HZ := Lib.hid hz
      generalize (putN l o n k)[o + k].toNat = z at hc1
      clear hP hl' hz hl
      go_wp2
      go_roundw
      case rel => exact ⟨k + 1, by omega, by go_num, Lib.hid (HZ.out 0)⟩
      case measure => simp [intOf]; omega
    · obtain rfl : k = 4 := by omega
      go_wp2
      go_end0
      exact ⟨rfl, hP.out⟩
theorem add_part (x c k : Nat) (hx : x < 256 ^ k) (hk : k < 4) (hc : c < 256) : ((x : Int) + (c : Int) * 2 ^ (8 * k) % 4294967296) % 4294967296 = ((x + 256 ^ k * c : Nat) : Int) ∧ x + 256 ^ k * c < 4294967296 ∧ (x : Int) + (c : Int) * 2 ^ (8 * k) % 4294967296 = ((x + 256 ^ k * c : Nat) : Int) := by
  rw [pow8] at hx ⊢
  have h5 : k = 0 ∨ k = 1 ∨ k = 2 ∨ k = 3 := by omega
  rcases h5 with rfl | rfl | rfl | rfl <;> simp at hx ⊢ <;> omega
set_option maxHeartbeats 1000000 in
theorem refNumbered_any (s : Sec) (o : Nat) (w : World) (ho : o + 4 ≤ 128) :
    Calls Tryd.prog 34 #[.agg s.A, .int .i64 o] w fun e w' => e = .returned (.int .u32 (rd s.l o 4 : Nat)) ∧ Below w.heap.size w w' := by
  obtain ⟨w1, hw1⟩ : ∃ w1, w.alloc (.cells s.A 27 (0, 0)) = w1 := ⟨_, rfl⟩
  have hbx : (boxS (.agg s.A)).run Tryd.prog w = .ok (.pointer (some ⟨w.heap.size, 0, none⟩)) w1 := by rw [← hw1]; exact run_boxS s w
  have HB : Hid (BAt w1 w.heap.size s.l) := Lib.hid (by rw [← hw1]; exact BAt.new w s)
  have HK : Hid (Below w.heap.size w w1) := Lib.hid (by rw [← hw1]; exact (Below.refl _ _).alloc (Nat.le_refl _) _)
  have hs := s.len
  clear hw1
  go_enter Tryd.func34, Tryd.ntmps34
  go_wp2
  go_loop [5, 6] (fun n' i => ∃ k : Nat, k ≤ 4 ∧ i = .int .i64 k ∧ n' = .int .u32 (rd s.l o k : Nat)) (fun _ i => 4 - (intOf i).toNat)
  case atStart => exact ⟨0, by omega, rfl, rfl⟩
  case round =>
    obtain ⟨k, hk, rfl, rfl⟩ := hrel
    clear hbx
    by_cases hlt : k < 4
    · have hl : o + k < s.l.length := by omega
      have hc1 := HB.out.cell (o + k) hl
      have HS := Lib.hid (rd_succ s.l o k hl)
      have hc := byte_lt s.l (o + k) hl
      have hx := rd_lt s.l o k
      generalize s.l[o + k].toNat = z at hc1 HS hc
      obtain ⟨hor, hlt32, hv⟩ := add_part (rd s.l o k) z k hx hlt hc
      have HV := Lib.hid hv
      have HX := Lib.hid hx
      generalize rd s.l o k = x at *
      clear hx hl hs hv
      go_wp2
      go_round
      case rel => exact ⟨k + 1, by omega, by go_num, by rw [HS.out, ← HV.out]⟩
      case measure => simp [intOf]; omega
    · obtain rfl : k = 4 := by omega
      go_wp2
      go_ret
      exact ⟨rfl, HK.out⟩

/-! ### Seal -/
structure RS (w : World) (z b : Nat) (l : List UInt8) (W : World) : Prop where
  at_ : BAt W b l
  res : W.heap[z]? = some (.cells Sec.zero.A 27 (0, 0))
  below : Below w.heap.size w W
  zb : z < b
  wz : w.heap.size ≤ z
theorem RS.wrote {w : World} {z b : Nat} {l m : List UInt8} {W W' : World} (h : RS w z b l W) (k : Wrote b m W W') : RS w z b m W' :=
  ⟨k.at_, (k.kept.block z (Array.getElem?_eq_some_iff.1 h.res).1 (by have := h.zb; omega)).trans h.res, h.below.trans (k.kept.toBelow h.below.size (fun k e => by have := h.zb; have := h.wz; omega)), h.zb, h.wz⟩
theorem RS.more {w : World} {z b : Nat} {l : List UInt8} {W W' : World} (h : RS w z b l W) (k : Below W.heap.size W W') : RS w z b l W' :=
  ⟨h.at_.below k h.at_.lt, (k.block z (Array.getElem?_eq_some_iff.1 h.res).1).trans h.res, h.below.trans (k.mono h.below.size), h.zb, h.wz⟩
theorem RS.same {w : World} {z b : Nat} {l m : List UInt8} {W : World} (h : RS w z b l W) (e : l = m) : RS w z b m W := e ▸ h
/-- The world in which both sectors lie. -/
theorem two_alloc (w : World) : ∃ w1 w2, w.alloc (.cells Sec.zero.A 27 (0, 0)) = w1 ∧ w1.alloc (.cells Sec.zero.A 27 (0, 0)) = w2 ∧ allocS.run Tryd.prog w = .ok (.pointer (some ⟨w.heap.size, 0, none⟩)) w1 ∧ allocS.run Tryd.prog w1 = .ok (.pointer (some ⟨w1.heap.size, 0, none⟩)) w2 ∧ RS w w.heap.size w1.heap.size row0 w2 := by
  refine ⟨_, _, rfl, rfl, D.run_allocS w, D.run_allocS _, ⟨heap_alloc_new _ _, ?_, ?_, by simp, Nat.le_refl _⟩⟩
  · exact (Below.heap_alloc _ _ _ (by simp)).trans (heap_alloc_new w _)
  · exact ((Below.refl w.heap.size w).alloc (Nat.le_refl _) _).alloc (by simp) _
theorem RS.load {w : World} {z b : Nat} {l : List UInt8} {W : World} (h : RS w z b l W) (hl : l.length = 128) : (loadS (.pointer (some ⟨b, 0, none⟩))).run Tryd.prog W = .ok (.agg (mkS l).A) W :=
  D.run_loadS_block (s := mkS l) (by
    have := h.at_
    unfold BAt at this
    rw [this]; unfold D.Sec.A D.Sec.cs; rw [mkS_l hl]; rfl)
theorem RS.done {w : World} {z b : Nat} {l : List UInt8} {W : World} (h : RS w z b l W) (s : Sec) :
    (storeS (.pointer (some ⟨z, 0, none⟩)) (.agg s.A)).run Tryd.prog W = .ok () (W.setRow z s.A) ∧ (W.setRow z s.A).heap[z]? = some (.cells s.A 27 (0, 0)) ∧ Below w.heap.size w (W.setRow z s.A) :=
  ⟨D.run_storeS_block h.res s, setRow_heap _ _ _ _ _ _ h.res, h.below.trans ((Kept.setRow (X := fun k => k = z) (Kept.refl _ W) z rfl _).toBelow h.below.size (fun k e => by have := h.wz; omega))⟩
theorem mkS_row0 : mkS row0 = Sec.zero := sec_ext (mkS_l rfl)
theorem mkS_seal (at_ kind : Int) (seq : Nat) (d : List UInt8) (h : sealE at_ kind d.length = 0) : sealV at_ kind seq d = mkS (row7 at_.toNat kind.toNat seq d) := by unfold sealV; rw [if_pos h]

set_option maxHeartbeats 1000000 in
theorem refSeal_bad (at_ kind : Int) (seq : Nat) (s : ByteArray) (w : World) (h : badS at_ kind) :
    Calls Tryd.prog 12 #[.int .i64 at_, .int .i64 kind, .int .u32 seq, .string s] w (SealP at_ kind seq s.data.toList w) := by
  have HE := Lib.hid (sealE_bad (at_ := at_) (kind := kind) s.data.toList.length h)
  obtain ⟨w1, w2, -, -, ha1, ha2, h2⟩ := two_alloc w
  have hl := h2.load rfl
  rw [mkS_row0] at hl
  obtain ⟨q1, q2, q3⟩ := h2.done Sec.zero
  have H2 := Lib.hid q2
  have H3 := Lib.hid q3
  clear h2 q2 q3
  unfold badS at h
  by_cases h0 : at_ < 0
  · have d1 : decide (at_ < 0) = true := decide_eq_true h0
    clear h h0
    go_enter Tryd.func12, Tryd.ntmps12
    go_wp2
    exact bodyPost_ret (bodyRet_sec2 rfl rfl rfl H2.out) rfl ⟨by rw [seal_zero HE.out (by omega), HE.out]; rfl, H3.out⟩
  have d1 : decide (at_ < 0) = false := decide_eq_false h0
  by_cases h1 : 256 ≤ at_
  · have d2 : decide ((256 : Int) ≤ at_) = true := decide_eq_true h1
    clear h h0 h1
    go_enter Tryd.func12, Tryd.ntmps12
    go_wp2
    exact bodyPost_ret (bodyRet_sec2 rfl rfl rfl H2.out) rfl ⟨by rw [seal_zero HE.out (by omega), HE.out]; rfl, H3.out⟩
  have d2 : decide ((256 : Int) ≤ at_) = false := decide_eq_false h1
  by_cases h3 : kind < 1
  · have d3 : decide (kind < 1) = true := decide_eq_true h3
    clear h h0 h1 h3
    go_enter Tryd.func12, Tryd.ntmps12
    go_wp2
    exact bodyPost_ret (bodyRet_sec2 rfl rfl rfl H2.out) rfl ⟨by rw [seal_zero HE.out (by omega), HE.out]; rfl, H3.out⟩
  have d3 : decide (kind < 1) = false := decide_eq_false h3
  have d4 : decide ((255 : Int) < kind) = true := decide_eq_true (by omega)
  clear h h0 h1 h3
  go_enter Tryd.func12, Tryd.ntmps12
  go_wp2
  exact bodyPost_ret (bodyRet_sec2 rfl rfl rfl H2.out) rfl ⟨by rw [seal_zero HE.out (by omega), HE.out]; rfl, H3.out⟩

set_option maxHeartbeats 2000000 in
theorem refSeal_good (at_ kind : Int) (seq : Nat) (s : ByteArray) (w : World) (h : ¬ badS at_ kind) (hq : seq < 4294967296) :
    Calls Tryd.prog 12 #[.int .i64 at_, .int .i64 kind, .int .u32 seq, .string s] w (SealP at_ kind seq s.data.toList w) := by
  have hd : s.size = s.data.toList.length := Lib.size_eq s
  obtain ⟨w1, w2, -, -, ha1, ha2, h2⟩ := two_alloc w
  have hb := h
  unfold badS at hb
  have d1 : decide (at_ < 0) = false := decide_eq_false (by omega)
  have d2 : decide ((256 : Int) ≤ at_) = false := decide_eq_false (by omega)
  have d3 : decide (kind < 1) = false := decide_eq_false (by omega)
  have d4 : decide ((255 : Int) < kind) = false := decide_eq_false (by omega)
  by_cases hs : 112 < s.size
  · have HE := Lib.hid (sealE_long (n := s.data.toList.length) h (by rw [← hd]; exact hs))
    have hl := h2.load rfl
    rw [mkS_row0] at hl
    obtain ⟨q1, q2, q3⟩ := h2.done Sec.zero
    have H2 := Lib.hid q2
    have H3 := Lib.hid q3
    have d5 : decide ((112 : Int) < s.size) = true := decide_eq_true (by omega)
    clear h2 q2 q3 hd hb hs h
    go_enter Tryd.func12, Tryd.ntmps12
    go_wp2
    exact bodyPost_ret (bodyRet_sec2 rfl rfl rfl H2.out) rfl ⟨by rw [seal_zero HE.out (by omega), HE.out]; rfl, H3.out⟩
  have HE := Lib.hid (sealE_ok (n := s.data.toList.length) h (by rw [← hd]; exact hs))
  have d5 : decide ((112 : Int) < s.size) = false := decide_eq_false (by omega)
  have H2 := Lib.hid h2
  have HD := Lib.hid hd
  have HS := Lib.hid hs
  have HB := Lib.hid hb
  have c0 := h2.at_.cell 0 (by decide)
  have c1 := h2.at_.cell 1 (by decide)
  have c2 := h2.at_.cell 2 (by decide)
  have f0 := h2.at_.frozen 0
  have f1 := h2.at_.frozen 1
  have f2 := h2.at_.frozen 2
  have hk8 : kind % 256 = kind := by omega
  have hs8 : (s.size : Int) % 256 = s.size := by omega
  have hkn : ((kind.toNat : Nat) : Int) = kind := by omega
  have h3 : RS w w.heap.size w1.heap.size (row3 kind.toNat s.size) (((w2.setCell ⟨w1.heap.size, 0, none⟩ (.int .u8 76)).setCell ⟨w1.heap.size, 1, none⟩ (.int .u8 kind)).setCell ⟨w1.heap.size, 2, none⟩ (.int .u8 s.size)) := by
    have s1 := (Wrote.refl h2.at_).step (o := 0) (byteK 76 0) 0
    have s2 := s1.step (o := 1) (byteK kind.toNat 0) 0
    have s3 := s2.step (o := 2) (byteK s.size 0) 0
    have e1 : ((byteK 76 0).toNat : Int) = 76 := by decide
    have e2 : ((byteK kind.toNat 0).toNat : Int) = kind := by rw [byteK_nat]; omega
    have e3 : ((byteK s.size 0).toNat : Int) = s.size := by rw [byteK_nat]; omega
    rw [e1, e2, e3] at s3
    exact h2.wrote s3
  have HKN := Lib.hid hkn
  obtain ⟨w3, hw3⟩ : ∃ w3, ((w2.setCell ⟨w1.heap.size, 0, none⟩ (.int .u8 76)).setCell ⟨w1.heap.size, 1, none⟩ (.int .u8 kind)).setCell ⟨w1.heap.size, 2, none⟩ (.int .u8 s.size) = w3 := ⟨_, rfl⟩
  rw [hw3] at h3
  have H3 := Lib.hid h3
  have HW := Lib.hid hw3
  have HW3 := Lib.hid (refNumber_any w1.heap.size 4 _ seq w3 h3.at_ (row3_len _ _) (by omega))
  clear h2 hd hb hs h h3 hw3 hkn
  go_enter Tryd.func12, Tryd.ntmps12
  go_wp2_with fail
  rw [HW.out]
  refine HW3.out.mono ?_
  rintro e w4 ⟨rfl, hw4⟩
  clear c0 c1 c2 f0 f1 f2 hk8 hs8 HW HW3 ha1 ha2
  have H4 : Hid (RS w w.heap.size w1.heap.size (row4 kind.toNat s.size seq) w4) := Lib.hid (H3.out.wrote hw4)
  have HL4 := Lib.hid (row4_len kind.toNat s.size seq)
  clear hw4
  go_wp2_with fail
  go_loopw [11] (fun i wr => ∃ k : Nat, k ≤ s.size ∧ i = .int .i64 k ∧ Hid (RS w w.heap.size w1.heap.size (copyL (row4 kind.toNat s.size seq) 8 (s.data.toList.take k)) wr)) (fun i _ => s.size - (intOf i).toNat)
  case atStart => exact ⟨0, by omega, rfl, by rw [List.take_zero, copyL_nil]; exact H4⟩
  case round =>
    obtain ⟨k, hk, rfl, hP⟩ := hrel
    by_cases hlt : k < s.size
    · have hl : 8 + k < (copyL (row4 kind.toNat s.size seq) 8 (s.data.toList.take k)).length := by
        have := HS.out; have := HD.out
        rw [copyL_len _ _ _ (by rw [HL4.out, List.length_take]; omega), HL4.out]; omega
      have hc1 := hP.out.at_.cell (8 + k) hl
      have hf := hP.out.at_.frozen (8 + k)
      have HZ : Hid (RS w w.heap.size w1.heap.size (copyL (row4 kind.toNat s.size seq) 8 (s.data.toList.take (k + 1))) (wr.setCell ⟨w1.heap.size, 8 + k, none⟩ (.int .u8 (s[k].toNat : Int)))) := Lib.hid (by
        have hkd : k < s.data.toList.length := by rw [← HD.out]; exact hlt
        have hz := hP.out.wrote ((Wrote.refl hP.out.at_).step (o := 8 + k) s[k] 0)
        have e : (copyL (row4 kind.toNat s.size seq) 8 (s.data.toList.take k)).set (8 + k) s[k] = copyL (row4 kind.toNat s.size seq) 8 (s.data.toList.take (k + 1)) := by
          have htl : (s.data.toList.take k).length = k := by rw [List.length_take]; omega
          have := copyL_snoc (row4 kind.toNat s.size seq) 8 (s.data.toList.take k) s[k] (by rw [htl, HL4.out]; have := HS.out; omega)
          rw [htl] at this
          rw [this, List.take_succ_eq_append_getElem hkd]; rfl
        rw [e] at hz
        exact hz)
      generalize (copyL (row4 kind.toNat s.size seq) 8 (s.data.toList.take k))[8 + k].toNat = z at hc1
      have hk112 : k < 112 := by have := HS.out; omega
      clear hP hl d5
      go_wp2
      go_roundw
      case rel => exact ⟨k + 1, by omega, by go_num, HZ⟩
      case measure => simp [intOf]; omega
    · obtain rfl : k = s.size := by omega
      have H5 : Hid (RS w w.heap.size w1.heap.size (row5 kind.toNat seq s.data.toList) wr) := Lib.hid (by
        have := hP.out
        rw [HD.out, List.take_length] at this
        exact this)
      have HL := Lib.hid (show s.data.toList.length ≤ 112 by have := HS.out; have := HD.out; omega)
      have hat : at_ % 4294967296 = at_ := by have := HB.out; omega
      have HAT := Lib.hid (show ((at_.toNat : Nat) : Int) = at_ by have := HB.out; omega)
      have HW5 := Lib.hid (refNumber_any w1.heap.size 120 _ at_.toNat wr H5.out.at_ (row5_len _ _ _ HL.out) (by omega))
      rw [HAT.out] at HW5
      clear hP
      go_wp2_with fail
      refine HW5.out.mono ?_
      rintro e w6 ⟨rfl, hw6⟩
      have H6 : Hid (RS w w.heap.size w1.heap.size (row6 at_.toNat kind.toNat seq s.data.toList) w6) := Lib.hid (H5.out.wrote hw6)
      have HL6 := Lib.hid (row6_len at_.toNat kind.toNat seq s.data.toList HL.out)
      have hpt := H6.out.at_.part 0 124 128 (by rw [HL6.out]; omega)
      rw [List.drop_zero] at hpt
      have HC := Lib.hid (crcRef (.slice (some ⟨w1.heap.size, 0, none⟩) 124 128) ((row6 at_.toNat kind.toNat seq s.data.toList).take 124) w6 hpt (by rw [List.length_take]; unfold maxLen; omega))
      have HW6 := Lib.hid (refNumber_any w1.heap.size 124 _ (crcV ((row6 at_.toNat kind.toNat seq s.data.toList).take 124)) w6 H6.out.at_ HL6.out (by omega))
      clear hw6 hpt HW5 hat
      go_wp2_with fail
      refine HC.out.mono ?_
      rintro e w7 ⟨rfl, rfl⟩
      go_wp2_with fail
      refine HW6.out.mono ?_
      rintro e w7 ⟨rfl, hw7⟩
      have h7 : RS w w.heap.size w1.heap.size (row7 at_.toNat kind.toNat seq s.data.toList) w7 := H6.out.wrote hw7
      have hl7 := h7.load (row7_len _ _ _ _ HL.out)
      obtain ⟨q1, q2, q3⟩ := h7.done (mkS (row7 at_.toNat kind.toNat seq s.data.toList))
      have Q2 := Lib.hid q2
      have Q3 := Lib.hid q3
      clear hw7 h7 q2 q3 HW6 HC
      go_wp2
      exact bodyPost_ret (bodyRet_sec2 rfl rfl rfl Q2.out) rfl ⟨by rw [mkS_seal _ _ _ _ HE.out, HE.out]; rfl, Q3.out⟩
theorem refSeal_any (at_ kind : Int) (seq : Nat) (s : ByteArray) (w : World) (hq : seq < 4294967296) :
    Calls Tryd.prog 12 #[.int .i64 at_, .int .i64 kind, .int .u32 seq, .string s] w (SealP at_ kind seq s.data.toList w) := by
  by_cases h : badS at_ kind
  · exact refSeal_bad _ _ _ _ _ h
  · exact refSeal_good _ _ _ _ _ h hq

/-! ### Fixed -/
def fixL (l : List UInt8) : List UInt8 := putN l 124 (crcV (l.take 124)) 4
theorem fixL_len (l : List UInt8) : (fixL l).length = l.length := putN_len _ _ _ _
set_option maxHeartbeats 400000 in
theorem refFixed_any (b : Nat) (l : List UInt8) (w : World) (hb : BAt w b l) (hl : l.length = 128) :
    Calls Tryd.prog 32 #[.pointer (some ⟨b, 0, none⟩)] w fun e w' => e = .returned (.tuple #[]) ∧ Wrote b (fixL l) w w' := by
  have hpt := hb.part 0 124 128 (by omega)
  rw [List.drop_zero] at hpt
  have HC := Lib.hid (crcRef (.slice (some ⟨b, 0, none⟩) 124 128) (l.take 124) w hpt (by rw [List.length_take]; unfold maxLen; omega))
  have HW := Lib.hid (refNumber_any b 124 l (crcV (l.take 124)) w hb hl (by omega))
  clear hpt hb hl
  go_enter Tryd.func32, Tryd.ntmps32
  go_wp2_with fail
  refine HC.out.mono ?_
  rintro e w7 ⟨rfl, rfl⟩
  go_wp2_with fail
  refine HW.out.mono ?_
  rintro e w7 ⟨rfl, hw7⟩
  go_wp2_with fail
  go_end0
  exact ⟨rfl, hw7⟩
end Go.Proofs.YtbaibmndmcdfdaaDoor.F
