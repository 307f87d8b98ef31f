/- appendNumber; (*writer).groups. -/
import Derived.Test.YtnocmkjaifjgfaaDoorRBase
namespace Go.Proofs.YtnocmkjaifjgfaaDoor.R
open Go.RowKit

theorem wrap8 (n : Nat) : IntKind.u8.wrap (n : Int) = ((UInt8.ofNat n).toNat : Nat) := by
  rw [IntKind.wrap_u8, u8_of]; omega

set_option maxHeartbeats 1000000 in
theorem appendNumber_any (base n k : Nat) (v : Value) (l0 : List UInt8) (w : World) (hn : n < 18446744073709551616) (hk : k ≤ 8) (hl : l0.length ≤ 900000) (hown : Row w base v l0) (hb : base ≤ w.heap.size) :
    Calls Tryd.prog 26 #[v, .int .u64 n, .int .i64 k] w fun e w' => ∃ v', e = .returned v' ∧ Row w' base v' (l0 ++ lowL n k) ∧ Moved w v v' w' := by
  have HO := Lib.hid hown
  have HM := Lib.hid (Moved.refl w v)
  clear hown
  go_enter Tryd.func26, Tryd.ntmps26
  go_wp2
  go_loopw [0, 1, 8] (fun s m i wr => ∃ (j q : Nat) (l : List UInt8), j ≤ k ∧ q < 18446744073709551616 ∧ l.length ≤ l0.length + j ∧ i = .int .i64 j ∧ m = .int .u64 q ∧ Hid (Row wr base s l) ∧ Hid (Moved w v s wr) ∧ Hid (l0 ++ lowL n k = l ++ lowL q (k - j))) (fun _ _ i _ => k - (intOf i).toNat)
  case atStart => exact ⟨0, n, l0, by omega, hn, by omega, rfl, rfl, HO, HM, Lib.hid (by rw [Nat.sub_zero])⟩
  case round =>
    obtain ⟨j, q, l, hj, hq, hll, rfl, rfl, hR, hMv, hE⟩ := hrel
    by_cases hlt : j < k
    · have hw8 := wrap8 q
      have hbs : base ≤ wr.heap.size := Nat.le_trans hb hMv.out.kept.size
      have HV : Hid (∀ g, u0.ownBlock = some g → g < wr.heap.size) := Lib.hid (fun g e => (hR.out.ge e).2)
      have HB := Lib.hid ((Below.refl wr.heap.size wr).alloc (Nat.le_refl _) (.cells #[.int .u8 (UInt8.ofNat q).toNat] 5 (0, 0)))
      have HR2 := Lib.hid (hR.out.kept (Kept.of_below HB.out (fun _ => False)) (fun _ _ h => h))
      have HE2 := Lib.hid (show l0 ++ lowL n k = (l ++ [UInt8.ofNat q]) ++ lowL (q / 256) (k - (j + 1)) by
        rw [hE.out, show k - j = (k - (j + 1)) + 1 from by omega, lowL, List.append_assoc]; rfl)
      have HBY := Lib.hid (byte_new wr (UInt8.ofNat q) 5 (0, 0))
      generalize UInt8.ofNat q = c at *
      clear hE hR
      go_wp2_with (at_builtin; refine wpList_append_row (by rfl) _ _ (by rfl) base u0 _ l [c] (by rfl) (by rfl) HR2.out HBY.out (by simp) (by simp; omega) (by simp; omega) ?_; intro v2 w2 hr2 hm2)
      go_wp2
      go_roundw
      case rel =>
        exact ⟨j + 1, q / 256, l ++ [c], by omega, by omega, by simp; omega, by go_num, by go_num, Lib.hid hr2, Lib.hid (hMv.out.trans (Moved.after HB.out HV.out hm2)), HE2⟩
      case measure => simp [intOf]; omega
    · obtain rfl : j = k := by omega
      have HF := Lib.hid (show Row wr base u0 (l0 ++ lowL n j) by rw [hE.out, Nat.sub_self]; simpa [lowL] using hR.out)
      clear hE hR
      go_wp2_with fail
      go_ret
      exact ⟨u0, rfl, HF.out, hMv.out⟩

/-! ### the writer -/
/-- The record of the writer in block b is l, in the slice v. -/
structure WrAt (w : World) (b : Nat) (v : Value) (l : List UInt8) : Prop where
  cell : w.cell? ⟨b, 0, none⟩ = some v
  frozen : w.frozen? ⟨b, 0, none⟩ = false
  row : Row w (b + 1) v l
theorem WrAt.lt {w : World} {b : Nat} {v : Value} {l : List UInt8} (h : WrAt w b v l) : b < w.heap.size := by
  have hc := h.cell
  unfold World.cell? at hc
  rcases Nat.lt_or_ge b w.heap.size with hh | hh
  · exact hh
  · simp [Array.getElem?_eq_none hh] at hc
theorem WrAt.kept {X : Nat → Prop} {w w' : World} {b : Nat} {v : Value} {l : List UInt8} (h : WrAt w b v l) (hk : Kept X w w') (hb : ¬ X b) (hx : ∀ g, v.ownBlock = some g → ¬ X g) : WrAt w' b v l :=
  ⟨(hk.cell 0 h.lt hb).trans h.cell, (hk.frozen 0 h.lt hb).trans h.frozen, h.row.kept hk hx⟩
/-- What a writing leaves. -/
structure Wrote (w : World) (b : Nat) (v v' : Value) (w' : World) : Prop where
  kept : Kept (fun k => k = b ∨ v.ownBlock = some k) w w'
  lies : v'.ownBlock = v.ownBlock ∨ ∃ g, v'.ownBlock = some g ∧ w.heap.size ≤ g
theorem Wrote.refl (w : World) (b : Nat) (v : Value) : Wrote w b v v w := ⟨Kept.refl _ _, .inl rfl⟩
theorem Wrote.trans {a c d : World} {b : Nat} {v u t : Value} (h : Wrote a b v u c) (k : Wrote c b u t d) : Wrote a b v t d :=
  ⟨h.kept.trans' k.kept (fun i hi e => by
    rcases e with e | e
    · exact .inl e
    · right
      rcases h.lies with q | ⟨g, q, hg⟩
      · rw [← q]; exact e
      · rw [q] at e; cases e; omega),
   by
    rcases k.lies with q | ⟨g, q, hg⟩
    · rw [q]; exact h.lies
    · exact .inr ⟨g, q, Nat.le_trans h.kept.size hg⟩⟩
/-- A row has moved, and the field was written. -/
theorem WrAt.stored {w w1 w2 : World} {b : Nat} {v v2 : Value} {l l2 : List UInt8} (h : WrAt w b v l) (hb : Below w.heap.size w w1) (hm : Moved w1 v v2 w2) (hr : Row w2 (b + 1) v2 l2) :
    WrAt (w2.setCell ⟨b, 0, none⟩ v2) b v2 l2 ∧ Wrote w b v v2 (w2.setCell ⟨b, 0, none⟩ v2) := by
  have hk : Kept (fun k => v.ownBlock = some k) w w2 := (Kept.of_below hb _).trans hm.kept
  have hne : ¬ v.ownBlock = some b := fun e => by have := (h.row.ge e).1; omega
  have hc := (hk.cell 0 h.lt hne).trans h.cell
  have hf := (hk.frozen 0 h.lt hne).trans h.frozen
  have ho : ∀ g, v2.ownBlock = some g → g ≠ b := fun g e => by have := (hr.ge e).1; omega
  refine ⟨⟨?_, ?_, ?_⟩, ⟨(hk.mono (fun k e => .inr e)).setCell _ (.inl (.inl rfl)) _, ?_⟩⟩
  · exact World.cell?_setCell_same' w2 _ v2 (by rw [hc]; rfl)
  · rw [World.frozen?_setCell]; exact hf
  · have hs : Kept (fun k => k = b) w2 (w2.setCell ⟨b, 0, none⟩ v2) := (Kept.refl (fun k => k = b) w2).setCell ⟨b, 0, none⟩ (.inl rfl) v2
    exact hr.kept hs (fun g e q => ho g e q)
  · rcases hm.lies with q | ⟨g, q, hg⟩
    · exact .inl q
    · exact .inr ⟨g, q, Nat.le_trans hb.size hg⟩

theorem u8_of_nat (a : Nat) (ha : a < 256) : (BitVec.ofInt 8 (a : Int)).toNat = a := by
  rw [BitVec.ofInt_natCast, BitVec.toNat_ofNat]; exact Nat.mod_eq_of_lt (by omega)
theorem or128_tab : ∀ a : Nat, a < 256 → (a ||| 128) = a % 128 + 128 := by decide +kernel
theorem or128 (n : Nat) : bits .or .u8 ((n : Int) % 256) 128 = ((UInt8.ofNat (n % 128 + 128)).toNat : Nat) := by
  rw [show (n : Int) % 256 = ((n % 256 : Nat) : Int) from by omega]
  show IntKind.u8.wrap ((BitVec.ofInt 8 ((n % 256 : Nat) : Int) ||| BitVec.ofInt 8 ((128 : Nat) : Int)).toNat : Int) = _
  rw [BitVec.toNat_or, u8_of_nat _ (by omega), u8_of_nat 128 (by omega), IntKind.wrap_u8, or128_tab _ (by omega), u8_of]
  omega

theorem Row.shape1 {w : World} {base : Nat} {v : Value} {l : List UInt8} {c : UInt8} (h : Row w base v (l ++ [c])) : ∃ a d, v = .slice a (l.length + 1) d := by
  obtain ⟨a, d, e⟩ := h.shape
  exact ⟨a, d, by rw [e]; simp⟩
set_option maxHeartbeats 1000000 in
theorem groups_any (b n : Nat) (v : Value) (l0 : List UInt8) (w : World) (hn : n < 18446744073709551616) (hl : l0.length ≤ 900000) (hW : WrAt w b v l0) :
    Calls Tryd.prog 55 #[.pointer (some ⟨b, 0, none⟩), .int .u64 n] w fun e w' => e = .returned (.tuple #[]) ∧ ∃ v', WrAt w' b v' (l0 ++ grpL n) ∧ Wrote w b v v' w' := by
  have HO := Lib.hid hW
  have HM := Lib.hid (Wrote.refl w b v)
  clear hW
  go_enter Tryd.func55, Tryd.ntmps55
  go_wp2
  go_loopw [1] (fun m wr => ∃ (f q : Nat) (l : List UInt8) (s : Value), f ≤ 9 ∧ q < 2 * 128 ^ f ∧ l.length ≤ l0.length + (9 - f) ∧ m = .int .u64 q ∧ Hid (WrAt wr b s l) ∧ Hid (Wrote w b v s wr) ∧ Hid (l0 ++ grpL n = l ++ grpF f q)) (fun m _ => (intOf m).toNat)
  case atStart => exact ⟨9, n, l0, v, by omega, by simpa using hn, by omega, rfl, HO, HM, Lib.hid rfl⟩
  case round =>
    obtain ⟨f, q, l, s, hf, hq, hll, rfl, hR, hMv, hE⟩ := hrel
    have hq64 : q < 18446744073709551616 := by
      have : 128 ^ f ≤ 128 ^ 9 := Nat.pow_le_pow_right (by omega) hf
      omega
    by_cases hlt : 128 ≤ q
    · obtain ⟨f, rfl⟩ : ∃ g, f = g + 1 := ⟨f - 1, by
        rcases Nat.eq_zero_or_pos f with h | h
        · subst h; simp at hq; omega
        · omega⟩
      have hd : ((q : Int) / 128 == 0) = false := by simp; omega
      have hw8 := wrap8 q
      have ho := or128 q
      have hc := hR.out.cell
      have hfz := hR.out.frozen
      have hbb := hR.out.lt
      have HB := Lib.hid ((Below.refl wr.heap.size wr).alloc (Nat.le_refl _) (.cells #[.int .u8 (UInt8.ofNat (q % 128 + 128)).toNat] 5 (0, 0)))
      have HR2 := Lib.hid (hR.out.row.kept (Kept.of_below HB.out (fun _ => False)) (fun _ _ h => h))
      have HE2 := Lib.hid (show l0 ++ grpL n = (l ++ [UInt8.ofNat (q % 128 + 128)]) ++ grpF f (q / 128) by
        rw [hE.out, grpF, if_neg (by omega), List.append_assoc]; rfl)
      have HBY := Lib.hid (byte_new wr (UInt8.ofNat (q % 128 + 128)) 5 (0, 0))
      rw [Nat.pow_succ] at hq
      have HCL := Lib.hid (fun w2 (hm : Kept (fun k => s.ownBlock = some k) wr w2) => (hm.cell 0 hbb (fun e => by have := (hR.out.row.ge e).1; omega)).trans hc)
      have HFZ := Lib.hid (fun w2 (hm : Kept (fun k => s.ownBlock = some k) wr w2) => (hm.frozen 0 hbb (fun e => by have := (hR.out.row.ge e).1; omega)).trans hfz)
      generalize UInt8.ofNat (q % 128 + 128) = c at *
      go_wp2_with (at_builtin; refine wpList_append_row (by rfl) _ _ (by rfl) (b + 1) s _ l [c] (by rfl) (by rfl) HR2.out HBY.out (by simp) (by simp; omega) (by simp; omega) ?_; intro v2 w2 hr2 hm2; obtain ⟨a2, c2, rfl⟩ := hr2.shape1; have hKK := (Kept.of_below HB.out _).trans hm2.kept; have hc2 := HCL.out _ hKK; have hf2 := HFZ.out _ hKK)
      have HS := Lib.hid (hR.out.stored HB.out hm2 hr2)
      go_wp2
      go_roundw
      case rel => exact ⟨f, q / 128, l ++ [c], _, by omega, by omega, by simp; omega, by go_num, Lib.hid HS.out.1, Lib.hid (hMv.out.trans HS.out.2), HE2⟩
      case measure => simp [intOf]; omega
    · have hd : ((q : Int) / 128 == 0) = true := by simp; omega
      have HQ := Lib.hid (show (q : Int) = ((UInt8.ofNat q).toNat : Nat) by rw [u8_of]; omega)
      have hc := hR.out.cell
      have hfz := hR.out.frozen
      have hbb := hR.out.lt
      have HB := Lib.hid ((Below.refl wr.heap.size wr).alloc (Nat.le_refl _) (.cells #[.int .u8 q] 5 (0, 0)))
      have HR2 := Lib.hid (hR.out.row.kept (Kept.of_below HB.out (fun _ => False)) (fun _ _ h => h))
      have HE2 := Lib.hid (show l0 ++ grpL n = l ++ [UInt8.ofNat q] by
        rw [hE.out]
        cases f with
        | zero => rfl
        | succ f => rw [grpF, if_pos (by omega)])
      have HBY : Hid (BytesAt (wr.alloc (.cells #[.int .u8 q] 5 (0, 0))) (.slice (some ⟨wr.heap.size, 0, none⟩) 1 1) [UInt8.ofNat q]) := Lib.hid (by rw [HQ.out]; exact byte_new wr (UInt8.ofNat q) 5 (0, 0))
      have HCL := Lib.hid (fun w2 (hm : Kept (fun k => s.ownBlock = some k) wr w2) => (hm.cell 0 hbb (fun e => by have := (hR.out.row.ge e).1; omega)).trans hc)
      have HFZ := Lib.hid (fun w2 (hm : Kept (fun k => s.ownBlock = some k) wr w2) => (hm.frozen 0 hbb (fun e => by have := (hR.out.row.ge e).1; omega)).trans hfz)
      generalize UInt8.ofNat q = c at *
      go_wp2_with (at_builtin; refine wpList_append_row (by rfl) _ _ (by rfl) (b + 1) s _ l [c] (by rfl) (by rfl) HR2.out HBY.out (by simp) (by simp; omega) (by simp; omega) ?_; intro v2 w2 hr2 hm2; obtain ⟨a2, c2, rfl⟩ := hr2.shape1; have hKK := (Kept.of_below HB.out _).trans hm2.kept; have hc2 := HCL.out _ hKK; have hf2 := HFZ.out _ hKK)
      have HS := Lib.hid (hR.out.stored HB.out hm2 hr2)
      go_end0
      exact ⟨rfl, _, by rw [HE2.out]; exact HS.out.1, hMv.out.trans HS.out.2⟩
end Go.Proofs.YtnocmkjaifjgfaaDoor.R
