/- Locate. -/
import Derived.Test.YtadaohjphgpdnaaDoorBack
import Derived.Stop.RegionWithIn
import Derived.RegionIn
import Derived.BigRegionIn
import Derived.Shelf.Abstract
namespace Go.Proofs.YtadaohjphgpdnaaDoor
open Go.RowKit
attribute [local go_sem] Oper.semAt_some

theorem boxed_below {n : Nat} {A B : World} {b t : Nat} {v : Value} (h : Boxed A b t v) (hk : Below n A B) (hb : b < n) : Boxed B b t v := (hk.block b hb).trans h
theorem boxed_other {b o : Nat} {u : Value} {A B : World} {g t : Nat} {v : Value} (h : Boxed A g t v) (hk : Put b o u A B) (hb : g ≠ b) : Boxed B g t v := (hk.other g hb).trans h
theorem boxed_put {b : Nat} {u : Value} {A B : World} {t : Nat} {v : Value} (h : Boxed A b t v) (hk : Put b 0 u A B) : Boxed B b t u := (hk.block h).trans (by simp)
theorem put_kept {X : Nat → Prop} {b o : Nat} {u : Value} {A B : World} (h : Put b o u A B) (hx : X b) : Kept X A B :=
  ⟨h.os, h.tape, h.output, Nat.le_of_eq h.size.symm, fun k _ hk => h.other k (fun e => hk (e ▸ hx))⟩

theorem xor8 (a b : Nat) (ha : a < 256) (hb : b < 256) : bits .xor .u8 (a : Int) (b : Int) = ((a ^^^ b : Nat) : Int) := by
  have hx := byte_xor_lt ha hb
  have h1 : ∀ a : Nat, a < 256 → (BitVec.ofInt 8 (a : Int)).toNat = a := fun a ha => by rw [BitVec.ofInt_natCast, BitVec.toNat_ofNat]; exact Nat.mod_eq_of_lt (by omega)
  show IntKind.u8.wrap ((BitVec.ofInt 8 (a : Int) ^^^ BitVec.ofInt 8 (b : Int)).toNat : Int) = _
  rw [BitVec.toNat_xor, h1 a ha, h1 b hb, IntKind.wrap_u8']
  omega

/-- Between two rounds. -/
structure LI (w : World) (l : List UInt8) (want b7 : Nat) (pre : List Nat) (W : World) : Prop where
  a : Boxed W w.heap.size 3 (.int .i64 (locA (locK l want pre.length) : Nat))
  b : Boxed W (w.heap.size + 1) 5 (.int .u8 (locB l want (locK l want pre.length) : Nat))
  e : Boxed W (w.heap.size + 1 + 1) 28 (.int .i64 (locE (locK l want pre.length)))
  c : Boxed W b7 53 (.int .u32 (chV l want (l.length - pre.length) : Nat))
  bel : Below w.heap.size w W
theorem LI.kept {X : Nat → Prop} {w : World} {l : List UInt8} {want b7 : Nat} {pre : List Nat} {A B : World} (h : LI w l want b7 pre A) (hk : Kept X A B) (hx : ∀ k, X k → w.heap.size + 3 ≤ k ∧ k ≠ b7) : LI w l want b7 pre B :=
  ⟨boxed_kept h.a hk (fun q => by have := hx _ q; omega), boxed_kept h.b hk (fun q => by have := hx _ q; omega), boxed_kept h.e hk (fun q => by have := hx _ q; omega), boxed_kept h.c hk (fun q => (hx _ q).2 rfl), below_kept h.bel hk (Nat.le_refl _) (fun k q => by have := hx _ q; omega)⟩

set_option maxHeartbeats 4000000 in
set_option maxRecDepth 100000 in
theorem locate_in (n : Nat) (hn : 8 ≤ n) (v : Value) (l : List UInt8) (want : Nat) (w : World) (hE : Env w) (hv : BytesAt w v l) (hl : l.length ≤ 1000) (hw : want < 4294967296) (hne : crcV l ≠ want) :
    CallsIn Fence.wide n Tryd.prog 25 #[v, .int .u32 want] w fun e w' => e = .returned (.tuple #[.int .i64 (locA (locK l want l.length) : Nat), .int .u8 (locB l want (locK l want l.length) : Nat), .int .i64 (locE (locK l want l.length))]) ∧ Below w.heap.size w w' := by
  obtain ⟨s, d, rfl⟩ := hv.shape
  have hml : l.length ≤ maxLen := by unfold maxLen; omega
  have hcl := crcV_lt l
  have d1 : decide ((1000 : Int) < l.length) = false := decide_eq_false (by omega)
  have d2 : ((crcV l : Int) == want) = false := by simp; omega
  have hx : bits .xor .u32 (crcV l : Nat) (want : Nat) = ((crcV l ^^^ want : Nat) : Int) := xor32 _ _ hcl hw
  obtain ⟨W3, hW3⟩ : ∃ W3, ((w.alloc (.cells #[.int .i64 0] 3)).alloc (.cells #[.int .u8 0] 5)).alloc (.cells #[.int .i64 0] 28) = W3 := ⟨_, rfl⟩
  have hs3 : W3.heap.size = w.heap.size + 3 := by rw [← hW3]; simp
  have hB3 : Below w.heap.size w W3 := by rw [← hW3]; exact (((Below.refl _ w).alloc (Nat.le_refl _) _).alloc (by simp) _).alloc (by simp; omega) _
  have a3 : Boxed W3 w.heap.size 3 (.int .i64 0) := by rw [← hW3]; exact ((Boxed.new w _ _).alloc _).alloc _
  have b3 : Boxed W3 (w.heap.size + 1) 5 (.int .u8 0) := by
    rw [← hW3]; have := Boxed.new (w.alloc (.cells #[.int .i64 0] 3)) 5 (.int .u8 0); rw [World.size_alloc] at this; exact this.alloc _
  have e3 : Boxed W3 (w.heap.size + 1 + 1) 28 (.int .i64 0) := by
    rw [← hW3]; have := Boxed.new ((w.alloc (.cells #[.int .i64 0] 3)).alloc (.cells #[.int .u8 0] 5)) 28 (.int .i64 0); rw [World.size_alloc, World.size_alloc] at this; exact this
  have HC := Lib.hid (crcAll_any (.slice s l.length d) l W3 (hE.below hB3 hE.one) (hv.below hB3 (Nat.le_refl _)) hml)
  have HW3 := Lib.hid hW3
  have hb1 := hE.one
  clear hW3
  refine callsIn_of_wp_marks Tryd.func25 rfl trivial ?_ rfl
  simp only [Tryd.ntmps25, List.size_toArray, List.length_cons, List.length_nil, Nat.reduceAdd, Nat.reduceSub, Array.replicate_succ, Array.replicate_zero, List.push_toArray, List.append_toArray, List.nil_append, List.cons_append]
  gi_wp2_with fail
  rw [HW3.out]
  refine ⟨trivial, fun _ => by omega, (callsIn_wide.2 HC.out).mono ?_⟩
  rintro e W4 ⟨rfl, hb4⟩
  have hs4 := hb4.size
  have a4 := boxed_below a3 hb4 a3.lt
  have b4 := boxed_below b3 hb4 b3.lt
  have e4 := boxed_below e3 hb4 e3.lt
  have hB4 : Below w.heap.size w W4 := hB3.trans (hb4.mono (by omega))
  have ec4 := e4.cell
  have ef4 := e4.frozen
  have HP4 := Lib.hid (Put.one (w.heap.size + 1 + 1) 0 (.int .i64 4) W4)
  have HC5 := Lib.hid (crcAll_any (.slice s l.length d) l (W4.setCell ⟨w.heap.size + 1 + 1, 0, none⟩ (.int .i64 4)) (hE.below (hB4.trans (HP4.out.below (by omega))) hb1) (hv.below (hB4.trans (HP4.out.below (by omega))) (Nat.le_refl _)) hml)
  have a5 := boxed_other a4 HP4.out (by omega)
  have b5 := boxed_other b4 HP4.out (by omega)
  have e5 := boxed_put e4 HP4.out
  have hB5 := hB4.trans (HP4.out.below (B := w.heap.size) (by omega))
  have hs5 : (W4.setCell ⟨w.heap.size + 1 + 1, 0, none⟩ (.int .i64 4)).heap.size = W4.heap.size := HP4.out.size
  clear HW3 HC a3 b3 e3 hB3 hb4 a4 b4 e4 hB4
  gi_wp2_with fail
  refine ⟨trivial, fun _ => by omega, (callsIn_wide.2 HC5.out).mono ?_⟩
  rintro e W6 ⟨rfl, hb6⟩
  have hs6 := hb6.size
  rw [hs5] at hs6
  have a6 := boxed_below a5 hb6 a5.lt
  have b6 := boxed_below b5 hb6 b5.lt
  have e6 := boxed_below e5 hb6 e5.lt
  have hB6 : Below w.heap.size w W6 := hB5.trans (hb6.mono (by omega))
  clear HC5 a5 b5 e5 hB5 hb6 ec4 ef4 HP4
  gi_wp2_with fail
  refine ⟨trivial, fun _ => by omega, (callsIn_wide.2 (backward_any s l.length d _)).mono ?_⟩
  rintro e W7 ⟨rfl, rfl⟩
  gi_wp2_with fail
  obtain ⟨W8, hW8⟩ : ∃ W8, (W6.alloc (.cells #[.int .u32 (crcV l ^^^ want : Nat)] 53)).alloc (.cells #[.slice s l.length d] 23) = W8 := ⟨_, rfl⟩
  have hs8 : W8.heap.size = W6.heap.size + 2 := by rw [← hW8]; simp
  have hB8 : Below w.heap.size w W8 := by rw [← hW8]; exact ((hB6.alloc hB6.size _).alloc (by have := hB6.size; simp; omega) _)
  have a8 : Boxed W8 w.heap.size 3 (.int .i64 0) := by rw [← hW8]; exact (a6.alloc _).alloc _
  have b8 : Boxed W8 (w.heap.size + 1) 5 (.int .u8 0) := by rw [← hW8]; exact (b6.alloc _).alloc _
  have e8 : Boxed W8 (w.heap.size + 1 + 1) 28 (.int .i64 4) := by rw [← hW8]; exact (e6.alloc _).alloc _
  have c8 : Boxed W8 W6.heap.size 53 (.int .u32 (chV l want l.length : Nat)) := by rw [← hW8, chV_end]; exact (Boxed.new W6 _ _).alloc _
  have x8 : Boxed W8 (W6.heap.size + 1) 23 (.slice s l.length d) := by
    rw [← hW8]; have := Boxed.new (W6.alloc (.cells #[.int .u32 (crcV l ^^^ want : Nat)] 53)) 23 (.slice s l.length d); rw [World.size_alloc] at this; exact this
  rw [hW8]
  have HI0 : LI w l want W6.heap.size [] W8 := ⟨a8, b8, e8, c8, hB8⟩
  have hI : Stays (O2 (fun _ => False) W8.heap.size) (LI w l want W6.heap.size) := fun s A B h hk => h.kept hk (fun k q => by
    unfold O2 at q; simp at q; omega)
  have hIx : ∀ _ : Code, Stays (O2 (fun _ => False) W8.heap.size) (fun (_ : List Nat) (_ : World) => False) := fun _ _ _ _ h _ => h
  clear hW8 a6 b6 e6 hB6 a8 b8 e8 c8 d1 d2 hx
  refine range_law (n := n) rfl (by omega) (gf := 52) (lb := #[.pointer (some ⟨W6.heap.size + 1, 0, none⟩)]) rfl trivial (enters_of Tryd.func52 (by kernel_rfl) rfl)
    (O := fun _ => False) (R := backR w (W6.heap.size + 1)) (encs := encI l) ⟨by omega, by omega⟩
    (fun W1 hb1' hs1 => backward_seq (n - 1) (by omega) w (W6.heap.size + 1) (.slice s l.length d) l W1 hv hml (hB8.trans (hb1'.mono (by omega))) ((hb1'.block _ x8.lt).trans x8)) (fun _ => rfl) (fun k h => h.elim)
    (LI w l want W6.heap.size) (fun _ _ _ => False) hI hIx HI0 ?round ?done ?stop
  case stop => rintro c pre W _ h _; exact h.elim
  case round =>
    rintro pre x W hL hbf hC K hK
    obtain ⟨hk1, rfl⟩ := revL_next _ _ _ hC
    unfold encI
    gi_wp2
    refine hK _ _ (Kept.refl _ _) ?_
    clear hK
    intro W2 hk2
    have hL2 := hI _ _ _ hL (hk2.mono (fun k (h : k = _) => .inr (.inr h)))
    have hq : l.length - 1 - pre.length < l.length := by omega
    have HLEN := Lib.hid (show (pre ++ [l.length - 1 - pre.length]).length = pre.length + 1 by simp)
    have HST := Lib.hid (show undoV (chV l want (l.length - pre.length)) 0 = chV l want (l.length - (pre.length + 1)) by
      have := chV_step l want (l.length - (pre.length + 1)) (by omega)
      rw [this, show l.length - (pre.length + 1) + 1 = l.length - pre.length from by omega]
      unfold undoV; rw [Nat.xor_zero])
    have HK := Lib.hid (show locK l want (pre.length + 1) = if chV l want (l.length - (pre.length + 1)) ≤ 255 then some (l.length - (pre.length + 1)) else locK l want pre.length from rfl)
    have HQ := Lib.hid (show l.length - 1 - pre.length = l.length - (pre.length + 1) by omega)
    have hz := (l[l.length - 1 - pre.length]?.getD 0).toNat_lt
    have HZ := Lib.hid (show (l[l.length - 1 - pre.length]?.getD 0).toNat = (l.getD (l.length - (pre.length + 1)) 0).toNat by rw [HQ.out, List.getD_eq_getElem?_getD])
    have hcc := hL2.c.cell
    have hcf := hL2.c.frozen
    have hch := chV_lt l want (l.length - pre.length) hw
    have hch2 := chV_lt l want (l.length - (pre.length + 1)) hw
    have HBK := Lib.hid (back_any W6.heap.size 0 (chV l want (l.length - pre.length)) 0 W2 hch (by omega) hcc hcf)
    rw [HST.out] at HBK
    generalize l[l.length - 1 - pre.length]?.getD 0 = zb at *
    generalize zb.toNat = z at *
    generalize hqq : l.length - 1 - pre.length = q at *
    clear hC
    gi_wp2_with fail
    refine ⟨trivial, fun _ => by omega, (CallsIn.inRound _ (callsIn_wide.2 HBK.out)).mono ?_⟩
    rintro e W9 ⟨rfl, hP⟩
    have a9 := boxed_other hL2.a hP (by omega)
    have b9 := boxed_other hL2.b hP (by omega)
    have e9 := boxed_other hL2.e hP (by omega)
    have c9 := boxed_put hL2.c hP
    have hB9 := hL2.bel.trans (hP.below (B := w.heap.size) (by omega))
    have HK9 := Lib.hid (put_kept (X := R2 (backR w (W6.heap.size + 1)) W8.heap.size) hP (by unfold R2 backR; omega))
    have cc := c9.cell
    have ac := a9.cell
    have bc := b9.cell
    have ec := e9.cell
    have af := a9.frozen
    have bf := b9.frozen
    have ef := e9.frozen
    generalize hcv : chV l want (l.length - (pre.length + 1)) = ch at *
    clear hP hcc hcf hch HBK hL hk2
    by_cases hle : ch ≤ 255
    · have d1 : decide ((ch : Int) ≤ 255) = true := decide_eq_true (by omega)
      have hx8 := xor8 z ch (by omega) (by omega)
      have HKY := Lib.hid (show locK l want (pre.length + 1) = some (l.length - (pre.length + 1)) by rw [HK.out, if_pos hle])
      have hwr : IntKind.u8.wrap (ch : Int) = ch := by rw [IntKind.wrap_u8']; omega
      have P1 := Put.one w.heap.size 0 (.int .i64 q) W9
      have P2 := Put.one (w.heap.size + 1) 0 (.int .u8 (z ^^^ ch : Nat)) (W9.setCell ⟨w.heap.size, 0, none⟩ (.int .i64 q))
      have P3 := Put.one (w.heap.size + 1 + 1) 0 (.int .i64 0) ((W9.setCell ⟨w.heap.size, 0, none⟩ (.int .i64 q)).setCell ⟨w.heap.size + 1, 0, none⟩ (.int .u8 (z ^^^ ch : Nat)))
      have P3 := P3.drew
      have A1 := boxed_other (boxed_other (boxed_put a9 P1) P2 (by omega)) P3 (by omega)
      have A2 := boxed_other (boxed_put (boxed_other b9 P1 (by omega)) P2) P3 (by omega)
      have A3 := boxed_put (boxed_other (boxed_other e9 P1 (by omega)) P2 (by omega)) P3
      have A4 := boxed_other (boxed_other (boxed_other c9 P1 (by omega)) P2 (by omega)) P3 (by omega)
      have HFIN := Lib.hid (show ∀ a, roundPost (backR w (W6.heap.size + 1)) W8.heap.size (LI w l want W6.heap.size) (fun _ _ _ => False) (pre ++ [q]) W2 .normal a ((((W9.setCell ⟨w.heap.size, 0, none⟩ (.int .i64 q)).setCell ⟨w.heap.size + 1, 0, none⟩ (.int .u8 (z ^^^ ch : Nat))).setCell ⟨w.heap.size + 1 + 1, 0, none⟩ (.int .i64 0)).drew) from fun a => by
        refine ⟨((HK9.out.trans (put_kept P1 (by unfold R2 backR; omega))).trans (put_kept P2 (by unfold R2 backR; omega))).trans (put_kept P3 (by unfold R2 backR; omega)), ?_, ?_, ?_, ?_, ?_⟩ <;> try rw [HLEN.out]
        · rw [HKY.out]; show Boxed _ _ _ (.int .i64 (l.length - (pre.length + 1) : Nat)); rw [← HQ.out]; exact A1
        · rw [HKY.out]; show Boxed _ _ _ (.int .u8 ((l.getD (l.length - (pre.length + 1)) 0).toNat ^^^ chV l want (l.length - (pre.length + 1)) : Nat)); rw [← HZ.out, hcv]; exact A2
        · rw [HKY.out]; exact A3
        · rw [hcv]; exact A4
        · exact ((hB9.trans (P1.below (B := w.heap.size) (by omega))).trans (P2.below (B := w.heap.size) (by omega))).trans (P3.below (B := w.heap.size) (by omega)))
      clear hI HI0 hIx P1 P2 P3 A1 A2 A3 A4
      gi_wp2_with fail
      refine wpIn_mono (Q := fun e _ W' => e = .normal ∧ W' = (((W9.setCell ⟨w.heap.size, 0, none⟩ (.int .i64 q)).setCell ⟨w.heap.size + 1, 0, none⟩ (.int .u8 (z ^^^ ch : Nat))).setCell ⟨w.heap.size + 1 + 1, 0, none⟩ (.int .i64 0)).drew) ?_ ?_
      · gi_region_both
        all_goals exact ⟨rfl, rfl⟩
      · rintro e a W' ⟨rfl, rfl⟩
        exact HFIN.out a
    · have d1 : decide ((ch : Int) ≤ 255) = false := decide_eq_false (by omega)
      have HKN := Lib.hid (show locK l want (pre.length + 1) = locK l want pre.length by rw [HK.out, if_neg hle])
      gi_wp2_with fail
      refine ⟨HK9.out, ?_, ?_, ?_, ?_, hB9⟩ <;> rw [HLEN.out]
      · rw [HKN.out]; exact a9
      · rw [HKN.out]; exact b9
      · rw [HKN.out]; exact e9
      · rw [hcv]; exact c9
  case done =>
    rintro xs W hxs hL hD
    obtain rfl : xs = revL l.length := hxs
    obtain ⟨a9, b9, e9, c9, hB9⟩ := hL
    rw [revL_len] at a9 b9 e9
    have ac := a9.cell
    have bc := b9.cell
    have ec := e9.cell
    have af := a9.frozen
    have bf := b9.frozen
    have ef := e9.frozen
    clear c9
    generalize hra : ((locA (locK l want l.length) : Nat) : Int) = ra at *
    generalize hrb : ((locB l want (locK l want l.length) : Nat) : Int) = rb at *
    generalize hre : locE (locK l want l.length) = re at *
    have HRA := Lib.hid hra
    have HRB := Lib.hid hrb
    have HRE := Lib.hid hre
    clear hra hrb hre
    gi_wp2_with fail
    refine wpIn_mono (Q := fun e a' W' => e = .normal ∧ a' = ({ tmps := #[.slice s l.length d, .int .u32 want, undef, undef, .pointer (some ⟨w.heap.size, 0, none⟩), .pointer (some ⟨w.heap.size + 1, 0, none⟩), .pointer (some ⟨w.heap.size + 1 + 1, 0, none⟩), .pointer (some ⟨W6.heap.size, 0, none⟩), undef, undef, .slice s l.length d, .int .i64 l.length, .bool false, .slice s l.length d, .int .u32 (crcV l : Nat), .int .u32 want, .bool false, .slice s l.length d, .int .u32 (crcV l : Nat), .int .u32 want, .int .u32 (crcV l ^^^ want : Nat), .slice s l.length d, .func (.func 52) #[] #[.pointer (some ⟨W6.heap.size + 1, 0, none⟩)], undef, undef, undef, undef, undef, undef, undef, undef, undef, undef, .int .i64 ra, .int .u8 rb, .int .i64 re], defers := [{ target := Target.collected W8.heap.size, args := #[] }] } : Act) ∧ W' = (((W.setCell ⟨w.heap.size, 0, none⟩ (.int .i64 ra)).setCell ⟨w.heap.size + 1, 0, none⟩ (.int .u8 rb)).setCell ⟨w.heap.size + 1 + 1, 0, none⟩ (.int .i64 re)).drew) ?h1 ?h2
    case h1 =>
      gi_region_both
      all_goals exact ⟨rfl, rfl, rfl⟩
    case h2 =>
      rintro e a' W' ⟨rfl, rfl, rfl⟩
      have P1 := Put.one w.heap.size 0 (.int .i64 ra) W
      have P2 := Put.one (w.heap.size + 1) 0 (.int .u8 rb) (W.setCell ⟨w.heap.size, 0, none⟩ (.int .i64 ra))
      have P3 := (Put.one (w.heap.size + 1 + 1) 0 (.int .i64 re) ((W.setCell ⟨w.heap.size, 0, none⟩ (.int .i64 ra)).setCell ⟨w.heap.size + 1, 0, none⟩ (.int .u8 rb))).drew
      have hD3 := (P3.other W8.heap.size (by omega)).trans ((P2.other _ (by omega)).trans ((P1.other _ (by omega)).trans hD))
      have A1 := (boxed_other (boxed_other (boxed_put a9 P1) P2 (by omega)) P3 (by omega)).cell
      have A2 := (boxed_other (boxed_put (boxed_other b9 P1 (by omega)) P2) P3 (by omega)).cell
      have A3 := (boxed_put (boxed_other (boxed_other e9 P1 (by omega)) P2 (by omega)) P3).cell
      have HB := Lib.hid (((hB9.trans (P1.below (B := w.heap.size) (by omega))).trans (P2.below (B := w.heap.size) (by omega))).trans (P3.below (B := w.heap.size) (by omega)))
      generalize (((W.setCell ⟨w.heap.size, 0, none⟩ (.int .i64 ra)).setCell ⟨w.heap.size + 1, 0, none⟩ (.int .u8 rb)).setCell ⟨w.heap.size + 1 + 1, 0, none⟩ (.int .i64 re)).drew = WF at *
      clear P1 P2 P3
      gi_wp2_with fail
      have hp : Kept (· = W8.heap.size) WF (WF.putObj W8.heap.size (.deferred none)) := Kept.putObj _ _ _ _ rfl
      refine ⟨by simp, .inl ⟨_, _, rfl, run_takeDeferred hD3, ?_⟩⟩
      have l1 : w.heap.size < WF.heap.size := by have := HB.out.size; have := bf_lt hD3; omega
      have B1 := (World.cell?_of_block (w := WF) (a := ⟨w.heap.size, 0, none⟩) (hp.block w.heap.size l1 (fun h => by omega))).trans A1
      have B2 := (World.cell?_of_block (w := WF) (a := ⟨w.heap.size + 1, 0, none⟩) (hp.block (w.heap.size + 1) (by have := bf_lt hD3; omega) (fun h => by omega))).trans A2
      have B3 := (World.cell?_of_block (w := WF) (a := ⟨w.heap.size + 1 + 1, 0, none⟩) (hp.block (w.heap.size + 1 + 1) (by have := bf_lt hD3; omega) (fun h => by omega))).trans A3
      exact ⟨.tuple #[.int .i64 ra, .int .u8 rb, .int .i64 re], by simp [results, Tryd.results25, go_sem, B1, B2, B3], by rw [HRA.out, HRB.out, HRE.out], below_kept HB.out hp (Nat.le_refl _) (fun k (h : k = _) => by omega)⟩
end Go.Proofs.YtadaohjphgpdnaaDoor
