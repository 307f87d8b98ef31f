/- back; the reference's back; slices.Backward. -/
import Derived.Test.YtadaohjphgpdnaaDoorRange
namespace Go.Proofs.YtadaohjphgpdnaaDoor
open Go.RowKit

theorem backH_one (x : Nat) (h : 2147483648 ≤ x) : backH x = (x ^^^ 3988292384) * 2 + 1 := by unfold backH; rw [if_pos h]; rfl
theorem backH_two (x : Nat) (h : ¬ 2147483648 ≤ x) : backH x = x * 2 := by unfold backH; rw [if_neg h]
theorem or_one (x : Nat) (h : x < 2147483648) : bits .or .u32 ((x : Int) * 2) 1 = ((x * 2 + 1 : Nat) : Int) := by
  rw [show (x : Int) * 2 = ((x * 2 : Nat) : Int) from by simp]
  show IntKind.u32.wrap ((BitVec.ofInt 32 ((x * 2 : Nat) : Int) ||| BitVec.ofInt 32 ((1 : Nat) : Int)).toNat : Int) = _
  rw [BitVec.toNat_or, u32_of_nat (x * 2) (by omega), u32_of_nat 1 (by omega), IntKind.wrap_u32]
  have e : x * 2 ||| 1 = x * 2 + 1 := by
    have := Nat.two_pow_add_eq_or_of_lt (i := 1) (b := 1) (by omega) x
    rw [Nat.mul_comm x, ← this]
  rw [e]
  omega

set_option maxHeartbeats 1000000 in
theorem back_any (b o r c : Nat) (w : World) (hr : r < 4294967296) (hc : c < 256) (hcell : w.cell? ⟨b, o, none⟩ = some (.int .u32 r)) (hf : w.frozen? ⟨b, o, none⟩ = false) :
    Calls Tryd.prog 41 #[.pointer (some ⟨b, o, none⟩), .int .u8 c] w fun e w' => e = .returned (.tuple #[]) ∧ Put b o (.int .u32 (undoV r c : Nat)) w w' := by
  have HC := Lib.hid hcell
  have HP0 := Lib.hid (show Put b o (.int .u32 ((backN 0 r : Nat) : Int)) w w from Put.self hcell)
  clear hcell
  go_enter Tryd.func41, Tryd.ntmps41
  go_wp2
  go_loopw [4] (fun i wr => ∃ k : Nat, k ≤ 8 ∧ i = .int .i64 k ∧ Hid (Put b o (.int .u32 ((backN k r : Nat) : Int)) w wr)) (fun i _ => 8 - (intOf i).toNat)
  case atStart => exact ⟨0, by omega, rfl, HP0⟩
  case round =>
    obtain ⟨k, hk, rfl, hP⟩ := hrel
    by_cases hlt : k < 8
    · have hl := backN_lt (k := k) hr
      have hS := Lib.hid (show backN (k + 1) r = backH (backN k r) from rfl)
      have hcl := hP.out.cell HC.out
      have hfz := (hP.out.frozen ⟨b, o, none⟩).trans hf
      generalize backN k r = x at *
      by_cases hx : 2147483648 ≤ x
      · have d1 : ((x : Int) / 2147483648 == 1) = true := by simp; omega
        have hx2 : bits .xor .u32 (x : Int) 3988292384 = ((x ^^^ 3988292384 : Nat) : Int) := xor32 x 3988292384 hl (by omega)
        have hh := xor_high hx hl
        have HH := Lib.hid (backH_one x hx)
        rw [show polyV = 3988292384 from rfl] at hh
        have ho := or_one (x ^^^ 3988292384) hh
        have HP := Lib.hid (hP.out.setCell (.int .u32 (((x ^^^ 3988292384) * 2 + 1 : Nat) : Int)))
        generalize x ^^^ 3988292384 = y at *
        clear hx hf HP0
        go_wp2
        go_roundw
        case rel => exact ⟨k + 1, by omega, by go_num, Lib.hid (by rw [hS.out, HH.out]; exact HP.out)⟩
        case measure => simp [intOf]; omega
      · have d1 : ((x : Int) / 2147483648 == 1) = false := by simp; omega
        have HH := Lib.hid (backH_two x hx)
        have HP := Lib.hid (hP.out.setCell (.int .u32 ((x * 2 : Nat) : Int)))
        clear hf HP0
        go_wp2
        go_roundw
        case rel => exact ⟨k + 1, by omega, by go_num, Lib.hid (by rw [hS.out, HH.out]; exact HP.out)⟩
        case measure => simp [intOf]; omega
    · obtain rfl : k = 8 := by omega
      have hl := backN_lt (k := 8) hr
      have hcl := hP.out.cell HC.out
      have hfz := (hP.out.frozen ⟨b, o, none⟩).trans hf
      have hx : bits .xor .u32 (backN 8 r : Nat) (c : Nat) = (undoV r c : Nat) := xor32 _ c hl (by omega)
      have HP := Lib.hid (hP.out.setCell (.int .u32 (undoV r c : Nat)))
      generalize backN 8 r = x at *
      clear hf HP0
      go_wp2
      go_end0
      exact ⟨rfl, HP.out⟩

set_option maxHeartbeats 400000 in
theorem refBack_any (r : Nat) (w : World) (hr : r < 4294967296) :
    Calls Tryd.prog 43 #[.int .u32 r] w fun e w' => e = .returned (.int .u32 (backN 8 r : Nat)) ∧ w = w' := by
  go_enter Tryd.func43, Tryd.ntmps43
  go_wp2
  go_loop [0, 3] (fun r' i => ∃ k : Nat, k ≤ 8 ∧ i = .int .i64 k ∧ r' = .int .u32 (backN k r : Nat)) (fun _ i => 8 - (intOf i).toNat)
  case atStart => exact ⟨0, by omega, rfl, rfl⟩
  case round =>
    obtain ⟨k, hk, rfl, rfl⟩ := hrel
    by_cases hlt : k < 8
    · have hl := backN_lt (k := k) hr
      have hS := Lib.hid (show backN (k + 1) r = backH (backN k r) from rfl)
      generalize backN k r = x at *
      by_cases hx : 2147483648 ≤ x
      · have d1 : decide ((2147483648 : Int) ≤ x) = true := decide_eq_true (by omega)
        have hx2 : bits .xor .u32 (x : Int) 3988292384 = ((x ^^^ 3988292384 : Nat) : Int) := xor32 x 3988292384 hl (by omega)
        have hh := xor_high hx hl
        have HH := Lib.hid (backH_one x hx)
        rw [show polyV = 3988292384 from rfl] at hh
        generalize x ^^^ 3988292384 = y at *
        clear hx
        go_wp2
        go_round
        case rel => exact ⟨k + 1, by omega, by go_num, by rw [hS.out, HH.out]; rfl⟩
        case measure => simp [intOf]; omega
      · have d1 : decide ((2147483648 : Int) ≤ x) = false := decide_eq_false (by omega)
        have HH := Lib.hid (backH_two x hx)
        go_wp2
        go_round
        case rel => exact ⟨k + 1, by omega, by go_num, by rw [hS.out, HH.out]; rfl⟩
        case measure => simp [intOf]; omega
    · obtain rfl : k = 8 := by omega
      go_wp2
      go_ret
      exact ⟨rfl, rfl⟩

/-! ### slices.Backward -/
theorem backward_any (a : Option Addr) (n c : Nat) (w : World) :
    Calls Tryd.prog 40 #[.slice a n c] w fun e w' => e = .returned (.func (.func 52) #[] #[.pointer (some ⟨w.heap.size, 0, none⟩)]) ∧ w' = w.alloc (.cells #[.slice a n c] 23) := by
  go_enter Tryd.func40, Tryd.ntmps40
  go_wp2
  go_ret
  exact ⟨rfl, rfl⟩

/-- The indexes, from the last one on. -/
def revL (n : Nat) : List Nat := (List.range n).reverse
theorem revL_len (n : Nat) : (revL n).length = n := by simp [revL]
theorem revL_at (n k : Nat) (h : k < n) : (revL n)[k]'(by rw [revL_len]; exact h) = n - 1 - k := by
  unfold revL; rw [List.getElem_reverse]; simp
theorem revL_take (n k : Nat) (h : k < n) : (revL n).take (k + 1) = (revL n).take k ++ [n - 1 - k] := by
  rw [List.take_succ_eq_append_getElem (by rw [revL_len]; exact h), revL_at n k h]
theorem revL_next (n : Nat) (pre : List Nat) (x : Nat) (h : pre ++ [x] <+: revL n) : pre.length < n ∧ x = n - 1 - pre.length := by
  have hl := h.length_le
  rw [List.length_append, List.length_singleton, revL_len] at hl
  refine ⟨by omega, ?_⟩
  obtain ⟨t, ht⟩ := h
  have h1 := revL_at n pre.length (by omega)
  rw [← h1]
  simp only [← ht]; simp
/-- What the iterator hands out. -/
def encI (l : List UInt8) (x : Nat) : Array Value := #[.int .i64 x, .int .u8 (l.getD x 0).toNat]
structure BackS (w0 : World) (bx : Nat) (v : Value) (J : World → Prop) (m : Nat) (W : World) : Prop where
  bel : Below w0.heap.size w0 W
  x : Boxed W bx 23 v
  j : J W
  size : m ≤ W.heap.size
def backR (w0 : World) (bx : Nat) (k : Nat) : Prop := w0.heap.size ≤ k ∧ k ≠ bx
theorem bf_lt {w : World} {bf : Nat} {o : Obj} (h : w.heap[bf]? = some o) : bf < w.heap.size := (Array.getElem?_eq_some_iff.1 h).1
theorem boxed_kept {X : Nat → Prop} {A B : World} {b t : Nat} {v : Value} (h : Boxed A b t v) (hk : Kept X A B) (hb : ¬ X b) : Boxed B b t v :=
  (hk.block b h.lt hb).trans h
theorem below_kept {X : Nat → Prop} {n : Nat} {A B C : World} (h : Below n A B) (hk : Kept X B C) (hn : n ≤ A.heap.size) (hx : ∀ k, X k → n ≤ k) : Below n A C :=
  h.trans (hk.toBelow (Nat.le_trans hn h.size) hx)
attribute [local go_sem] Oper.semAt_some

set_option maxHeartbeats 4000000 in
set_option maxRecDepth 100000 in
theorem backward_seq (n : Nat) (hn : 3 ≤ n) (w0 : World) (bx : Nat) (v : Value) (l : List UInt8) (W : World) (hv : BytesAt w0 v l) (hl : l.length ≤ maxLen) (hbel : Below w0.heap.size w0 W) (x : Boxed W bx 23 v) :
    SeqF Fence.wide n Tryd.prog 52 #[.pointer (some ⟨bx, 0, none⟩)] (encI l) (fun _ => False) (backR w0 bx) (fun xs => xs <+: revL l.length) (fun xs => xs = revL l.length) (fun xs => xs <+: revL l.length) W := by
  unfold maxLen at hl
  intro lp J Jx hJ hJx hY h0
  obtain ⟨s, d, rfl⟩ := hv.shape
  have HV := Lib.hid hv
  have HS0 : BackS w0 bx (.slice s l.length d) (J []) W.heap.size W := ⟨hbel, x, h0, Nat.le_refl _⟩
  have hx := x.cell
  clear hbel x h0 hv
  refine callsIn_of_wp Tryd.func52 rfl trivial ?_ rfl
  simp only [Tryd.ntmps52, List.size_toArray, List.length_cons, List.length_nil, Nat.reduceAdd, Nat.reduceSub, Array.replicate_succ, Array.replicate_zero, List.push_toArray, List.append_toArray, List.nil_append, List.cons_append]
  gi_wp2
  gi_loopw [3] (fun i wr => ∃ k : Nat, k ≤ l.length ∧ i = .int .i64 ((l.length : Int) - 1 - k) ∧ BackS w0 bx (.slice s l.length d) (J ((revL l.length).take k)) W.heap.size wr) (fun i _ => (intOf i + 1).toNat)
  case atStart => exact ⟨0, Nat.zero_le _, by simp, HS0⟩
  case round =>
    obtain ⟨k, hk, rfl, hS⟩ := hrel
    clear HS0 hx
    have hx := hS.x.cell
    by_cases hlt : k < l.length
    · have hnn : (l.length : Int) - 1 - k = ((l.length - 1 - k : Nat) : Int) := by omega
      rw [hnn]
      have HNN := Lib.hid hnn
      have hj : l.length - 1 - k < l.length := by omega
      rcases HV.out with ⟨a, c, hva, hl0⟩ | ⟨g, i, c, hva, hg, hcs⟩
      · rw [hl0] at hlt; simp at hlt
      · obtain ⟨rfl, rfl⟩ : s = some ⟨g, i, none⟩ ∧ d = c := by cases hva; exact ⟨rfl, rfl⟩
        have hcl := (hS.bel.cell (p := ⟨g, i + (l.length - 1 - k), none⟩) hg).trans (hcs (l.length - 1 - k) hj)
        have hpre := revL_take l.length k hlt
        have hgd : l[l.length - 1 - k] = l.getD (l.length - 1 - k) 0 := by rw [List.getD_eq_getElem?_getD, List.getElem?_eq_getElem hj]; rfl
        obtain ⟨fn, tmps, assign, body, hy, hR⟩ := hY _ (l.length - 1 - k) wr hS.j hS.size (by rw [← hpre]; exact List.take_prefix _ _)
        rw [← hpre] at hR
        simp only [encI] at hy
        rw [hgd] at hcl
        clear hva hcs hY hpre hnn hgd
        generalize l.length - 1 - k = q at *
        generalize (l.getD q 0).toNat = z at *
        gi_wp2
        refine ⟨fun _ => by omega, hR.mono ?_⟩
        rintro e W' (⟨rfl, hJ3, hk3⟩ | ⟨rfl, hJx3⟩)
        · have hSn : BackS w0 bx (.slice (some ⟨g, i, none⟩) l.length d) (J ((revL l.length).take (k + 1))) W.heap.size W' := ⟨below_kept hS.bel hk3 (Nat.le_refl _) (fun k h => h.1), boxed_kept hS.x hk3 (fun h => h.2 rfl), hJ3, Nat.le_trans hS.size hk3.size⟩
          clear hk3 hJ3
          gi_wp2
          go_roundw
          case rel => exact ⟨k + 1, by omega, by have := HNN.out; congr 1; omega, hSn⟩
          case measure => simp [intOf]
        · gi_wp2
          refine bodyPost_ret (results_none rfl _ _ _) rfl ?_
          exact ⟨⟨_, rfl⟩, .inr ⟨_, List.take_prefix _ _, hJx3⟩⟩
    · obtain rfl : k = l.length := by omega
      have hm1 : (l.length : Int) - 1 - (l.length : Int) = -1 := by omega
      rw [hm1]
      have hJk := hS.j
      rw [List.take_of_length_le (by rw [revL_len]; omega)] at hJk
      clear hm1
      gi_wp2
      go_end0
      exact ⟨⟨_, rfl⟩, .inl ⟨_, rfl, hJk⟩⟩
end Go.Proofs.YtadaohjphgpdnaaDoor
