/- slices.Chunk at []byte, by fours. -/
import Derived.Test.YtnocmkjaifjgfaaDoorRRange
import Derived.Stop.RegionWithIn
import Derived.RegionIn
import Derived.BigRegionIn
import Derived.Shelf.Abstract
namespace Go.Proofs.YtnocmkjaifjgfaaDoor.R
open Go.RowKit

theorem chunk_any (a : Option Addr) (n c : Nat) (w : World) :
    Calls Tryd.prog 58 #[.slice a n c, .int .i64 4] w fun e w' => e = .returned (.func (.func 60) #[] #[.pointer (some ⟨w.heap.size, 0, none⟩), .pointer (some ⟨w.heap.size + 1, 0, none⟩)]) ∧ w' = (w.alloc (.cells #[.slice a n c] 22)).alloc (.cells #[.int .i64 4] 3) := by
  go_enter Tryd.func58, Tryd.ntmps58
  go_wp2
  go_ret
  exact ⟨rfl, rfl⟩
/-- What the iterator hands out. -/
def encC (s : Option Addr) (j : Nat) : Array Value := #[.slice (s.map fun x => x.add (4 * j)) 4 4]
structure ChS (bx : Nat) (v : Value) (J : World → Prop) (m : Nat) (W : World) : Prop where
  x : Boxed W bx 22 v
  y : Boxed W (bx + 1) 3 (.int .i64 4)
  j : J W
  size : m ≤ W.heap.size
def chR (lo bx : Nat) (k : Nat) : Prop := lo ≤ k ∧ k ≠ bx ∧ k ≠ bx + 1
theorem boxed_kept {X : Nat → Prop} {A B : World} {b t : Nat} {v : Value} (h : Boxed A b t v) (hk : Kept X A B) (hb : ¬ X b) : Boxed B b t v :=
  (hk.block b h.lt hb).trans h
theorem below_kept {X : Nat → Prop} {n : Nat} {A B C : World} (h : Below n A B) (hk : Kept X B C) (hn : n ≤ A.heap.size) (hx : ∀ k, X k → n ≤ k) : Below n A C :=
  h.trans (hk.toBelowX (Nat.le_trans hn h.size) hx)
theorem range_take (q k : Nat) (h : k ≤ q) : (List.range q).take k = List.range k := by
  rw [List.take_range, Nat.min_eq_left h]
attribute [local go_sem] Oper.semAt_some

set_option maxHeartbeats 4000000 in
set_option maxRecDepth 100000 in
theorem chunk_seq (n : Nat) (hn : 3 ≤ n) (lo bx q : Nat) (s : Option Addr) (d : Nat) (W : World) (hs : 0 < q → s.isSome = true) (hq : q ≤ 60) (hd : 4 * q ≤ d) (x : Boxed W bx 22 (.slice s (4 * q) d)) (y : Boxed W (bx + 1) 3 (.int .i64 4)) :
    SeqF Fence.wide n Tryd.prog 60 #[.pointer (some ⟨bx, 0, none⟩), .pointer (some ⟨bx + 1, 0, none⟩)] (encC s) (fun _ => False) (chR lo bx) (fun xs => xs = List.range xs.length ∧ xs.length ≤ q) (fun xs => xs = List.range q) (fun xs => xs.length ≤ q) W := by
  intro lp J Jx hJ hJx hY h0
  have HS0 : ChS bx (.slice s (4 * q) d) (J (List.range 0)) W.heap.size W := ⟨x, y, h0, Nat.le_refl _⟩
  have HSS := Lib.hid hs
  have hx := x.cell
  clear x y h0 hs
  refine callsIn_of_wp Tryd.func60 rfl trivial ?_ rfl
  simp only [Tryd.ntmps60, List.size_toArray, List.length_cons, List.length_nil, Nat.reduceAdd, Nat.reduceSub, Array.replicate_succ, Array.replicate_zero, List.push_toArray, List.append_toArray, List.nil_append, List.cons_append]
  gi_wp2
  gi_loopw [4, 5] (fun i _ wr => ∃ k : Nat, k ≤ q ∧ i = .int .i64 (4 * (k : Int)) ∧ ChS bx (.slice s (4 * q) d) (J (List.range k)) W.heap.size wr) (fun i _ _ => 4 * q - (intOf i).toNat)
  case atStart => exact ⟨0, Nat.zero_le _, by simp, HS0⟩
  case round =>
    obtain ⟨k, hk, rfl, hS⟩ := hrel
    clear HS0 hx
    have hx := hS.x.cell
    have hy := hS.y.cell
    by_cases hlt : k < q
    · have d1 : decide (4 * (k : Int) < 4 * (q : Int)) = true := decide_eq_true (by omega)
      obtain ⟨ad, rfl⟩ := Option.isSome_iff_exists.1 (HSS.out (by omega))
      gi_wp2
      refine wpIn_mono (Q := fun e a W' => e = .normal ∧ (∃ x13 x14 x15 x16 x17 x18, a = ({ tmps := #[.func (.yield lp) #[] #[], .pointer (some ⟨bx, 0, none⟩), .pointer (some ⟨bx + 1, 0, none⟩), undef, .int .i64 (4 * (k : Int)), .int .i64 4, .int .i64 (4 * (k : Int)), .slice (some ad) (4 * q) d, .int .i64 (4 * (q : Int)), .bool true, u10, u11, u12, x13, x14, x15, x16, x17, x18, u19, u20, u21, u22, u23, u24, u25, u26, u27, u28, u29, u30], defers := [] } : Act)) ∧ W' = wr.drew) ?h1 ?h2
      case h1 =>
        gi_region_both
        all_goals exact ⟨rfl, ⟨_, _, _, _, _, _, rfl⟩, rfl⟩
      case h2 =>
        rintro e a W' ⟨rfl, ⟨x13, x14, x15, x16, x17, x18, rfl⟩, rfl⟩
        have hxd : wr.drew.cell? ⟨bx, 0, none⟩ = some (.slice (some ad) (4 * q) d) := hx
        have hyd : wr.drew.cell? ⟨bx + 1, 0, none⟩ = some (.int .i64 4) := hy
        obtain ⟨fn, tmps, assign, body, hyy, hR⟩ := hY (List.range k) k wr.drew (hJ _ _ _ hS.j ⟨rfl, rfl, rfl, Nat.le_refl _, fun _ _ _ => rfl⟩) hS.size (by rw [← List.range_succ]; exact ⟨by simp, by simp; omega⟩)
        rw [← List.range_succ] at hR
        simp only [encC, Option.map_some] at hyy
        clear hY hx hy
        gi_wp2
        refine ⟨fun _ => by omega, hR.mono ?_⟩
        rintro e W' (⟨rfl, hJ3, hk3⟩ | ⟨rfl, hJx3⟩)
        · have hSn : ChS bx (.slice (some ad) (4 * q) d) (J (List.range (k + 1))) W.heap.size W' := ⟨boxed_kept (A := wr.drew) hS.x hk3 (fun h => h.2.1 rfl), boxed_kept (A := wr.drew) hS.y hk3 (fun h => h.2.2 rfl), hJ3, Nat.le_trans hS.size hk3.size⟩
          have hy2 := hSn.y.cell
          clear hk3 hJ3 hxd hyd
          gi_wp2
          go_roundw
          case rel => exact ⟨k + 1, by omega, congrArg (Value.int .i64) (by omega), hSn⟩
          case measure => simp [intOf]; omega
        · gi_wp2
          refine bodyPost_ret (results_none rfl _ _ _) rfl ?_
          exact ⟨⟨_, rfl⟩, .inr ⟨_, by simp; omega, hJx3⟩⟩
    · obtain rfl : k = q := by omega
      have d1 : decide (4 * (k : Int) < 4 * (k : Int)) = false := decide_eq_false (by omega)
      have hJk := hS.j
      gi_wp2
      gi_wp2
      go_end0
      exact ⟨⟨_, rfl⟩, .inl ⟨_, rfl, hJk⟩⟩
end Go.Proofs.YtnocmkjaifjgfaaDoor.R
