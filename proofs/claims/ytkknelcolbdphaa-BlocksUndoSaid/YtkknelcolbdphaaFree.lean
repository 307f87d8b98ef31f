/- freeFrom: the iterator over the free blocks. -/
import Derived.Test.YtkknelcolbdphaaRange
namespace Go.Proofs.Ytkknelcolbdphaa
open Go.RowKit

theorem freeFrom_any (a : Option Addr) (n c : Nat) (m : Int) (w : World) :
    Calls Try.prog 42 #[.slice a n c, .int .i64 m] w fun e w' => e = .returned (.func (.func 51) #[] #[.pointer (some ⟨w.heap.size, 0, none⟩), .pointer (some ⟨w.heap.size + 1, 0, none⟩)]) ∧ w' = (w.alloc (.cells #[.slice a n c] 31)).alloc (.cells #[.int .i64 m] 3) := by
  go_enter Try.func42, Try.ntmps42
  go_wp2
  go_ret
  exact ⟨rfl, rfl⟩

structure FreeS (w0 : World) (bx : Nat) (v : Value) (m : Nat) (J : World → Prop) (z : Nat) (W : World) : Prop where
  bel : Below w0.heap.size w0 W
  x : Boxed W bx 31 v
  y : Boxed W (bx + 1) 3 (.int .i64 (m : Int))
  j : J W
  size : z ≤ W.heap.size
def freeR (w0 : World) (bx : Nat) (k : Nat) : Prop := w0.heap.size ≤ k ∧ k ≠ bx ∧ k ≠ bx + 1
theorem bf_lt {w : World} {bf : Nat} {o : Obj} (h : w.heap[bf]? = some o) : bf < w.heap.size := (Array.getElem?_eq_some_iff.1 h).1
theorem boxed_kept {X : Nat → Prop} {A B : World} {b t : Nat} {v : Value} (h : Boxed A b t v) (hk : Kept X A B) (hb : ¬ X b) : Boxed B b t v :=
  (hk.block b h.lt hb).trans h
theorem below_kept {X : Nat → Prop} {n : Nat} {A B C : World} (h : Below n A B) (hk : Kept X B C) (hn : n ≤ A.heap.size) (hx : ∀ k, X k → n ≤ k) : Below n A C :=
  h.trans (hk.toBelow (Nat.le_trans hn h.size) hx)
def encN (x : Nat) : Array Value := #[.int .i64 (x : Int)]
theorem freeP_next (U : List Bool) (a k : Nat) (hk : k < U.length) (h : U.getD ((a + k) % U.length) false = false) : freeP U a k ++ [(a + k) % U.length] <+: freeL U a := by
  rw [← freeP_free h]; exact freeP_pre U a (by omega)
attribute [local go_sem] Oper.semAt_some

set_option maxHeartbeats 4000000 in
set_option maxRecDepth 100000 in
theorem free_seq (n : Nat) (hn : 3 ≤ n) (w0 : World) (bx : Nat) (v : Value) (U : List Bool) (m : Nat) (W : World) (hv : BoolsAt w0 v U) (hl : U.length ≤ 1000) (hm : m ≤ 1000) (hbel : Below w0.heap.size w0 W) (x : Boxed W bx 31 v) (y : Boxed W (bx + 1) 3 (.int .i64 (m : Int))) :
    SeqF Fence.wide n Try.prog 51 #[.pointer (some ⟨bx, 0, none⟩), .pointer (some ⟨bx + 1, 0, none⟩)] encN (fun _ => False) (freeR w0 bx) (fun xs => xs <+: freeL U m) (fun xs => xs = freeL U m) (fun xs => xs <+: freeL U m) W := by
  intro lp J Jx hJ hJx hY h0
  obtain ⟨s, d, rfl⟩ := hv.val
  have HV := Lib.hid hv
  have HS0 : FreeS w0 bx (.slice s U.length d) m (J []) W.heap.size W := ⟨hbel, x, y, h0, Nat.le_refl _⟩
  have hx := x.cell
  have hy := y.cell
  clear hbel x y h0 hv
  refine callsIn_of_wp Try.func51 rfl trivial ?_ rfl
  simp only [Try.ntmps51, List.size_toArray, List.length_cons, List.length_nil, Nat.reduceAdd, Nat.reduceSub, Array.replicate_succ, Array.replicate_zero, List.push_toArray, List.append_toArray, List.nil_append, List.cons_append]
  gi_wp2
  gi_loopw [8] (fun i wr => ∃ k : Nat, k ≤ U.length ∧ i = .int .i64 k ∧ FreeS w0 bx (.slice s U.length d) m (J (freeP U m k)) W.heap.size wr) (fun i _ => U.length - (intOf i).toNat)
  case atStart => exact ⟨0, Nat.zero_le _, rfl, HS0⟩
  case round =>
    obtain ⟨k, hk, rfl, hS⟩ := hrel
    clear HS0 hx hy
    have hx := hS.x.cell
    have hy := hS.y.cell
    by_cases hlt : k < U.length
    · have hd : decide ((k : Int) < U.length) = true := by simpa using hlt
      have hz : ((U.length : Int) == 0) = false := beq_eq_false_iff_ne.2 (by omega)
      have hq : ((m : Int) + (k : Int)).tmod (U.length : Int) = (((m + k) % U.length : Nat) : Int) := by
        rw [← Int.natCast_add, Int.ofNat_tmod]
      have hq2 : ((m : Int) + (k : Int)) % (U.length : Int) = (((m + k) % U.length : Nat) : Int) := by
        rw [← Int.natCast_add]; exact (Int.natCast_emod _ _).symm
      have hql : (m + k) % U.length < U.length := Nat.mod_lt _ (by omega)
      obtain ⟨g, o, rfl, hg, hcs⟩ := HV.out.addr (by omega)
      have hcl := (hS.bel.cell (p := ⟨g, o + (m + k) % U.length, none⟩) hg).trans (hcs _ hql)
      have hgd : U[(m + k) % U.length] = U.getD ((m + k) % U.length) false := by rw [List.getD_eq_getElem?_getD, List.getElem?_eq_getElem hql]; rfl
      rw [hgd] at hcl
      cases hu : U.getD ((m + k) % U.length) false with
      | true =>
        have HN := Lib.hid (freeP_used hu)
        rw [hu] at hcl
        clear hY hcs hgd hu
        have HSn : Hid (FreeS w0 bx (.slice (some ⟨g, o, none⟩) U.length d) m (J (freeP U m (k + 1))) W.heap.size wr) := Lib.hid (by rw [HN.out]; exact hS)
        generalize (m + k) % U.length = q at *
        gi_wp2
        refine ⟨(fun f h => by cases h), ?_⟩
        gi_wp2
        go_roundw
        case rel => exact ⟨k + 1, by omega, by go_num, HSn.out⟩
        case measure => simp [intOf]; omega
      | false =>
        have HN := Lib.hid (freeP_free hu)
        have hpre := freeP_next U m k hlt hu
        obtain ⟨fn, tmps, assign, body, hyy, hR⟩ := hY _ ((m + k) % U.length) wr hS.j hS.size hpre
        simp only [encN] at hyy
        rw [hu] at hcl
        rw [← freeP_free hu] at hR hpre
        have HPRE := Lib.hid hpre
        clear hY hcs hgd hu hpre
        generalize (m + k) % U.length = q at *
        gi_wp2
        refine ⟨fun _ => by omega, hR.mono ?_⟩
        rintro e W' (⟨rfl, hJ3, hk3⟩ | ⟨rfl, hJx3⟩)
        · have hSn : FreeS w0 bx (.slice (some ⟨g, o, none⟩) U.length d) m (J (freeP U m (k + 1))) W.heap.size W' := ⟨below_kept hS.bel hk3 (Nat.le_refl _) (fun k h => h.1), boxed_kept hS.x hk3 (fun h => h.2.1 rfl), boxed_kept hS.y hk3 (fun h => h.2.2 rfl), hJ3, Nat.le_trans hS.size hk3.size⟩
          clear hk3 hJ3
          gi_wp2
          go_roundw
          case rel => exact ⟨k + 1, by omega, by go_num, hSn⟩
          case measure => simp [intOf]; omega
        · gi_wp2
          refine bodyPost_ret (results_none rfl _ _ _) rfl ?_
          exact ⟨⟨_, rfl⟩, .inr ⟨_, HPRE.out, hJx3⟩⟩
    · obtain rfl : k = U.length := by omega
      have hd : decide ((U.length : Int) < U.length) = false := by simp
      have hJk := hS.j
      gi_wp2
      go_end0
      exact ⟨⟨_, rfl⟩, .inl ⟨_, rfl, hJk⟩⟩
end Go.Proofs.Ytkknelcolbdphaa
