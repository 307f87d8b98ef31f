/- Count. -/
import Derived.Test.YtkknelcolbdphaaFree
import Derived.Shelf.Abstract
namespace Go.Proofs.Ytkknelcolbdphaa
open Go.RowKit
set_option maxRecDepth 100000
attribute [local go_sem] Oper.semAt_some

theorem leaveM0 {n : Nat} {fn : Func} {tmps : Array Value} {W : World} {v : Value} {R : Ending → World → Prop} (h1 : (results fn tmps).run Try.prog W = .ok v W) (h2 : R (.returned v) W) :
    bodyPostM Fence.wide n Try.prog fn R .ret { tmps := tmps, defers := [] } W := ⟨v, h1, h2⟩
theorem leaveM1 {n B : Nat} {fn : Func} {tmps : Array Value} {W : World} {v : Value} {R : Ending → World → Prop} (hD : W.heap[B]? = some (.deferred (some []))) (h1 : (results fn tmps).run Try.prog (W.putObj B (.deferred none)) = .ok v (W.putObj B (.deferred none))) (h2 : R (.returned v) (W.putObj B (.deferred none))) :
    bodyPostM Fence.wide n Try.prog fn R .ret { tmps := tmps, defers := [{ target := .collected B, args := #[] }] } W := ⟨by simp, .inl ⟨_, _, rfl, run_takeDeferred hD, ⟨v, h1, h2⟩⟩⟩
theorem Row.putObj {W : World} {b B T : Nat} {o : Obj} {cs : Array Value} (h : Row W b cs T) (hb : b ≠ B) : Row (W.putObj B o) b cs T := (World.putObj_heap_other hb).trans h
theorem below_putObj {n B : Nat} {A W : World} {o : Obj} (h : Below n A W) (hn : n ≤ A.heap.size) (hB : n ≤ B) : Below n A (W.putObj B o) :=
  below_kept h (Kept.putObj (· = B) W B o rfl) hn (fun k e => by rw [e]; exact hB)
/-- A number that lies in a box, and a number. -/
theorem bodyRet_int2 {fn : Func} {p q : Tmp} (h : fn.results = #[.cell p 3, .tmp q]) {tmps : Array Value} {W : World} {g : Nat} {m : Int} {v : Value} (hp : tmps.getD p undef = .pointer (some ⟨g, 0, none⟩)) (hq : tmps.getD q undef = v)
    (hg : Boxed W g 3 (.int .i64 m)) : (results fn tmps).run Try.prog W = .ok (.tuple #[.int .i64 m, v]) W := by
  have hc := hg.cell
  subst hq
  have hp' : tmps[p]?.getD undef = .pointer (some ⟨g, 0, none⟩) := by simpa using hp
  simp [results, h, hp', asAddr, go_sem, hc]
/-- The two boxes of the iterator. -/
theorem box_free (v : Value) (m : Int) (W : World) : ∃ W8, (W.alloc (.cells #[v] 31)).alloc (.cells #[.int .i64 m] 3) = W8 ∧ W8.heap.size = W.heap.size + 2 ∧ Boxed W8 W.heap.size 31 v ∧ Boxed W8 (W.heap.size + 1) 3 (.int .i64 m) ∧ Below W.heap.size W W8 := by
  refine ⟨_, rfl, by simp, (Boxed.new W _ _).alloc _, ?_, ((Below.refl _ W).alloc (Nat.le_refl _) _).alloc (by simp) _⟩
  have := Boxed.new (W.alloc (.cells #[v] 31)) 3 (.int .i64 m); rwa [World.size_alloc] at this
/-- What Count keeps in its rounds. -/
structure CountS (w : World) (pre : List Nat) (W : World) : Prop where
  n : Boxed W (w.heap.size + 1) 3 (.int .i64 (pre.length : Int))
  bel : Below w.heap.size w W
theorem CountS.kept {X : Nat → Prop} {w : World} {pre : List Nat} {A B : World} (h : CountS w pre A) (hk : Kept X A B) (hx : ∀ k, X k → w.heap.size + 2 ≤ k) : CountS w pre B :=
  ⟨boxed_kept h.n hk (fun q => by have := hx _ q; omega), below_kept h.bel hk (Nat.le_refl _) (fun k q => by have := hx _ q; omega)⟩

set_option maxHeartbeats 4000000 in
theorem count_in (n : Nat) (hn : 8 ≤ n) {w : World} {l : Lay} {v : Value} {U : List Bool} (hv : BoolsAt w v U) (hU : U.length ≤ 1000) :
    CallsIn Fence.wide n Try.prog 29 #[.agg (stA l v)] w fun e w' => e = .returned (.tuple #[.int .i64 (countV l U : Nat), .int .i64 (chkE l U)]) ∧ Below w.heap.size w w' := by
  obtain ⟨s, d, rfl⟩ := hv.val
  obtain ⟨W3, hW3⟩ : ∃ W3, (w.alloc (.cells (stA l (.slice s U.length d)) 33)).alloc (.cells #[.int .i64 0] 3) = W3 := ⟨_, rfl⟩
  have hs3 : W3.heap.size = w.heap.size + 2 := by rw [← hW3]; simp
  have hB3 : Below w.heap.size w W3 := by rw [← hW3]; exact ((Below.refl _ w).alloc (Nat.le_refl _) _).alloc (by simp) _
  have a3 : Row W3 w.heap.size (stA l (.slice s U.length d)) 33 := by rw [← hW3]; exact (Row.new w _ _).alloc _
  have b3 : Boxed W3 (w.heap.size + 1) 3 (.int .i64 0) := by
    rw [← hW3]; have := Boxed.new (w.alloc (.cells (stA l (.slice s U.length d)) 33)) 3 (.int .i64 0); rw [World.size_alloc] at this; exact this
  have HC := Lib.hid (check_any l U s d W3)
  have HW3 := Lib.hid hW3
  clear hW3
  obtain ⟨k0, k1, k2, k3⟩ := (show Row W3 w.heap.size #[.int .i64 l.s, .int .i64 l.j, .int .i64 l.n, .slice s U.length d] 33 from a3).four
  unfold stA at HW3 HC ⊢
  refine callsIn_of_wp_marks Try.func29 rfl trivial ?_ rfl
  simp only [Try.ntmps29, List.size_toArray, List.length_cons, List.length_nil, Nat.reduceAdd, Nat.reduceSub, Array.replicate_succ, Array.replicate_zero, List.push_toArray, List.append_toArray, List.nil_append, List.cons_append]
  gi_wp2_with (rw [HW3.out])
  refine ⟨trivial, fun _ => by omega, (callsIn_wide.2 HC.out).mono ?_⟩
  rintro e W4 ⟨rfl, hb4⟩
  have hs4 := hb4.size
  have a4 := a3.below hb4 a3.lt
  have b4 : Row W4 (w.heap.size + 1) #[.int .i64 0] 3 := Row.below b3 hb4 b3.lt
  have hB4 : Below w.heap.size w W4 := hB3.trans (hb4.mono (by omega))
  clear k0 k1 k2 k3 HW3 HC b3 hB3 hb4
  obtain ⟨E, hEE⟩ : ∃ E, chkE l U = E := ⟨_, rfl⟩
  have HEE := Lib.hid hEE
  rw [hEE]
  have hc := b4.cell 0 (.int .i64 0) rfl
  have hf := b4.froz 0
  by_cases hE : E = 0
  · subst hE
    have HV : Hid (countV l U = (freeL U 0).length) := Lib.hid (if_pos hEE)
    obtain ⟨hn8, hn245⟩ := chkE_len hEE
    obtain ⟨k0, k1, k2, k3⟩ := (show Row W4 w.heap.size #[.int .i64 l.s, .int .i64 l.j, .int .i64 l.n, .slice s U.length d] 33 from a4).four
    clear hEE
    gi_wp2_with fail
    refine ⟨trivial, fun _ => by omega, (callsIn_wide.2 (freeFrom_any s U.length d 0 _)).mono ?_⟩
    rintro e W7 ⟨rfl, rfl⟩
    gi_wp2_with fail
    obtain ⟨W8, hW8, hs8, x8, y8, hb8⟩ := box_free (.slice s U.length d) 0 W4
    have b8 : Boxed W8 (w.heap.size + 1) 3 (.int .i64 0) := Row.below b4 hb8 b4.lt
    have hB8 : Below w.heap.size w W8 := hB4.trans (hb8.mono hB4.size)
    rw [hW8]
    have HI0 : CountS w [] W8 := ⟨b8, hB8⟩
    have hI : Stays (O2 (fun _ => False) W8.heap.size) (CountS w) := fun s A B h hk => h.kept hk (fun k q => by
      unfold O2 at q; simp at q; omega)
    have hIx : ∀ _ : Code, Stays (O2 (fun _ => False) W8.heap.size) (fun (_ : List Nat) (_ : World) => False) := fun _ _ _ _ h _ => h
    clear hW8 k0 k1 k2 k3 hc hf b8
    refine range_law (n := n) rfl (by omega) (gf := 51) (lb := #[.pointer (some ⟨W4.heap.size, 0, none⟩), .pointer (some ⟨W4.heap.size + 1, 0, none⟩)]) rfl trivial (enters_of Try.func51 (by kernel_rfl) rfl)
      (O := fun _ => False) (R := freeR w W4.heap.size) (encs := encN) ⟨by omega, by omega, by omega⟩
      (fun W1 hb1' hs1 => free_seq (n - 1) (by omega) w W4.heap.size (.slice s U.length d) U 0 W1 hv hU (by omega) (hB8.trans (hb1'.mono (by omega))) ((hb1'.block _ x8.lt).trans x8) ((hb1'.block _ y8.lt).trans y8)) (fun _ => rfl) (fun k h => h.elim)
      (CountS w) (fun _ _ _ => False) hI hIx HI0 ?round ?done ?stop
    case stop => rintro c pre W _ h _; exact h.elim
    case round =>
      rintro pre x W hL hbf hC K hK
      unfold encN
      gi_wp2
      refine hK _ _ (Kept.refl _ _) ?_
      clear hK
      intro W2 hk2
      have hL2 := hI _ _ _ hL (hk2.mono (fun k (h : k = _) => .inr (.inr h)))
      have hcc := hL2.n.cell
      have hcf := hL2.n.frozen
      have hpl : pre.length ≤ 1000 := by
        have := hC.length_le
        have h2 := freeP_len U 0 U.length
        unfold freeL at this
        rw [List.length_append] at this
        omega
      have HLN := Lib.hid (show ((pre ++ [x]).length : Int) = (pre.length : Int) + 1 by simp)
      have HLT : Hid (W4.heap.size ≤ W8.heap.size ∧ w.heap.size + 2 ≤ W4.heap.size) := Lib.hid ⟨by omega, by omega⟩
      clear hL hk2 hI hIx HI0 hC
      gi_wp2_with fail
      refine ⟨(Kept.refl _ _).setCell ⟨w.heap.size + 1, 0, none⟩ ?_ _, ⟨by rw [HLN.out]; exact hL2.n.set _, below_sets hL2.bel _ (by omega) _ _⟩⟩
      show (w.heap.size ≤ w.heap.size + 1 ∧ w.heap.size + 1 ≠ W4.heap.size ∧ w.heap.size + 1 ≠ W4.heap.size + 1) ∧ w.heap.size + 1 ≠ W8.heap.size ∧ w.heap.size + 1 ≠ W8.heap.size + 1
      have := HLT.out
      omega
    case done =>
      rintro xs W hxs hL hD
      obtain rfl : xs = freeL U 0 := hxs
      have hcc := hL.n.cell
      have hcf := hL.n.frozen
      have hlt : w.heap.size + 1 < W8.heap.size := by omega
      clear hI hIx HI0
      gi_wp2_with fail
      have hb := hL.n.set (.int .i64 ((freeL U 0).length : Int))
      refine leaveM1 ((Below.heap_setCell _ _ _ _ (fun e => by simp at e; omega)).trans hD) (bodyRet_int2 rfl rfl rfl (Row.putObj hb (by omega))) ⟨by rw [HV.out, HEE.out]; rfl, below_putObj (below_sets hL.bel _ (by omega) _ _) (Nat.le_refl _) (by omega)⟩
  · have hd := decB hE
    have HV : Hid (countV l U = 0) := Lib.hid (if_neg (by rw [hEE]; exact hE))
    clear hEE
    gi_wp2_with fail
    exact leaveM0 (bodyRet_int2 rfl rfl rfl (Row.set b4 0 _)) ⟨by rw [HV.out, HEE.out]; rfl, below_sets hB4 _ (by omega) _ _⟩
end Go.Proofs.Ytkknelcolbdphaa
