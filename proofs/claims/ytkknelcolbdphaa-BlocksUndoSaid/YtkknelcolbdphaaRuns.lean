/- Runs. -/
import Derived.Test.YtkknelcolbdphaaRunB
import Derived.Test.YtkknelcolbdphaaReads
namespace Go.Proofs.Ytkknelcolbdphaa
open Go.RowKit
set_option maxRecDepth 100000
attribute [local go_sem] Oper.semAt_some

/-- What Runs keeps in its rounds. -/
structure RunI (w : World) (bR z : Nat) (pre : List Nat) (W : World) : Prop where
  row : ∃ x, Boxed W bR 50 x ∧ OwnR W z x (runsG pre)
  bel : Below w.heap.size w W
theorem RunI.kept {X : Nat → Prop} {w : World} {bR z : Nat} {pre : List Nat} {A B : World} (h : RunI w bR z pre A) (hk : Kept X A B) (hx : ∀ k, X k → w.heap.size ≤ k ∧ k ≠ bR ∧ k < z) : RunI w bR z pre B := by
  obtain ⟨⟨x, hx1, hr⟩, hbel⟩ := h
  exact ⟨⟨x, boxed_kept hx1 hk (fun c => by have := hx _ c; omega), row_kept hr hk (fun g hg _ c => by have := hx _ c; omega)⟩, below_kept hbel hk (Nat.le_refl _) (fun k c => by have := hx _ c; omega)⟩
def RunsPost (l : Lay) (U : List Bool) (w : World) (e : Ending) (w' : World) : Prop := ∃ v, e = .returned (.tuple #[v, .int .i64 (chkE l U)]) ∧ RunsMem w' v (runsV l U) ∧ Below w.heap.size w w'
set_option maxHeartbeats 8000000 in
theorem runs_in (n : Nat) (hn : 8 ≤ n) {w : World} {l : Lay} {v : Value} {U : List Bool} (hv : BoolsAt w v U) (hU : U.length ≤ 1000) :
    CallsIn Fence.wide n Try.prog 31 #[.agg (stA l v)] w (RunsPost l U w) := by
  obtain ⟨s, d, rfl⟩ := hv.val
  obtain ⟨W3, hW3, hr3, hB3⟩ := box_st' l (.slice s U.length d) w
  have HC := Lib.hid (check_any l U s d W3)
  have HW3 := Lib.hid hW3
  clear hW3
  obtain ⟨k0, k1, k2, k3⟩ := (show Row W3 w.heap.size #[.int .i64 l.s, .int .i64 l.j, .int .i64 l.n, .slice s U.length d] 33 from hr3).four
  unfold stA at HC ⊢
  refine callsIn_of_wp_marks Try.func31 rfl trivial ?_ rfl
  simp only [Try.ntmps31, List.size_toArray, List.length_cons, List.length_nil, Nat.reduceAdd, Nat.reduceSub, Array.replicate_succ, Array.replicate_zero, List.push_toArray, List.append_toArray, List.nil_append, List.cons_append]
  gi_wp2_with (rw [HW3.out])
  refine ⟨trivial, fun _ => by omega, (callsIn_wide.2 HC.out).mono ?_⟩
  rintro e W4 ⟨rfl, hb4⟩
  have hB4 : Below w.heap.size w W4 := hB3.trans (hb4.mono hB3.size)
  have a4 := hr3.below hb4 hr3.lt
  clear k0 k1 k2 k3 HW3 HC hB3 hb4 hr3
  obtain ⟨E, hEE⟩ : ∃ E, chkE l U = E := ⟨_, rfl⟩
  have HEE := Lib.hid hEE
  rw [hEE]
  by_cases hE : E = 0
  · subst hE
    obtain ⟨hn8, hn245⟩ := chkE_len hEE
    have HV : Hid (runsV l U = runsL U) := Lib.hid (if_pos hEE)
    obtain ⟨W5, hW5⟩ : ∃ W5, W4.alloc (.cells #[.slice none 0 0] 50) = W5 := ⟨_, rfl⟩
    have b5 : Boxed W5 W4.heap.size 50 (.slice none 0 0) := by rw [← hW5]; exact Boxed.new _ _ _
    have hs5 : W5.heap.size = W4.heap.size + 1 := by rw [← hW5]; simp
    have hB5 : Below w.heap.size w W5 := by rw [← hW5]; exact hB4.alloc hB4.size _
    have a5 : Row W5 w.heap.size (stA l (.slice s U.length d)) 33 := by rw [← hW5]; exact a4.alloc _
    obtain ⟨k0, k1, k2, k3⟩ := a5.fourS
    have hlt4 := a4.lt
    have HS5 := Lib.hid hs5
    clear hEE a4 hs5
    gi_wp2_with (rw [hW5])
    refine ⟨trivial, fun _ => by omega, (callsIn_wide.2 (freeFrom_any s U.length d 0 _)).mono ?_⟩
    rintro e W7 ⟨rfl, rfl⟩
    gi_wp2_with fail
    obtain ⟨W8, hW8, hs8, x8, y8, hb8⟩ := box_free (.slice s U.length d) 0 W5
    have b8 : Boxed W8 W4.heap.size 50 (.slice none 0 0) := Row.below b5 hb8 b5.lt
    have hB8 : Below w.heap.size w W8 := hB5.trans (hb8.mono hB5.size)
    rw [hW8]
    have hs5 := HS5.out
    have HI0 : RunI w W4.heap.size (W8.heap.size + 2) [] W8 := ⟨⟨_, b8, World.ownsRow_nil _ _ _ _⟩, hB8⟩
    have hI : Stays (O2 (fun _ => False) W8.heap.size) (RunI w W4.heap.size (W8.heap.size + 2)) := fun s A B h hk => h.kept hk (fun k q => by
      unfold O2 at q; simp at q; omega)
    have hIx : ∀ _ : Code, Stays (O2 (fun _ => False) W8.heap.size) (fun (_ : List Nat) (_ : World) => False) := fun _ _ _ _ h _ => h
    clear hW8 k0 k1 k2 k3 hW5 b8
    refine range_law (n := n) rfl (by omega) (gf := 51) (lb := #[.pointer (some ⟨W5.heap.size, 0, none⟩), .pointer (some ⟨W5.heap.size + 1, 0, none⟩)]) rfl trivial (enters_of Try.func51 (by kernel_rfl) rfl)
      (O := fun _ => False) (R := freeR w W5.heap.size) (encs := encN) ⟨by omega, by omega, by omega⟩
      (fun W1 hb1' hs1 => free_seq (n - 1) (by omega) w W5.heap.size (.slice s U.length d) U 0 W1 hv hU (by omega) (hB8.trans (hb1'.mono (by omega))) ((hb1'.block _ x8.lt).trans x8) ((hb1'.block _ y8.lt).trans y8)) (fun _ => rfl) (fun k h => h.elim)
      (RunI w W4.heap.size (W8.heap.size + 2)) (fun _ _ _ => False) hI hIx HI0 ?round ?done ?stop
    case stop => rintro c pre W _ h _; exact h.elim
    case round =>
      rintro pre x W hL hbf hC K hK
      unfold encN
      gi_wp2
      refine hK _ _ (Kept.refl _ _) ?_
      clear hK
      intro W2 hk2
      have hL2 := hI _ _ _ hL (hk2.mono (fun k (h : k = _) => .inr (.inr h)))
      have hsz2 : W8.heap.size + 2 ≤ W2.heap.size := Nat.le_trans hbf hk2.size
      have hpl : pre.length ≤ 1000 := by
        have := hC.length_le
        have h2 := freeP_len U 0 U.length
        unfold freeL at this
        rw [List.length_append] at this
        omega
      have hxl : x ≤ 1000 := by
        have := (freeP_mem (k := U.length) (hC.subset (List.mem_append_right _ (List.mem_singleton.2 rfl))) (by omega)).1
        omega
      have hfl : ∀ f ∈ pre, f ≤ 1000 := fun f hf => by
        have := (freeP_mem (k := U.length) (hC.subset (List.mem_append_left _ hf)) (by omega)).1
        omega
      obtain ⟨⟨vx, hx1, hrow⟩, hLbel⟩ := hL2
      have HLT : Hid (W5.heap.size = W4.heap.size + 1 ∧ W8.heap.size = W5.heap.size + 2 ∧ w.heap.size < W4.heap.size ∧ W8.heap.size + 2 ≤ W2.heap.size) := Lib.hid ⟨hs5, hs8, hlt4, hsz2⟩
      have HFIN := Lib.hid (fun (W' : World) (vv : Value) (hk : Kept (fun k => W8.heap.size + 2 ≤ k ∨ k = W4.heap.size) W2 W') (hb : Boxed W' W4.heap.size 50 vv) (ho : OwnR W' (W8.heap.size + 2) vv (runsG (pre ++ [x]))) =>
        (show Kept (R2 (freeR w W5.heap.size) W8.heap.size) W2 W' ∧ RunI w W4.heap.size (W8.heap.size + 2) (pre ++ [x]) W' from
          ⟨hk.mono (fun k h => by unfold R2 freeR; have := HLT.out; omega), ⟨_, hb, ho⟩, below_kept hLbel hk (Nat.le_refl _) (fun k h => by have := HLT.out; omega)⟩))
      obtain ⟨i0, hi, hz0, hz1, hz2⟩ := info_parts Try.infoRun
      have hgl := runsG_len pre
      have hgm := runsG_mem pre
      clear hL hk2 hI hIx HI0 hC hbf
      cases hG : runsG pre with
      | nil =>
        rw [hG] at hrow
        have HNX := Lib.hid (runsG_nil x hG)
        obtain ⟨sx, cx, rfl⟩ := hrow.mem.val
        have hcc := hx1.cell
        have hcf := hx1.frozen
        clear hG hgl hgm
        rw [List.length_nil] at *
        gi_wp2_with fail
        refine region_reads_by 20 17 (fun i => (#[.int .i64 (-1), .bool false, .bool false, undef, undef, undef, undef, undef, undef, undef, undef, undef, undef, undef, undef, undef, .bool false] : Array Value).getD i undef) (by kernel_rfl) rfl (by kernel_rfl) (Nat.le_of_ble_eq_true rfl) ?step ?fin
        case step =>
          rintro (_|_|_|_|_|_|_|_|_|_|_|_|_|_|_|_|_|i) o ρ ho hc hf hlow haft
          all_goals
            simp only [List.getElem?_toArray, List.getElem?_cons_succ, List.getElem?_cons_zero, List.getElem?_nil, reduceCtorEq, Option.some.injEq] at ho
          all_goals subst ho
          all_goals refine ⟨(by intro f hf; cases hf), ?_⟩
          all_goals first
            | exact on_no (by rfl) (by rfl)
            | (refine on_yes (by rfl) ?_
               rw [Oper.semAt_plain _ _ _ (by intro c h; cases h)]
               try have f0 := haft _ (.head _) rfl
               try have f1 := haft _ (.tail _ (.head _)) rfl
               try have f2 := haft _ (.tail _ (.tail _ (.head _))) rfl
               clear haft
               try dsimp only [Nat.reduceAdd] at f0
               try dsimp only [Nat.reduceAdd] at f1
               try dsimp only [Nat.reduceAdd] at f2)
          all_goals try have l5 := hlow 5 (by decide)
          all_goals try have l7 := hlow 7 (by decide)
          all_goals clear hlow
          all_goals try go_simp
        case fin =>
          simp only [puts, Act.put, List.setIfInBounds_toArray, List.set_cons_zero, List.set_cons_succ, Nat.reduceAdd, Array.getD_eq_getD_getElem?, List.getElem?_toArray, List.getElem?_cons_succ, List.getElem?_cons_zero, Option.getD_some]
          have hrd : World.ownsRow W2.drew (W8.heap.size + 2) 54 2 (.slice sx 0 cx) 0 [] := hrow
          have hxd : Boxed W2.drew W4.heap.size 50 (.slice sx 0 cx) := hx1
          have HKD : Hid (Kept (fun k => W8.heap.size + 2 ≤ k ∨ k = W4.heap.size) W2 W2.drew) := Lib.hid (Kept.refl _ W2).drew
          have hszd : W8.heap.size + 2 ≤ W2.drew.heap.size := hsz2
          clear hsz2
          have hlt2 := HLT.out
          generalize W2.drew = Wd at *
          clear hcc hcf
          have hcc := hxd.cell
          have hcf := hxd.frozen
          gi_wp2_with (gi_at_builtin; (refine wpListIn_append_own _ rfl _ _ 50 rfl (W8.heap.size + 2) 54 i0 (.agg #[.int .i64 0, .int .i64 0]) 2 16 Try.underlying50 hi hz0 hz1 hz2 rfl (by decide) _ _ _ rfl (World.ownsRow.alloc hrd _) ⟨Wd.heap.size, 0, none⟩ 1 1 [.int .i64 (x : Int), .int .i64 1] rfl rfl (run_new _ _ _) (by simp [Value.oneCell']) (by unfold maxLen; omega) (by omega) (by simp; omega) ?_; intro v' w1 hown' hgrow _; obtain ⟨g', cap', rfl⟩ := ownsRow_succ hown'; have hkw : Kept (fun k => W8.heap.size + 2 ≤ k) Wd w1 := ((Kept.refl _ Wd).alloc _).trans' (Kept.grown hgrow) (fun k e => .inl (hrd.lt k e).1); have hv1 := boxed_kept hxd hkw (by omega); have hcv1 := hv1.cell; have hfv1 := hv1.frozen))
          have hk3 : Kept (fun k => k = W4.heap.size) w1 (w1.setCell ⟨W4.heap.size, 0, none⟩ (.slice (some ⟨g', 0, none⟩) (0 + 1) cap')) := (Kept.refl (fun k => k = W4.heap.size) w1).setCell ⟨W4.heap.size, 0, none⟩ rfl _
          have hto : OwnR w1 (W8.heap.size + 2) (.slice (some ⟨g', 0, none⟩) (0 + 1) cap') (runsG (pre ++ [x])) := by rw [HNX.out]; exact hown'
          exact HFIN.out _ _ ((HKD.out.trans (hkw.mono (fun k h => .inl h))).trans (hk3.mono (fun k h => .inr h))) (Boxed.set _ hv1) (row_kept hto hk3 (fun g hg _ (h : g = W4.heap.size) => by have := HLT.out; omega))
      | cons y r =>
        obtain ⟨S, f, m, hS⟩ : ∃ S f m, runsG pre = S ++ [(f, m)] := by
          rcases List.eq_nil_or_concat (runsG pre) with h | ⟨S, ⟨f, m⟩, h⟩
          · rw [h] at hG; cases hG
          · exact ⟨S, f, m, by rw [h, List.concat_eq_append]⟩
        rw [hS] at hrow
        have hfm := hgm (f, m) (by rw [hS]; simp)
        have hSl : S.length + 1 ≤ pre.length := by rw [hS] at hgl; simpa using hgl
        have hf1 : f ≤ 1000 := hfl _ hfm.1
        have hm1 : m ≤ 1000 := Nat.le_trans hfm.2 hpl
        have HNM := Lib.hid (fun h : f + m = x => runsG_more hS h)
        have HNN := Lib.hid (fun h : f + m ≠ x => runsG_new hS h)
        have hlen : (S ++ [(f, m)]).length = S.length + 1 := by simp
        replace hrow : World.ownsRow W2 (W8.heap.size + 2) 54 2 vx (S.length + 1) (runsC (S ++ [(f, m)])) := by rw [← hlen]; exact hrow
        obtain ⟨g, cap, rfl⟩ := ownsRow_succ hrow
        obtain ⟨c1, c2⟩ := runsC_get (S ++ [(f, m)]) S.length (by rw [hlen]; omega)
        have k1 := hrow.cells (g := g) rfl (S.length * 2) _ c1
        have k2 := hrow.cells (g := g) rfl (S.length * 2 + 1) _ c2
        have hcc := hx1.cell
        have hcf := hx1.frozen
        clear hG hgl hgm c1 c2 hfm
        simp only [List.getElem_append_right (Nat.le_refl _), Nat.sub_self, List.getElem_singleton, addr_add0, Nat.zero_add] at k1 k2
        have hS1 : S.length ≤ 1000 := by omega
        gi_wp2_with fail
        refine region_reads_by 20 17 (fun i => (#[.int .i64 (S.length : Nat), .bool true, .bool true, .slice (some ⟨g, 0, none⟩) (S.length + 1) cap, .int .i64 (S.length : Nat), .pointer (some ⟨g, S.length * 2, none⟩), .pointer (some ⟨g, S.length * 2, none⟩), .int .i64 (f : Nat), .slice (some ⟨g, 0, none⟩) (S.length + 1) cap, .int .i64 (S.length : Nat), .pointer (some ⟨g, S.length * 2, none⟩), .pointer (some ⟨g, S.length * 2 + 1, none⟩), .int .i64 (m : Nat), .int .i64 ((f + m : Nat) : Int), .int .i64 (x : Nat), .bool (f + m == x), .bool (f + m == x)] : Array Value).getD i undef) (by kernel_rfl) rfl (by kernel_rfl) (Nat.le_of_ble_eq_true rfl) ?step ?fin
        case step =>
          rintro (_|_|_|_|_|_|_|_|_|_|_|_|_|_|_|_|_|i) o ρ ho hc hf hlow haft
          all_goals
            simp only [List.getElem?_toArray, List.getElem?_cons_succ, List.getElem?_cons_zero, List.getElem?_nil, reduceCtorEq, Option.some.injEq] at ho
          all_goals subst ho
          all_goals refine ⟨(by intro f hf; cases hf), ?_⟩
          all_goals first
            | exact on_no (by rfl) (by rfl)
            | (refine on_yes (by rfl) ?_
               rw [Oper.semAt_plain _ _ _ (by intro c h; cases h)]
               try have f0 := haft _ (.head _) rfl
               try have f1 := haft _ (.tail _ (.head _)) rfl
               try have f2 := haft _ (.tail _ (.tail _ (.head _))) rfl
               clear haft
               try dsimp only [Nat.reduceAdd] at f0
               try dsimp only [Nat.reduceAdd] at f1
               try dsimp only [Nat.reduceAdd] at f2)
          all_goals try have l5 := hlow 5 (by decide)
          all_goals try have l6 := hlow 6 (by decide)
          all_goals try have l7 := hlow 7 (by decide)
          all_goals clear hlow
          all_goals try go_simp
          · intro h; omega
          · intro h; omega
          · rw [IntKind.wrap_i64]; omega
          · rw [Bool.eq_iff_iff]; simp; omega
        case fin =>
          simp only [puts, Act.put, List.setIfInBounds_toArray, List.set_cons_zero, List.set_cons_succ, Nat.reduceAdd, Array.getD_eq_getD_getElem?, List.getElem?_toArray, List.getElem?_cons_succ, List.getElem?_cons_zero, Option.getD_some]
          have hrd : World.ownsRow W2.drew (W8.heap.size + 2) 54 2 (.slice (some ⟨g, 0, none⟩) (S.length + 1) cap) (S.length + 1) (runsC (S ++ [(f, m)])) := hrow
          have hxd : Boxed W2.drew W4.heap.size 50 (.slice (some ⟨g, 0, none⟩) (S.length + 1) cap) := hx1
          have HKD : Hid (Kept (fun k => W8.heap.size + 2 ≤ k ∨ k = W4.heap.size) W2 W2.drew) := Lib.hid (Kept.refl _ W2).drew
          have hszd : W8.heap.size + 2 ≤ W2.drew.heap.size := hsz2
          clear hsz2
          have k1' : W2.drew.cell? ⟨g, S.length * 2, none⟩ = some (.int .i64 (f : Int)) := k1
          have k2' : W2.drew.cell? ⟨g, S.length * 2 + 1, none⟩ = some (.int .i64 (m : Int)) := k2
          generalize W2.drew = Wd at *
          clear hcc hcf k1 k2
          have hcc := hxd.cell
          have hcf := hxd.frozen
          by_cases hx : f + m = x
          · have hbq : (f + m == x) = true := by simpa using hx
            rw [hbq]
            have HNX : Hid (runsG (pre ++ [x]) = S ++ [(f, m + 1)]) := Lib.hid (HNM.out hx)
            clear HNM HNN hx hbq
            have hfg : Wd.frozen? ⟨g, S.length * 2 + 1, none⟩ = false := World.ownsRow.frozenAt hrd _
            have hgl := (hrd.lt g rfl)
            have HGL := Lib.hid hgl
            clear hgl
            gi_wp2_with fail
            have hk3 : Kept (fun k => k = g) Wd (Wd.setCell ⟨g, S.length * 2 + 1, none⟩ (.int .i64 ((m + 1 : Nat) : Int))) := (Kept.refl (fun k => k = g) Wd).setCell ⟨g, S.length * 2 + 1, none⟩ rfl _
            have hto : OwnR (Wd.setCell ⟨g, S.length * 2 + 1, none⟩ (.int .i64 ((m + 1 : Nat) : Int))) (W8.heap.size + 2) (.slice (some ⟨g, 0, none⟩) (S.length + 1) cap) (runsG (pre ++ [x])) := by
              rw [HNX.out]
              have := (World.ownsRow.stored hrd (S.length * 2 + 1) (.int .i64 ((m + 1 : Nat) : Int))).1
              rw [runsC_set] at this
              unfold OwnR
              rw [show (S ++ [(f, m + 1)]).length = S.length + 1 by simp]
              exact this
            exact HFIN.out _ _ (HKD.out.trans (hk3.mono (fun k (h : k = g) => .inl (by have := HGL.out; omega)))) (boxed_kept hxd hk3 (fun h => by have := HGL.out; have := HLT.out; omega)) hto
          · have hbq : (f + m == x) = false := by simpa using hx
            rw [hbq]
            have HNX : Hid (runsG (pre ++ [x]) = S ++ [(f, m)] ++ [(x, 1)]) := Lib.hid (HNN.out hx)
            clear HNM HNN hx hbq
            gi_wp2_with (gi_at_builtin; (refine wpListIn_append_own _ rfl _ _ 50 rfl (W8.heap.size + 2) 54 i0 (.agg #[.int .i64 0, .int .i64 0]) 2 16 Try.underlying50 hi hz0 hz1 hz2 rfl (by decide) _ _ _ rfl (World.ownsRow.alloc hrd _) ⟨Wd.heap.size, 0, none⟩ 1 1 [.int .i64 (x : Int), .int .i64 1] rfl rfl (run_new _ _ _) (by simp [Value.oneCell']) (by unfold maxLen; omega) (by omega) (by simp; omega) ?_; intro v' w1 hown' hgrow _; obtain ⟨g', cap', rfl⟩ := ownsRow_succ hown'; have hkw : Kept (fun k => W8.heap.size + 2 ≤ k) Wd w1 := ((Kept.refl _ Wd).alloc _).trans' (Kept.grown hgrow) (fun k e => .inl (hrd.lt k e).1); have hv1 := boxed_kept hxd hkw (by omega); have hcv1 := hv1.cell; have hfv1 := hv1.frozen))
            have hk3 : Kept (fun k => k = W4.heap.size) w1 (w1.setCell ⟨W4.heap.size, 0, none⟩ (.slice (some ⟨g', 0, none⟩) (S.length + 1 + 1) cap')) := (Kept.refl (fun k => k = W4.heap.size) w1).setCell ⟨W4.heap.size, 0, none⟩ rfl _
            have hto : OwnR w1 (W8.heap.size + 2) (.slice (some ⟨g', 0, none⟩) (S.length + 1 + 1) cap') (runsG (pre ++ [x])) := by rw [HNX.out]; unfold OwnR; rw [List.length_append, List.length_append, List.length_singleton, List.length_singleton, runsC_snoc]; exact hown'
            exact HFIN.out _ _ ((HKD.out.trans (hkw.mono (fun k h => .inl h))).trans (hk3.mono (fun k h => .inr h))) (Boxed.set _ hv1) (row_kept hto hk3 (fun g hg _ (h : g = W4.heap.size) => by have := HLT.out; omega))
    case done =>
      rintro xs W hxs hL hD
      obtain rfl : xs = freeL U 0 := hxs
      obtain ⟨⟨vx, hx1, hrow⟩, hLbel⟩ := hL
      have hG : runsG (freeL U 0) = runsL U := runsG_free U U.length (Nat.le_refl _)
      rw [hG] at hrow
      have hcc := hx1.cell
      have HHD := Lib.hid hD
      have HLT : Hid (W5.heap.size = W4.heap.size + 1 ∧ W8.heap.size = W5.heap.size + 2 ∧ w.heap.size < W4.heap.size ∧ W8.heap.size < W.heap.size) := Lib.hid ⟨hs5, hs8, hlt4, bf_lt hD⟩
      clear hI hIx HI0 hD hs8 hG
      gi_wp2_with fail
      exact leaveM1 (B := W8.heap.size) HHD.out (results_tmp2 rfl _ _ _) ⟨_, by rw [HEE.out]; rfl, by rw [HV.out]; exact OwnR.mem (ownsRow_putObj hrow _ HHD.out rfl), below_putObj hLbel (Nat.le_refl _) (by have := HLT.out; omega)⟩
  · have hd : (E == 0) = false := by simpa using hE
    gi_wp2_with fail
    exact leaveM0 (results_tmp2 rfl _ _ _) ⟨.slice none 0 0, by rw [HEE.out]; rfl, .inl ⟨none, 0, rfl, by unfold runsV; rw [HEE.out, if_neg hE]⟩, hB4⟩
theorem runs_any {w : World} {l : Lay} {v : Value} {U : List Bool} (hv : BoolsAt w v U) (hU : U.length ≤ 1000) : Calls Try.prog 31 #[.agg (stA l v)] w (RunsPost l U w) :=
  callsIn_wide.1 (runs_in 8 (Nat.le_refl _) hv hU)
end Go.Proofs.Ytkknelcolbdphaa
