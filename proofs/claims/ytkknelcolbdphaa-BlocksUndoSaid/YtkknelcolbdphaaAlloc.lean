/- Alloc. -/
import Derived.Test.YtkknelcolbdphaaAllA
namespace Go.Proofs.Ytkknelcolbdphaa
open Go.RowKit
set_option maxRecDepth 100000
attribute [local go_sem] Oper.semAt_some
structure Kp (p : Prop) : Prop where
  out : p
/-- The end of a region that is left in no other way. -/
def PostN (P : Act → World → Prop) : Exit → Act → World → Prop
  | .normal, a, w => P a w
  | _, _, _ => False
/-- What Alloc keeps in its rounds. -/
structure AllI (l : Lay) (v : Value) (q : Nat) (w : World) (z : Nat) (pre : List Nat) (W : World) : Prop where
  box : AllB l v (q : Int) w.heap.size W
  row : ∃ x, Boxed W (w.heap.size + 3) 40 x ∧ OwnN W z x pre
  bel : Below w.heap.size w W
  le : pre.length ≤ q
theorem AllI.kept {X : Nat → Prop} {l : Lay} {v : Value} {q : Nat} {w : World} {z : Nat} {pre : List Nat} {A B : World} (h : AllI l v q w z pre A) (hk : Kept X A B) (hx : ∀ k, X k → w.heap.size + 4 ≤ k ∧ k < z) : AllI l v q w z pre B := by
  obtain ⟨hb, ⟨x, hx1, hr⟩, hbel, hle⟩ := h
  exact ⟨hb.kept hk (fun k c => by have := hx _ c; omega), ⟨x, boxed_kept hx1 hk (fun c => by have := hx _ c; omega), row_kept hr hk (fun g hg _ c => by have := hx _ c; omega)⟩, below_kept hbel hk (Nat.le_refl _) (fun k c => by have := hx _ c; omega), hle⟩
/-- A round that breaks. -/
def AllX (l : Lay) (v : Value) (q : Nat) (w : World) (z : Nat) (c : Code) (pre : List Nat) (W : World) : Prop :=
  c = .exit 0 ∧ ∃ p x, pre = p ++ [x] ∧ p.length = q ∧ AllI l v q w z p W
theorem cell_one (x : Int) (w : World) : ∀ j u, [Value.int .i64 x][j]? = some u → (w.alloc (.cells #[.int .i64 x] 3 (0, 0))).cell? ((⟨w.heap.size, 0, none⟩ : Addr).add j) = some u := by
  intro j u hj
  rw [addr_add0, Nat.zero_add, cell_of_row _ _ _ _ _ (0, 0) (heap_alloc_new w _)]
  simpa using hj
theorem Try.infoInt0 : (Try.prog.info? 3).map (fun i => (i.zero, i.size, i.bytes)) = some (some (.int .i64 0), 1, 8) := by kernel_rfl
theorem natVs_snoc (L : List Nat) (x : Nat) : (L ++ [x]).map natV = L.map natV ++ [.int .i64 (x : Int)] := by simp [natV]
theorem ret_alloc {l l' : Lay} {v vl : Value} {x y : Int} (h : l = l') (k : x = y) : Ending.returned (.tuple #[.agg (stA l v), vl, .int .i64 x]) = .returned (.tuple #[.agg (stA l' v), vl, .int .i64 y]) := by rw [h, k]
theorem take_of_pre {p F : List Nat} {x : Nat} (h : p ++ [x] <+: F) : F.take p.length = p ∧ p.length < F.length := by
  have hl := h.length_le
  rw [List.length_append, List.length_singleton] at hl
  obtain ⟨t, rfl⟩ := h
  refine ⟨?_, by omega⟩
  rw [List.append_assoc, List.take_left]
set_option maxHeartbeats 8000000 in
theorem alloc_in (n : Nat) (hn : 8 ≤ n) {w : World} {l : Lay} {v : Value} {U : List Bool} (near many : Int) (hv : BoolsAt w v U) (hU : U.length ≤ 1000) :
    CallsIn Fence.wide n Try.prog 20 #[.agg (stA l v), .int .i64 near, .int .i64 many] w (AllocPost l (allocU l U near many) (allocL l U near many) (allocE l U near many) w) := by
  obtain ⟨s, d, rfl⟩ := hv.val
  obtain ⟨W3, hW3, hs3, hB0, hr0, hB3⟩ := box_alloc l (.slice s U.length d) many w
  have HC := Lib.hid (check_any l U s d W3)
  have HW3 := Lib.hid hW3
  clear hW3
  obtain ⟨k0, k1, k2, k3⟩ := hB0.s.four
  unfold stA at HC ⊢
  refine callsIn_of_wp_marks Try.func20 rfl trivial ?_ rfl
  simp only [Try.ntmps20, List.size_toArray, List.length_cons, List.length_nil, Nat.reduceAdd, Nat.reduceSub, Array.replicate_succ, Array.replicate_zero, List.push_toArray, List.append_toArray, List.nil_append, List.cons_append]
  gi_wp2_with (rw [HW3.out])
  refine ⟨trivial, fun _ => by omega, (callsIn_wide.2 HC.out).mono ?_⟩
  rintro e W4 ⟨rfl, hb4⟩
  have hs4 := hb4.size
  have hB4 := hB0.below hb4 (by omega)
  have hr4 : Boxed W4 (w.heap.size + 3) 40 (.slice none 0 0) := Row.below hr0 hb4 hr0.lt
  have hBl4 : Below w.heap.size w W4 := hB3.trans (hb4.mono (by omega))
  have HCP := Lib.hid (copyOf_any (l := l) (hv.below hBl4 (Nat.le_refl _)) hU)
  unfold stA at HCP
  clear k0 k1 k2 k3 HW3 HC hB0 hr0 hB3 hb4
  obtain ⟨E, hEE⟩ : ∃ E, chkE l U = E := ⟨_, rfl⟩
  have HEE := Lib.hid hEE
  rw [hEE]
  obtain ⟨k0, k1, k2, k3⟩ := hB4.s.four
  have hmc := hB4.m.cell
  have HI := Lib.hid isFrom_any
  by_cases hE : E = 0
  · subst hE
    obtain ⟨hn8, hn245⟩ := chkE_len hEE
    cases hin : inB near 0 (U.length - 1) with
    | false =>
      have HE : Hid (allocE l U near many = 7) := Lib.hid (by unfold allocE; rw [if_pos hEE, if_neg (by simp [hin])])
      have HUU : Hid (allocU l U near many = U) := Lib.hid (by unfold allocU; rw [HE.out]; rfl)
      have HLL : Hid (allocL l U near many = []) := Lib.hid (by unfold allocL; rw [HE.out]; rfl)
      clear hEE
      gi_wp2_with fail
      refine ⟨trivial, fun _ => by omega, (callsIn_wide.2 (HI.out _ _ _ _)).mono ?_⟩
      rintro e W4' ⟨rfl, rfl⟩
      rw [hin]
      gi_wp2_with fail
      refine ⟨trivial, fun _ => by omega, (callsIn_wide.2 HCP.out).mono ?_⟩
      rintro e W5 ⟨v', rfl, ho, hb5⟩
      obtain ⟨s', d', rfl⟩ := ho.at_.val
      have hsz := W4.heap.size
      have hB5 := hB4.below hb5 (by have := hr4.lt; omega)
      have hr5 := Row.below hr4 hb5 hr4.lt
      have hBl5 : Below w.heap.size w W5 := hBl4.trans (hb5.mono hBl4.size)
      have hq : w.heap.size + 4 ≤ W4.heap.size := by have := hr4.lt; omega
      obtain ⟨t0, t1, t2, t3⟩ := hB5.t.four
      have tf := hB5.t.froz
      have r0 : W5.cell? ⟨w.heap.size + 3, 0, none⟩ = _ := Boxed.cell hr5
      have rf := Row.froz hr5 0
      have HBK := Lib.hid (alloc_back hB5 hr5 ho hq hBl5)
      clear k0 k1 k2 k3 hmc
      unfold stA
      gi_wp2_with fail
      exact leaveM0 (bodyRet_alloc (i := w.heap.size + 3) (g := w.heap.size + 2) rfl rfl rfl rfl HBK.out.t rfl HBK.out.r) ⟨_, _, by rw [HE.out]; rfl, by rw [HUU.out]; exact HBK.out.o, by rw [HLL.out]; exact World.ownsRow_nil _ _ _ _, HBK.out.b⟩
    | true =>
     by_cases hm : many < 0
     · have hdm : decide (many < 0) = true := decide_eq_true hm
       have HE : Hid (allocE l U near many = 7) := Lib.hid (by unfold allocE; rw [if_pos hEE, if_neg (by simp [hin, hm])])
       have HUU : Hid (allocU l U near many = U) := Lib.hid (by unfold allocU; rw [HE.out]; rfl)
       have HLL : Hid (allocL l U near many = []) := Lib.hid (by unfold allocL; rw [HE.out]; rfl)
       clear hEE
       gi_wp2_with fail
       refine ⟨trivial, fun _ => by omega, (callsIn_wide.2 (HI.out _ _ _ _)).mono ?_⟩
       rintro e W4' ⟨rfl, rfl⟩
       rw [hin]
       gi_wp2_with fail
       refine ⟨trivial, fun _ => by omega, (callsIn_wide.2 HCP.out).mono ?_⟩
       rintro e W5 ⟨v', rfl, ho, hb5⟩
       obtain ⟨s', d', rfl⟩ := ho.at_.val
       have hsz := W4.heap.size
       have hB5 := hB4.below hb5 (by have := hr4.lt; omega)
       have hr5 := Row.below hr4 hb5 hr4.lt
       have hBl5 : Below w.heap.size w W5 := hBl4.trans (hb5.mono hBl4.size)
       have hq : w.heap.size + 4 ≤ W4.heap.size := by have := hr4.lt; omega
       obtain ⟨t0, t1, t2, t3⟩ := hB5.t.four
       have tf := hB5.t.froz
       have r0 : W5.cell? ⟨w.heap.size + 3, 0, none⟩ = _ := Boxed.cell hr5
       have rf := Row.froz hr5 0
       have HBK := Lib.hid (alloc_back hB5 hr5 ho hq hBl5)
       clear k0 k1 k2 k3 hmc
       unfold stA
       gi_wp2_with fail
       exact leaveM0 (bodyRet_alloc (i := w.heap.size + 3) (g := w.heap.size + 2) rfl rfl rfl rfl HBK.out.t rfl HBK.out.r) ⟨_, _, by rw [HE.out]; rfl, by rw [HUU.out]; exact HBK.out.o, by rw [HLL.out]; exact World.ownsRow_nil _ _ _ _, HBK.out.b⟩
     · have hdm : decide (many < 0) = false := decide_eq_false hm
       have HUU : Hid (allocE l U near many = if ((freeL U 0).length : Int) < many then 11 else 0) := Lib.hid (by unfold allocE; rw [if_pos hEE, if_pos (by simp [hin]; omega)])
       have hin2 := hin
       unfold inB at hin2
       rw [Bool.and_eq_true, decide_eq_true_eq, decide_eq_true_eq] at hin2
       obtain ⟨a, rfl⟩ := Int.eq_ofNat_of_zero_le hin2.1
       obtain ⟨q, rfl⟩ := Int.eq_ofNat_of_zero_le (show 0 ≤ many by omega)
       have ha : a < U.length := by omega
       clear hin2
       have HFL := Lib.hid (freeL_len U a (by omega))
       clear hEE
       gi_wp2_with fail
       refine ⟨trivial, fun _ => by omega, (callsIn_wide.2 (HI.out _ _ _ _)).mono ?_⟩
       rintro e W4' ⟨rfl, rfl⟩
       rw [hin]
       gi_wp2_with fail
       refine ⟨trivial, fun _ => by omega, (callsIn_wide.2 (freeFrom_any s U.length d a _)).mono ?_⟩
       rintro e W7 ⟨rfl, rfl⟩
       gi_wp2_with fail
       obtain ⟨W8, hW8, hs8, x8, y8, hb8⟩ := box_free (.slice s U.length d) a W4
       have hB8 := hB4.below hb8 (by omega)
       have hr8 : Boxed W8 (w.heap.size + 3) 40 (.slice none 0 0) := Row.below hr4 hb8 hr4.lt
       have hBl8 : Below w.heap.size w W8 := hBl4.trans (hb8.mono hBl4.size)
       rw [hW8]
       have HI0 : AllI l (.slice s U.length d) q w (W8.heap.size + 2) [] W8 := ⟨hB8, ⟨_, hr8, World.ownsRow_nil _ _ _ _⟩, hBl8, Nat.zero_le _⟩
       have hI : Stays (O2 (fun _ => False) W8.heap.size) (AllI l (.slice s U.length d) q w (W8.heap.size + 2)) := fun s A B h hk => h.kept hk (fun k c => by
         unfold O2 at c; simp at c; omega)
       have hIx : ∀ c : Code, Stays (O2 (fun _ => False) W8.heap.size) (AllX l (.slice s U.length d) q w (W8.heap.size + 2) c) := by
         rintro c s A B ⟨hc, p, x, hp, hl, h⟩ hk
         exact ⟨hc, p, x, hp, hl, h.kept hk (fun k c => by unfold O2 at c; simp at c; omega)⟩
       clear hW8 k0 k1 k2 k3 hmc hB8 hr8 hB4 hr4
       refine range_law (n := n) rfl (by omega) (gf := 51) (lb := #[.pointer (some ⟨W4.heap.size, 0, none⟩), .pointer (some ⟨W4.heap.size + 1, 0, none⟩)]) rfl trivial (enters_of Try.func51 (by kernel_rfl) rfl)
         (O := fun _ => False) (R := freeR w W4.heap.size) (encs := encN) ⟨by omega, by omega, by omega⟩
         (fun W1 hb1' hs1 => free_seq (n - 1) (by omega) w W4.heap.size (.slice s U.length d) U a W1 hv hU (by omega) (hBl8.trans (hb1'.mono (by omega))) ((hb1'.block _ x8.lt).trans x8) ((hb1'.block _ y8.lt).trans y8)) (fun _ => rfl) (fun k h => h.elim)
         (AllI l (.slice s U.length d) q w (W8.heap.size + 2)) (AllX l (.slice s U.length d) q w (W8.heap.size + 2)) hI hIx HI0 ?round ?done ?stop
       case round =>
         rintro pre x W hL hbf hC K hK
         unfold encN
         gi_wp2
         refine hK _ _ (Kept.refl _ _) ?_
         clear hK
         intro W2 hk2
         have hL2 := hI _ _ _ hL (hk2.mono (fun k (h : k = _) => .inr (.inr h)))
         have hsz2 : W8.heap.size + 2 ≤ W2.heap.size := Nat.le_trans hbf hk2.size
         have HPL : Hid (pre.length ≤ 1000) := Lib.hid (by
           have := hC.length_le
           have h2 := freeP_len U a U.length
           unfold freeL at this
           rw [List.length_append] at this
           omega)
         obtain ⟨hLB, ⟨vx, hx1, hrow⟩, hLbel, hLle⟩ := hL2
         obtain ⟨sx, cx, rfl⟩ := hrow.at_.val
         have hcc := hx1.cell
         have hcf := hx1.frozen
         have hmc := hLB.m.cell
         have HLT : Hid (W4.heap.size ≤ W8.heap.size ∧ w.heap.size + 4 ≤ W4.heap.size ∧ W8.heap.size + 2 ≤ W2.heap.size) := Lib.hid ⟨by omega, by omega, hsz2⟩
         clear hL hk2 hI hIx HI0 hC hbf
         by_cases hpq : pre.length = q
         · have hd : ((pre.length : Int) == (q : Int)) = true := by simp [hpq]
           have hd2 : decide ((pre.length : Int) = (q : Int)) = true := by simp [hpq]
           clear hsz2
           gi_wp2_with fail
           exact ⟨Kept.refl _ _, rfl, pre, x, rfl, hpq, ⟨hLB, ⟨_, hx1, hrow⟩, hLbel, hLle⟩⟩
         · have hd : ((pre.length : Int) == (q : Int)) = false := beq_eq_false_iff_ne.2 (by omega)
           obtain ⟨i0, hi, hz0, hz1, hz2⟩ := info_parts Try.infoInt0
           have hpl := HPL.out
           gi_wp2_with (gi_at_builtin; (refine wpListIn_append_own _ rfl _ _ 40 rfl (W8.heap.size + 2) 3 i0 (.int .i64 0) 1 8 Try.underlying40 hi hz0 hz1 hz2 rfl (by decide) _ _ _ rfl (World.ownsRow.alloc hrow _) ⟨W2.heap.size, 0, none⟩ 1 1 [.int .i64 (x : Int)] rfl rfl (cell_one _ _) (by simp [Value.oneCell']) (by unfold maxLen; omega) (by omega) (by simp; omega) ?_; intro v' w1 hown' hgrow _; obtain ⟨g', cap', rfl⟩ := ownsRow_succ hown'; have hkw : Kept (fun k => W8.heap.size + 2 ≤ k) W2 w1 := ((Kept.refl _ W2).alloc _).trans' (Kept.grown hgrow) (fun k e => .inl (hrow.lt k e).1); have hv1 := boxed_kept hx1 hkw (by omega); have hcv1 := hv1.cell; have hfv1 := hv1.frozen))
           have hk3 : Kept (fun k => k = w.heap.size + 3) w1 (w1.setCell ⟨w.heap.size + 3, 0, none⟩ (.slice (some ⟨g', 0, none⟩) (pre.length + 1) cap')) := (Kept.refl (fun k => k = w.heap.size + 3) w1).setCell ⟨w.heap.size + 3, 0, none⟩ rfl _
           refine ⟨(hkw.mono (fun k (h : W8.heap.size + 2 ≤ k) => by unfold R2 freeR; have := HLT.out; omega)).trans (hk3.mono (fun k (h : k = w.heap.size + 3) => by unfold R2 freeR; have := HLT.out; omega)), (hLB.kept hkw (fun k (h : W8.heap.size + 2 ≤ k) => by have := HLT.out; omega)).kept hk3 (fun k (h : k = w.heap.size + 3) => by omega), ⟨_, Boxed.set _ hv1, ?_⟩, below_kept (below_kept hLbel hkw (Nat.le_refl _) (fun k (h : W8.heap.size + 2 ≤ k) => by have := HLT.out; omega)) hk3 (Nat.le_refl _) (fun k (h : k = w.heap.size + 3) => by omega), ?_⟩
           · show World.ownsRow _ _ _ _ _ _ _
             rw [natVs_snoc, List.length_append, List.length_singleton]
             exact row_kept hown' hk3 (fun g hg _ (h : g = w.heap.size + 3) => by have := HLT.out; omega)
           · rw [List.length_append, List.length_singleton]; omega
       case done =>
         rintro xs W hxs hL hD
         obtain rfl : xs = freeL U a := hxs
         obtain ⟨hLB, ⟨vx, hx1, hrow⟩, hLbel, hLle⟩ := hL
         obtain ⟨sx, cx, rfl⟩ := hrow.at_.val
         have hcc := hx1.cell
         have hcf := hx1.frozen
         have hmc := hLB.m.cell
         obtain ⟨k0, k1, k2, k3⟩ := hLB.s.four
         have HLT : Hid (W4.heap.size ≤ W8.heap.size ∧ w.heap.size + 4 ≤ W4.heap.size ∧ W8.heap.size < W.heap.size) := Lib.hid ⟨by omega, by omega, bf_lt hD⟩
         have HHD := Lib.hid hD
         have hFl := HFL.out
         clear hI hIx HI0 hD hs8
         by_cases hlq : (freeL U a).length < q
         · have HE : Hid (allocE l U a q = 11) := Lib.hid (by rw [HUU.out, if_pos (by omega)])
           have HU2 : Hid (allocU l U a q = U) := Lib.hid (by unfold allocU; rw [HE.out]; rfl)
           have HLL : Hid (allocL l U a q = []) := Lib.hid (by unfold allocL; rw [HE.out]; rfl)
           have hd : decide (((freeL U a).length : Int) < (q : Int)) = true := decide_eq_true (by omega)
           have hd2 : decide ((freeL U a).length < q) = true := decide_eq_true hlq
           have HCP2 := Lib.hid (copyOf_any (l := l) (hv.below hLbel (Nat.le_refl _)) hU)
           unfold stA at HCP2
           gi_wp2_with fail
           refine ⟨trivial, fun _ => by omega, (callsIn_wide.2 HCP2.out).mono ?_⟩
           rintro e W5 ⟨v', rfl, ho, hb5⟩
           obtain ⟨s', d', rfl⟩ := ho.at_.val
           have hsz := W.heap.size
           have hB5 := hLB.below hb5 (by have := hx1.lt; omega)
           have hr5 := Row.below hx1 hb5 hx1.lt
           have hBl5 : Below w.heap.size w W5 := hLbel.trans (hb5.mono hLbel.size)
           have hq : w.heap.size + 4 ≤ W.heap.size := by have := hx1.lt; omega
           obtain ⟨t0, t1, t2, t3⟩ := hB5.t.four
           have tf := hB5.t.froz
           have r0 : W5.cell? ⟨w.heap.size + 3, 0, none⟩ = _ := Boxed.cell hr5
           have rf := Row.froz hr5 0
           have HBK := Lib.hid (alloc_back hB5 hr5 ho hq hBl5)
           clear k0 k1 k2 k3 hmc
           unfold stA
           gi_wp2_with fail
           have HD6 : Hid ((backW l (.slice s' U.length d') w W5).heap[W8.heap.size]? = some (.deferred (some []))) := Lib.hid ((backW_other _ _ _ _ _ (by have := HLT.out; omega) (by have := HLT.out; omega)).trans ((hb5.block _ HLT.out.2.2).trans HHD.out))
           exact leaveM1 (B := W8.heap.size) HD6.out (bodyRet_alloc (i := w.heap.size + 3) (g := w.heap.size + 2) rfl rfl rfl rfl (Row.putObj HBK.out.t (by have := HLT.out; omega)) rfl (Row.putObj HBK.out.r (by have := HLT.out; omega))) ⟨_, _, by rw [HE.out]; rfl, by rw [HU2.out]; exact ownsRow_putObj HBK.out.o _ HD6.out rfl, by rw [HLL.out]; exact World.ownsRow_nil _ _ _ _, below_putObj HBK.out.b (Nat.le_refl _) (by have := HLT.out; omega)⟩
         · have hlq2 : (freeL U a).length = q := by omega
           have HE : Hid (allocE l U a q = 0) := Lib.hid (by rw [HUU.out, if_neg (by omega)])
           have HP : Hid ((freeL U a).take q = freeL U a) := Lib.hid (List.take_of_length_le (by omega))
           have HB : Hid (∀ b ∈ freeL U a, b < U.length) := Lib.hid (fun b hb => (freeP_mem hb (by omega)).1)
           have hd : decide (((freeL U a).length : Int) < (q : Int)) = false := decide_eq_false (by omega)
           have hd2 : decide ((freeL U a).length < q) = false := decide_eq_false hlq
           have HU2 : Hid (allocU l U a q = withL U (freeL U a) true) := Lib.hid (by unfold allocU; rw [if_pos HE.out, Int.toNat_natCast, Int.toNat_natCast, HP.out])
           have HLL : Hid (allocL l U a q = freeL U a) := Lib.hid (by unfold allocL; rw [if_pos HE.out, Int.toNat_natCast, Int.toNat_natCast, HP.out])
           have HPL : Hid ((freeL U a).length ≤ 100000) := Lib.hid (Nat.le_trans (freeP_len U a U.length) (by omega))
           have HLQ := Lib.hid hlq2
           clear hlq hlq2 hLle hFl
           generalize freeL U a = p at *
           have hpl := HPL.out
           have HW := Lib.hid (fun (X : World) (h : X.heap = W.heap) => with_any (w := X) (l := l) (v := .slice s U.length d) (vl := .slice sx p.length cx) (U := U) (L := p) (u := true) ((hv.below hLbel (Nat.le_refl _)).heap h) (hrow.at_.heap h) hU hpl HB.out)
           unfold stA at HW
           gi_wp2_with fail
           refine wpIn_mono (Q := PostN fun a' W' => a'.defers = [{ target := .collected W8.heap.size, args := #[] }] ∧ a'.tmps.getD 6 undef = .pointer (some ⟨w.heap.size + 2, 0, none⟩) ∧ a'.tmps.getD 7 undef = .pointer (some ⟨w.heap.size + 3, 0, none⟩) ∧ a'.tmps.getD 8 undef = .int .i64 0 ∧ ∃ v', AllEnd l (withL U p true) p w (.slice sx p.length cx) W8.heap.size v' W') ?h1 ?h2
           case h1 =>
             have HLB := Lib.hid hLB
             have HX1 := Lib.hid hx1
             have HRW := Lib.hid hrow
             have HLBL := Lib.hid hLbel
             clear hLB hx1 hrow hLbel
             gi_region_with ((refine ⟨trivial, fun _ => by omega, (callsIn_wide.2 (HW.out _ ?hh)).mono ?_⟩); (case hh => rfl); rintro e w9 ⟨v', rfl, ho9, hb9⟩; obtain ⟨s', d', rfl⟩ := ho9.at_.val; rw [withL_len] at ho9 ⊢; have hb9' : Below W.heap.size W w9 := ⟨hb9.os, hb9.tape, hb9.output, hb9.size, hb9.block⟩; have HO9 := Lib.hid ho9; have HB9 := Lib.hid hb9'; have HT9 := Lib.hid (HLB.out.t.below hb9' HLB.out.t.lt); have HR9 : Hid (Boxed w9 (w.heap.size + 3) 40 (.slice sx p.length cx)) := Lib.hid (Row.below HX1.out hb9' HX1.out.lt); obtain ⟨y0, y1, y2, y3⟩ := HT9.out.four; have yf := HT9.out.froz; have z0 := HR9.out.cell; have zf := HR9.out.frozen; clear ho9 hb9 hb9'; unfold stA)
             all_goals
               simp only [PostN]
               refine ⟨rfl, rfl, rfl, rfl, ?_⟩
               exact ⟨_, all_end HT9.out HR9.out HO9.out (show w.heap.size + 4 ≤ W.heap.size by have := HLT.out; omega) (OwnN.below HRW.out HB9.out (Nat.le_refl _)) (by have := HLT.out; omega) (HLBL.out.trans (HB9.out.mono HLBL.out.size)) ((HB9.out.block _ HLT.out.2.2).trans HHD.out) (by have := HLT.out; omega)⟩
           case h2 =>
             intro e a' W' hpost
             cases e with
             | normal => ?_
             | _ => exact hpost.elim
             obtain ⟨h1, h2, h3, h4, v', hend⟩ := hpost
             obtain ⟨tm, df⟩ := a'
             simp only at h1 h2 h3 h4
             subst h1
             have HEND := Lib.hid hend
             clear hend
             gi_wp2_with fail
             exact leaveM1 (B := W8.heap.size) HEND.out.d (bodyRet_alloc (i := w.heap.size + 3) (g := w.heap.size + 2) rfl h2 h3 h4 (Row.putObj HEND.out.t (by have := HLT.out; omega)) rfl (Row.putObj HEND.out.r (by have := HLT.out; omega))) ⟨_, _, by rw [HE.out], by rw [HU2.out]; exact ownsRow_putObj HEND.out.o _ HEND.out.d rfl, by rw [HLL.out]; exact ownsRow_putObj HEND.out.n _ HEND.out.d rfl, below_putObj HEND.out.b (Nat.le_refl _) (by have := HLT.out; omega)⟩
       case stop =>
         rintro c pre W hpre ⟨rfl, p, x, rfl, hpl, hL⟩ hD
         obtain ⟨hLB, ⟨vx, hx1, hrow⟩, hLbel, hLle⟩ := hL
         obtain ⟨sx, cx, rfl⟩ := hrow.at_.val
         have hcc := hx1.cell
         have hcf := hx1.frozen
         have hmc := hLB.m.cell
         obtain ⟨k0, k1, k2, k3⟩ := hLB.s.four
         have HLT : Hid (W4.heap.size ≤ W8.heap.size ∧ w.heap.size + 4 ≤ W4.heap.size ∧ W8.heap.size < W.heap.size) := Lib.hid ⟨by omega, by omega, bf_lt hD⟩
         have HHD := Lib.hid hD
         obtain ⟨ht1, ht2⟩ := take_of_pre hpre
         have HE : Hid (allocE l U a q = 0) := Lib.hid (by rw [HUU.out, if_neg (by have := HFL.out; omega)])
         have HP : Hid ((freeL U a).take q = p) := Lib.hid (by rw [← hpl]; exact ht1)
         have HB : Hid (∀ b ∈ p, b < U.length) := Lib.hid (fun b hb => (freeP_mem (hpre.subset (List.mem_append_left _ hb)) (by omega)).1)
         have hd : decide ((p.length : Int) < (q : Int)) = false := decide_eq_false (by omega)
         have hd2 : decide (p.length < q) = false := decide_eq_false (by omega)
         have HU2 : Hid (allocU l U a q = withL U (p) true) := Lib.hid (by unfold allocU; rw [if_pos HE.out, Int.toNat_natCast, Int.toNat_natCast, HP.out])
         have HLL : Hid (allocL l U a q = p) := Lib.hid (by unfold allocL; rw [if_pos HE.out, Int.toNat_natCast, Int.toNat_natCast, HP.out])
         have HPL : Hid (p.length ≤ 100000) := Lib.hid (by have := freeP_len U a U.length; unfold freeL at ht2; omega)
         have HLQ := Lib.hid hpl
         clear hI hIx HI0 hD hs8 ht1 ht2 hpl hpre hLle
         have hpl := HPL.out
         have HW := Lib.hid (fun (X : World) (h : X.heap = W.heap) => with_any (w := X) (l := l) (v := .slice s U.length d) (vl := .slice sx p.length cx) (U := U) (L := p) (u := true) ((hv.below hLbel (Nat.le_refl _)).heap h) (hrow.at_.heap h) hU hpl HB.out)
         unfold stA at HW
         gi_wp2_with fail
         refine wpIn_mono (Q := PostN fun a' W' => a'.defers = [{ target := .collected W8.heap.size, args := #[] }] ∧ a'.tmps.getD 6 undef = .pointer (some ⟨w.heap.size + 2, 0, none⟩) ∧ a'.tmps.getD 7 undef = .pointer (some ⟨w.heap.size + 3, 0, none⟩) ∧ a'.tmps.getD 8 undef = .int .i64 0 ∧ ∃ v', AllEnd l (withL U p true) p w (.slice sx p.length cx) W8.heap.size v' W') ?h1 ?h2
         case h1 =>
           have HLB := Lib.hid hLB
           have HX1 := Lib.hid hx1
           have HRW := Lib.hid hrow
           have HLBL := Lib.hid hLbel
           clear hLB hx1 hrow hLbel
           gi_region_with ((refine ⟨trivial, fun _ => by omega, (callsIn_wide.2 (HW.out _ ?hh)).mono ?_⟩); (case hh => rfl); rintro e w9 ⟨v', rfl, ho9, hb9⟩; obtain ⟨s', d', rfl⟩ := ho9.at_.val; rw [withL_len] at ho9 ⊢; have hb9' : Below W.heap.size W w9 := ⟨hb9.os, hb9.tape, hb9.output, hb9.size, hb9.block⟩; have HO9 := Lib.hid ho9; have HB9 := Lib.hid hb9'; have HT9 := Lib.hid (HLB.out.t.below hb9' HLB.out.t.lt); have HR9 : Hid (Boxed w9 (w.heap.size + 3) 40 (.slice sx p.length cx)) := Lib.hid (Row.below HX1.out hb9' HX1.out.lt); obtain ⟨y0, y1, y2, y3⟩ := HT9.out.four; have yf := HT9.out.froz; have z0 := HR9.out.cell; have zf := HR9.out.frozen; clear ho9 hb9 hb9'; unfold stA)
           all_goals
             simp only [PostN]
             refine ⟨rfl, rfl, rfl, rfl, ?_⟩
             exact ⟨_, all_end HT9.out HR9.out HO9.out (show w.heap.size + 4 ≤ W.heap.size by have := HLT.out; omega) (OwnN.below HRW.out HB9.out (Nat.le_refl _)) (by have := HLT.out; omega) (HLBL.out.trans (HB9.out.mono HLBL.out.size)) ((HB9.out.block _ HLT.out.2.2).trans HHD.out) (by have := HLT.out; omega)⟩
         case h2 =>
           intro e a' W' hpost
           cases e with
           | normal => ?_
           | _ => exact hpost.elim
           obtain ⟨h1, h2, h3, h4, v', hend⟩ := hpost
           obtain ⟨tm, df⟩ := a'
           simp only at h1 h2 h3 h4
           subst h1
           have HEND := Lib.hid hend
           clear hend
           gi_wp2_with fail
           exact leaveM1 (B := W8.heap.size) HEND.out.d (bodyRet_alloc (i := w.heap.size + 3) (g := w.heap.size + 2) rfl h2 h3 h4 (Row.putObj HEND.out.t (by have := HLT.out; omega)) rfl (Row.putObj HEND.out.r (by have := HLT.out; omega))) ⟨_, _, by rw [HE.out], by rw [HU2.out]; exact ownsRow_putObj HEND.out.o _ HEND.out.d rfl, by rw [HLL.out]; exact ownsRow_putObj HEND.out.n _ HEND.out.d rfl, below_putObj HEND.out.b (Nat.le_refl _) (by have := HLT.out; omega)⟩
  · have hd := decB hE
    have HE : Hid (allocE l U near many = E) := Lib.hid (by unfold allocE; rw [if_neg (by rw [hEE]; exact hE), hEE])
    have HUU : Hid (allocU l U near many = U) := Lib.hid (by unfold allocU; rw [if_neg (by rw [HE.out]; exact hE)])
    have HLL : Hid (allocL l U near many = []) := Lib.hid (by unfold allocL; rw [if_neg (by rw [HE.out]; exact hE)])
    clear hEE
    gi_wp2_with fail
    refine ⟨trivial, fun _ => by omega, (callsIn_wide.2 HCP.out).mono ?_⟩
    rintro e W5 ⟨v', rfl, ho, hb5⟩
    obtain ⟨s', d', rfl⟩ := ho.at_.val
    have hsz := W4.heap.size
    have hB5 := hB4.below hb5 (by have := hr4.lt; omega)
    have hr5 := Row.below hr4 hb5 hr4.lt
    have hBl5 : Below w.heap.size w W5 := hBl4.trans (hb5.mono hBl4.size)
    have hq : w.heap.size + 4 ≤ W4.heap.size := by have := hr4.lt; omega
    obtain ⟨t0, t1, t2, t3⟩ := hB5.t.four
    have tf := hB5.t.froz
    have r0 : W5.cell? ⟨w.heap.size + 3, 0, none⟩ = _ := Boxed.cell hr5
    have rf := Row.froz hr5 0
    have HBK := Lib.hid (alloc_back hB5 hr5 ho hq hBl5)
    clear k0 k1 k2 k3 hmc
    unfold stA
    gi_wp2_with fail
    exact leaveM0 (bodyRet_alloc (i := w.heap.size + 3) (g := w.heap.size + 2) rfl rfl rfl rfl HBK.out.t rfl HBK.out.r) ⟨_, _, by rw [HE.out]; rfl, by rw [HUU.out]; exact HBK.out.o, by rw [HLL.out]; exact World.ownsRow_nil _ _ _ _, HBK.out.b⟩
end Go.Proofs.Ytkknelcolbdphaa
