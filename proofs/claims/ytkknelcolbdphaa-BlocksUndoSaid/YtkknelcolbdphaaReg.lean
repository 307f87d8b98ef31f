/- Regions, on both sides. -/
import Derived.Test.YtkknelcolbdphaaBase
namespace Go.Proofs.Ytkknelcolbdphaa
open Go.RowKit
set_option maxRecDepth 100000

theorem isLayout_any (l : Lay) (w : World) :
    Calls Try.prog 37 #[.agg (layA l)] w fun e w' => e = .returned (.bool (isLay l)) ∧ Below w.heap.size w w' := by
  unfold layA
  have hB : Below w.heap.size w (w.alloc (.cells #[.int .i64 l.s, .int .i64 l.j, .int .i64 l.n] 23 (0, 0))) := (Below.refl _ _).alloc (Nat.le_refl _) _
  have HB := Lib.hid hB
  have HC := Lib.hid isFrom_any
  have HE : Hid (isLay l = (inB l.s 64 256 && (inB l.j 8 96 && inB l.n 1 60))) := Lib.hid rfl
  obtain ⟨s, j, n⟩ := l
  simp only at *
  clear hB
  generalize isLay _ = r at *
  cases h1 : inB s 64 256 <;> cases h2 : inB j 8 96 <;> cases h3 : inB n 1 60
  all_goals
    rw [h1, h2, h3] at HE
    go_enter Try.func37, Try.ntmps37
    go_wp2_with (go_at_call 39; refine (HC.out _ _ _ _).mono ?_; rintro e w' ⟨rfl, rfl⟩; first | rw [h1] | rw [h2] | rw [h3])
    go_ret
    exact ⟨ret_bool HE.out.symm, HB.out⟩

theorem ret_reg {a b : Array Value} {x y : Int} (h : a = b) (k : x = y) : Ending.returned (.tuple #[.agg a, .int .i64 x]) = .returned (.tuple #[.agg b, .int .i64 y]) := by rw [h, k]
theorem regA_no {l : Lay} (h : regE l ≠ 0) : regA l = #[.int .i64 0, .int .i64 0, .int .i64 0, .int .i64 0, .int .i64 0] := if_neg h
theorem regA_ok {l : Lay} (h : regE l = 0) : regA l = #[.int .i64 1, .int .i64 (1 + l.j), .int .i64 (1 + l.j + 1), .int .i64 (1 + l.j + 1 + l.n), .int .i64 (l.s - (1 + l.j + 1 + l.n))] := by
  unfold regA blkN
  rw [if_pos h, show 1 + l.j + 1 = 2 + l.j by omega, show l.s - 2 - l.j - l.n = l.s - (2 + l.j + l.n) by omega]
/-! ### Blocks known whole -/
def Row (w : World) (b : Nat) (cs : Array Value) (T : Nat) : Prop := w.heap[b]? = some (.cells cs T (0, 0))
theorem Row.lt {w : World} {b T : Nat} {cs : Array Value} (h : Row w b cs T) : b < w.heap.size := (Array.getElem?_eq_some_iff.1 h).1
theorem Row.cell {w : World} {b T : Nat} {cs : Array Value} (h : Row w b cs T) (k : Nat) (v : Value) (hv : cs[k]? = some v) : w.cell? ⟨b, k, none⟩ = some v := by
  unfold World.cell?; rw [show w.heap[b]? = _ from h]; exact hv
theorem Row.froz {w : World} {b T : Nat} {cs : Array Value} (h : Row w b cs T) (k : Nat) : w.frozen? ⟨b, k, none⟩ = false := by
  unfold World.frozen?; rw [show w.heap[b]? = _ from h]; simp
theorem Row.below {A B : World} {n b T : Nat} {cs : Array Value} (h : Row A b cs T) (k : Below n A B) (hb : b < n) : Row B b cs T := (k.block b hb).trans h
theorem Row.kept {X : Nat → Prop} {A B : World} {b T : Nat} {cs : Array Value} (h : Row A b cs T) (k : Kept X A B) (hb : ¬ X b) : Row B b cs T := (k.block b h.lt hb).trans h
theorem Row.new (w : World) (cs : Array Value) (T : Nat) : Row (w.alloc (.cells cs T (0, 0))) w.heap.size cs T := heap_alloc_new _ _
theorem Row.alloc {w : World} {b T : Nat} {cs : Array Value} (h : Row w b cs T) (o : Obj) : Row (w.alloc o) b cs T := (Below.heap_alloc _ _ _ h.lt).trans h
theorem Row.drew {w : World} {b T : Nat} {cs : Array Value} (h : Row w b cs T) : Row w.drew b cs T := h
theorem Row.set {w : World} {b T : Nat} {cs : Array Value} (h : Row w b cs T) (k : Nat) (v : Value) : Row (w.setCell ⟨b, k, none⟩ v) b (cs.setIfInBounds k v) T := by
  unfold Row at h ⊢
  obtain ⟨hl, he⟩ := Array.getElem?_eq_some_iff.1 h
  simp only [World.setCell]
  rw [Array.getElem?_modify, if_pos rfl, h]; rfl
theorem Row.other {w : World} {b T g o : Nat} {v : Value} {cs : Array Value} (h : Row w b cs T) (hne : b ≠ g) : Row (w.setCell ⟨g, o, none⟩ v) b cs T := (Below.heap_setCell _ _ _ _ (fun e => hne e)).trans h
theorem szReg : (Try.prog.info? 25).map (·.size) = some 5 := by kernel_rfl
theorem szSt : (Try.prog.info? 33).map (·.size) = some 4 := by kernel_rfl
theorem szLay : (Try.prog.info? 23).map (·.size) = some 3 := by kernel_rfl
theorem bodyRet_reg {fn : Func} {p q : Tmp} {T' : Nat} (h : fn.results = #[.cell p 25, .tmp q]) {tmps : Array Value} {w : World} {g : Nat} {cs : Array Value} {v : Value} (hp : tmps.getD p undef = .pointer (some ⟨g, 0, none⟩)) (hq : tmps.getD q undef = v)
    (hg : Row w g cs T') (hsz : cs.size = 5) :
    (results fn tmps).run Try.prog w = .ok (.tuple #[.agg cs, v]) w := by
  have hl : (loadVar 25 ⟨g, 0, none⟩).run Try.prog w = .ok (.agg cs) w := run_loadVar_row (P := Try.prog) w g T' 25 cs (0, 0) _ hg Try.underlying25 rfl (by rw [szReg, hsz])
  subst hq
  have hp' : tmps[p]?.getD undef = .pointer (some ⟨g, 0, none⟩) := by simpa using hp
  simp [results, h, hp', asAddr, hl]
theorem bodyRet_st {fn : Func} {p q : Tmp} {T' : Nat} (h : fn.results = #[.cell p 33, .tmp q]) {tmps : Array Value} {w : World} {g : Nat} {cs : Array Value} {v : Value} (hp : tmps.getD p undef = .pointer (some ⟨g, 0, none⟩)) (hq : tmps.getD q undef = v)
    (hg : Row w g cs T') (hsz : cs.size = 4) :
    (results fn tmps).run Try.prog w = .ok (.tuple #[.agg cs, v]) w := by
  have hl : (loadVar 33 ⟨g, 0, none⟩).run Try.prog w = .ok (.agg cs) w := run_loadVar_row (P := Try.prog) w g T' 33 cs (0, 0) _ hg Try.underlying33 rfl (by rw [szSt, hsz])
  subst hq
  have hp' : tmps[p]?.getD undef = .pointer (some ⟨g, 0, none⟩) := by simpa using hp
  simp [results, h, hp', asAddr, hl]
def RegPost (l : Lay) (w : World) (e : Ending) (w' : World) : Prop := e = .returned (.tuple #[.agg (regA l), .int .i64 (regE l)]) ∧ Below w.heap.size w w'
/-- The boxes of Regions: the layout, the result. -/
theorem box_reg (l : Lay) (w : World) : ∃ w2, (w.alloc (.cells (layA l) 23 (0, 0))).alloc (.cells #[.int .i64 0, .int .i64 0, .int .i64 0, .int .i64 0, .int .i64 0] 25 (0, 0)) = w2 ∧ w2.heap.size = w.heap.size + 2 ∧
    Row w2 w.heap.size (layA l) 23 ∧ Row w2 (w.heap.size + 1) #[.int .i64 0, .int .i64 0, .int .i64 0, .int .i64 0, .int .i64 0] 25 ∧ Below w.heap.size w w2 := by
  refine ⟨_, rfl, by simp, (Row.new _ _ _).alloc _, ?_, ((Below.refl _ _).alloc (Nat.le_refl _) _).alloc (by simp) _⟩
  have := Row.new (w.alloc (.cells (layA l) 23 (0, 0))) #[.int .i64 0, .int .i64 0, .int .i64 0, .int .i64 0, .int .i64 0] 25
  rwa [World.size_alloc] at this
/-- The cells of a row of three, of five. -/
theorem Row.three {w : World} {b T : Nat} {x y z : Value} (h : Row w b #[x, y, z] T) : w.cell? ⟨b, 0, none⟩ = some x ∧ w.cell? ⟨b, 1, none⟩ = some y ∧ w.cell? ⟨b, 2, none⟩ = some z :=
  ⟨h.cell 0 _ rfl, h.cell 1 _ rfl, h.cell 2 _ rfl⟩
theorem Row.five {w : World} {b T : Nat} {x y z u v : Value} (h : Row w b #[x, y, z, u, v] T) : w.cell? ⟨b, 0, none⟩ = some x ∧ w.cell? ⟨b, 1, none⟩ = some y ∧ w.cell? ⟨b, 2, none⟩ = some z ∧ w.cell? ⟨b, 3, none⟩ = some u ∧ w.cell? ⟨b, 4, none⟩ = some v :=
  ⟨h.cell 0 _ rfl, h.cell 1 _ rfl, h.cell 2 _ rfl, h.cell 3 _ rfl, h.cell 4 _ rfl⟩
theorem Row.four {w : World} {b T : Nat} {x y z u : Value} (h : Row w b #[x, y, z, u] T) : w.cell? ⟨b, 0, none⟩ = some x ∧ w.cell? ⟨b, 1, none⟩ = some y ∧ w.cell? ⟨b, 2, none⟩ = some z ∧ w.cell? ⟨b, 3, none⟩ = some u :=
  ⟨h.cell 0 _ rfl, h.cell 1 _ rfl, h.cell 2 _ rfl, h.cell 3 _ rfl⟩
theorem below_sets {n : Nat} {A B : World} (h : Below n A B) (b : Nat) (hb : n ≤ b) (k : Nat) (v : Value) : Below n A (B.setCell ⟨b, k, none⟩ v) := h.setCell (p := ⟨b, k, none⟩) hb v
/-- Five cells of a block set. -/
theorem Row.sets5 {w : World} {b T : Nat} {x y z u v : Value} (h : Row w b #[x, y, z, u, v] T) (x' y' z' u' v' : Value) :
    Row (((((w.setCell ⟨b, 0, none⟩ x').setCell ⟨b, 1, none⟩ y').setCell ⟨b, 2, none⟩ z').setCell ⟨b, 3, none⟩ u').setCell ⟨b, 4, none⟩ v') b #[x', y', z', u', v'] T := ((((h.set 0 x').set 1 y').set 2 z').set 3 u').set 4 v'
theorem below_sets5 {n : Nat} {A B : World} (h : Below n A B) (b : Nat) (hb : n ≤ b) (x' y' z' u' v' : Value) :
    Below n A (((((B.setCell ⟨b, 0, none⟩ x').setCell ⟨b, 1, none⟩ y').setCell ⟨b, 2, none⟩ z').setCell ⟨b, 3, none⟩ u').setCell ⟨b, 4, none⟩ v') :=
  below_sets (below_sets (below_sets (below_sets (below_sets h b hb 0 x') b hb 1 y') b hb 2 z') b hb 3 u') b hb 4 v'
/-- What the boxes look like behind one more block. -/
theorem reg_more {w w' : World} {b : Nat} {l : Lay} {x y z u v : Value} (h1 : Row w b (layA l) 23) (h2 : Row w (b + 1) #[x, y, z, u, v] 25) (hb : Below w.heap.size w w') :
    (∀ o, (w'.alloc o).cell? ⟨b, 0, none⟩ = some (.int .i64 l.s)) ∧ (∀ o, (w'.alloc o).cell? ⟨b, 1, none⟩ = some (.int .i64 l.j)) ∧ (∀ o, (w'.alloc o).cell? ⟨b, 2, none⟩ = some (.int .i64 l.n)) ∧
    (∀ o, (w'.alloc o).cell? ⟨b + 1, 0, none⟩ = some x) ∧ (∀ o, (w'.alloc o).cell? ⟨b + 1, 1, none⟩ = some y) ∧ (∀ o, (w'.alloc o).cell? ⟨b + 1, 2, none⟩ = some z) ∧ (∀ o, (w'.alloc o).cell? ⟨b + 1, 3, none⟩ = some u) ∧ (∀ o, (w'.alloc o).cell? ⟨b + 1, 4, none⟩ = some v) ∧
    (∀ o k, (w'.alloc o).frozen? ⟨b + 1, k, none⟩ = false) :=
  ⟨fun o => ((h1.below hb h1.lt).alloc o).three.1, fun o => ((h1.below hb h1.lt).alloc o).three.2.1, fun o => ((h1.below hb h1.lt).alloc o).three.2.2,
    fun o => ((h2.below hb h2.lt).alloc o).five.1, fun o => ((h2.below hb h2.lt).alloc o).five.2.1, fun o => ((h2.below hb h2.lt).alloc o).five.2.2.1, fun o => ((h2.below hb h2.lt).alloc o).five.2.2.2.1, fun o => ((h2.below hb h2.lt).alloc o).five.2.2.2.2,
    fun o => ((h2.below hb h2.lt).alloc o).froz⟩
set_option maxHeartbeats 1000000 in
theorem regions_any (l : Lay) (w : World) : Calls Try.prog 11 #[.agg (layA l)] w (RegPost l w) := by
  have HC := Lib.hid (fun w => isLayout_any l w)
  obtain ⟨w2, hw2, hs2, hr1, hr2, hb2⟩ := box_reg l w
  have HB2 := Lib.hid hb2
  have HR1 := Lib.hid hr1
  have HR2 := Lib.hid hr2
  have hc1 := hr1.three
  clear hb2 hr1 hr2
  cases hl : isLay l with
  | false =>
    rw [hl] at HC
    have HE : Hid (regE l = 7) := Lib.hid (by unfold regE; simp [hl])
    have HR : Hid (regA l = #[.int .i64 0, .int .i64 0, .int .i64 0, .int .i64 0, .int .i64 0]) := Lib.hid (regA_no (by rw [HE.out]; decide))
    unfold layA at *
    obtain ⟨hx0, hx1, hx2⟩ := hc1
    clear hl
    go_enter Try.func11, Try.ntmps11
    go_wp2_with (rw [hw2])
    refine (HC.out _).mono ?_
    rintro e w' ⟨rfl, hb⟩
    have HRW := Lib.hid (HR2.out.below hb (by omega))
    obtain ⟨hy0, hy1, hy2, hy3, hy4⟩ := HRW.out.five
    have hyf := HRW.out.froz
    have HBW := Lib.hid (HB2.out.trans (hb.mono HB2.out.size))
    clear hb hx0 hx1 hx2 hw2
    go_wp2_with fail
    exact bodyPost_ret (bodyRet_reg rfl rfl rfl (HRW.out.sets5 _ _ _ _ _) rfl) rfl ⟨by exact ret_reg HR.out.symm HE.out.symm, below_sets5 HBW.out _ (by omega) _ _ _ _ _⟩
  | true =>
    rw [hl] at HC
    have hok := isLay_ok hl
    have hk := hok.s0
    have hk1 := hok.s1
    have hk2 := hok.j0
    have hk3 := hok.j1
    have hk4 := hok.n0
    have hk5 := hok.n1
    by_cases h8 : blkN l < 8
    · have HE : Hid (regE l = 5) := Lib.hid (by unfold regE; simp [hl, h8])
      have HR : Hid (regA l = #[.int .i64 0, .int .i64 0, .int .i64 0, .int .i64 0, .int .i64 0]) := Lib.hid (regA_no (by rw [HE.out]; decide))
      unfold blkN at h8
      unfold layA at *
      obtain ⟨s, j, n⟩ := l
      simp only at h8 hk hk1 hk2 hk3 hk4 hk5
      have d8 : decide (s - (1 + j + 1 + n) < 8) = true := decide_eq_true (by omega)
      clear hl hok h8
      obtain ⟨hx0, hx1, hx2⟩ := hc1
      go_enter Try.func11, Try.ntmps11
      go_wp2_with (rw [hw2])
      refine (HC.out _).mono ?_
      rintro e w' ⟨rfl, hb⟩
      have HRW := Lib.hid (HR2.out.below hb (by omega))
      have HBW := Lib.hid (HB2.out.trans (hb.mono HB2.out.size))
      obtain ⟨hz0, hz1, hz2, hy0, hy1, hy2, hy3, hy4, hyf⟩ := reg_more (l := ⟨s, j, n⟩) HR1.out HR2.out hb
      clear hb hw2 hx0 hx1 hx2
      go_wp2_with fail
      exact bodyPost_ret (bodyRet_reg rfl rfl rfl ((HRW.out.alloc _).sets5 _ _ _ _ _) rfl) rfl ⟨by exact ret_reg HR.out.symm HE.out.symm, below_sets5 (HBW.out.alloc HBW.out.size _) _ (by omega) _ _ _ _ _⟩
    · have HE : Hid (regE l = 0) := Lib.hid (by unfold regE; simp [hl]; omega)
      have HR := Lib.hid (regA_ok HE.out)
      unfold blkN at h8
      unfold layA at *
      obtain ⟨s, j, n⟩ := l
      simp only at h8 hk hk1 hk2 hk3 hk4 hk5
      have d8 : decide (s - (1 + j + 1 + n) < 8) = false := decide_eq_false (by omega)
      clear hl hok h8
      obtain ⟨hx0, hx1, hx2⟩ := hc1
      go_enter Try.func11, Try.ntmps11
      go_wp2_with (rw [hw2])
      refine (HC.out _).mono ?_
      rintro e w' ⟨rfl, hb⟩
      have HRW := Lib.hid (HR2.out.below hb (by omega))
      have HBW := Lib.hid (HB2.out.trans (hb.mono HB2.out.size))
      obtain ⟨hz0, hz1, hz2, hy0, hy1, hy2, hy3, hy4, hyf⟩ := reg_more (l := ⟨s, j, n⟩) HR1.out HR2.out hb
      clear hb hw2 hx0 hx1 hx2
      go_wp2_with fail
      exact bodyPost_ret (bodyRet_reg rfl rfl rfl ((HRW.out.alloc _).sets5 _ _ _ _ _) rfl) rfl ⟨by exact ret_reg HR.out.symm HE.out.symm, below_sets5 (HBW.out.alloc HBW.out.size _) _ (by omega) _ _ _ _ _⟩
set_option maxHeartbeats 2000000 in
theorem refRegions_any (l : Lay) (w : World) : Calls Try.prog 12 #[.agg (layA l)] w (RegPost l w) := by
  have HI := Lib.hid within_any
  obtain ⟨w2, hw2, hs2, hr1, hr2, hb2⟩ := box_reg l w
  have HB2 := Lib.hid hb2
  have HR1 := Lib.hid hr1
  have HR2 := Lib.hid hr2
  have hc1 := hr1.three
  clear hb2 hr1 hr2
  cases hl : isLay l with
  | false =>
    have HE : Hid (regE l = 7) := Lib.hid (by unfold regE; simp [hl])
    have HR : Hid (regA l = #[.int .i64 0, .int .i64 0, .int .i64 0, .int .i64 0, .int .i64 0]) := Lib.hid (regA_no (by rw [HE.out]; decide))
    unfold layA at *
    obtain ⟨hx0, hx1, hx2⟩ := hc1
    have hl2 : (inB l.s 64 256 && (inB l.j 8 96 && inB l.n 1 60)) = false := hl
    obtain ⟨s, j, n⟩ := l
    simp only at *
    have HRW := HR2
    obtain ⟨hy0, hy1, hy2, hy3, hy4⟩ := HRW.out.five
    have hyf := HRW.out.froz
    have HBW := HB2
    clear hl
    cases q1 : inB s 64 256 <;> cases q2 : inB j 8 96 <;> cases q3 : inB n 1 60
    all_goals
      rw [q1, q2, q3] at hl2
      first
      | cases hl2; done
      | clear hl2
        go_enter Try.func12, Try.ntmps12
        go_wp2_with (first | rw [hw2] | (refine (HI.out _ _ _ _).mono ?_; rintro e w' ⟨rfl, rfl⟩; first | rw [q1] | rw [q2] | rw [q3]))
        exact bodyPost_ret (bodyRet_reg rfl rfl rfl (HRW.out.sets5 _ _ _ _ _) rfl) rfl ⟨by exact ret_reg HR.out.symm HE.out.symm, below_sets5 HBW.out _ (by omega) _ _ _ _ _⟩
  | true =>
    have hok := isLay_ok hl
    have hk := hok.s0
    have hk1 := hok.s1
    have hk2 := hok.j0
    have hk3 := hok.j1
    have hk4 := hok.n0
    have hk5 := hok.n1
    by_cases h8 : blkN l < 8
    · have HE : Hid (regE l = 5) := Lib.hid (by unfold regE; simp [hl, h8])
      have HR : Hid (regA l = #[.int .i64 0, .int .i64 0, .int .i64 0, .int .i64 0, .int .i64 0]) := Lib.hid (regA_no (by rw [HE.out]; decide))
      unfold blkN at h8
      unfold layA at *
      obtain ⟨s, j, n⟩ := l
      simp only at h8 hk hk1 hk2 hk3 hk4 hk5
      have d8 : decide (s - (1 + j + 1 + n) < 8) = true := decide_eq_true (by omega)
      have q1 : inB s 64 256 = true := by unfold inB; simp; omega
      have q2 : inB j 8 96 = true := by unfold inB; simp; omega
      have q3 : inB n 1 60 = true := by unfold inB; simp; omega
      clear hl hok h8
      obtain ⟨hx0, hx1, hx2⟩ := hc1
      have HRW := HR2
      have HBW := HB2
      obtain ⟨hz0, hz1, hz2, hy0, hy1, hy2, hy3, hy4, hyf⟩ := reg_more (l := ⟨s, j, n⟩) HR1.out HR2.out (Below.refl _ w2)
      clear hs2
      go_enter Try.func12, Try.ntmps12
      go_wp2_with (first | rw [hw2] | (refine (HI.out _ _ _ _).mono ?_; rintro e w' ⟨rfl, rfl⟩; first | rw [q1] | rw [q2] | rw [q3]))
      exact bodyPost_ret (bodyRet_reg rfl rfl rfl ((HRW.out.alloc _).sets5 _ _ _ _ _) rfl) rfl ⟨by exact ret_reg HR.out.symm HE.out.symm, below_sets5 (HBW.out.alloc HBW.out.size _) _ (by omega) _ _ _ _ _⟩
    · have HE : Hid (regE l = 0) := Lib.hid (by unfold regE; simp [hl]; omega)
      have HR := Lib.hid (regA_ok HE.out)
      unfold blkN at h8
      unfold layA at *
      obtain ⟨s, j, n⟩ := l
      simp only at h8 hk hk1 hk2 hk3 hk4 hk5
      have d8 : decide (s - (1 + j + 1 + n) < 8) = false := decide_eq_false (by omega)
      have q1 : inB s 64 256 = true := by unfold inB; simp; omega
      have q2 : inB j 8 96 = true := by unfold inB; simp; omega
      have q3 : inB n 1 60 = true := by unfold inB; simp; omega
      clear hl hok h8
      obtain ⟨hx0, hx1, hx2⟩ := hc1
      have HRW := HR2
      have HBW := HB2
      obtain ⟨hz0, hz1, hz2, hy0, hy1, hy2, hy3, hy4, hyf⟩ := reg_more (l := ⟨s, j, n⟩) HR1.out HR2.out (Below.refl _ w2)
      clear hs2
      go_enter Try.func12, Try.ntmps12
      go_wp2_with (first | rw [hw2] | (refine (HI.out _ _ _ _).mono ?_; rintro e w' ⟨rfl, rfl⟩; first | rw [q1] | rw [q2] | rw [q3]))
      exact bodyPost_ret (bodyRet_reg rfl rfl rfl ((HRW.out.alloc _).sets5 _ _ _ _ _) rfl) rfl ⟨by exact ret_reg HR.out.symm HE.out.symm, below_sets5 (HBW.out.alloc HBW.out.size _) _ (by omega) _ _ _ _ _⟩
end Go.Proofs.Ytkknelcolbdphaa
