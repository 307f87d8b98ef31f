/- Save; the errors of a crash and of a write change nothing. -/
import Derived.Test.YtpboknepfjeljaaDiff
namespace Go.Proofs.Ytpboknepfjeljaa
open Go.RowKit Go.MapKept
attribute [local go_sem ↓] loadS_eq storeS_eq neqS_eq eqlS_eq
attribute [local go_sem ↓] Go.wp_at_zero Go.wp_at_succ
set_option maxRecDepth 100000

theorem diff_apart {w : World} {b c : Nat} {X Y : Nat → Prop} {D E : Dv} (hD : DevAt w b X D) (hE : DevAt w c Y E) (hl : D.st.length ≠ E.st.length) :
    Calls Try.prog 28 #[.pointer (some ⟨b, 0, none⟩), .pointer (some ⟨c, 0, none⟩)] w fun e w' => e = .returned (.tuple #[.slice none 0 0, .int .i64 6]) ∧ Below w.heap.size w w' := by
  have HC1 := Lib.hid (isMade_any hD)
  have HC2 := Lib.hid (isMade_any hE)
  obtain ⟨m, vs, vc, hp, -⟩ := hD.parts
  obtain ⟨m', vs', vc', hp', -⟩ := hE.parts
  have h1 := hp.cells.2.1
  have h1' := hp'.cells.2.1
  obtain ⟨g, cc, _, rfl, _⟩ := hp.stv
  obtain ⟨g', cc', _, rfl, _⟩ := hp'.stv
  have d1 : ((D.st.length : Int) == (E.st.length : Int)) = false := by rw [beq_eq_false_iff_ne]; omega
  have d2 : ((D.st.length : Int) != (E.st.length : Int)) = true := by simp; omega
  clear hp hp' hD hE hl
  go_enter Try.func28, Try.ntmps28
  go_wp2_with fail
  refine HC1.out.mono ?_
  rintro e w' ⟨rfl, rfl⟩
  go_wp2_with fail
  refine HC2.out.mono ?_
  rintro e w' ⟨rfl, rfl⟩
  go_wp2_with fail
  go_quiet (fail)
  go_wp2
  go_ret2
  exact ⟨rfl, ⟨rfl, rfl, rfl, Nat.le_refl _, fun _ _ => rfl⟩⟩

def sCells (b : Nat) (vs vc : Value) (D : Dv) (W : World) : Prop := W.cell? ⟨b, 1, none⟩ = some vs ∧ W.cell? ⟨b, 2, none⟩ = some vc ∧ W.cell? ⟨b, 4, none⟩ = some (.int .i64 D.tk) ∧ W.cell? ⟨b, 5, none⟩ = some (.int .i64 D.pw) ∧ W.cell? ⟨b, 6, none⟩ = some (.bool D.off)
theorem DevP.save {w : World} {b m : Nat} {vs vc : Value} {D : Dv} (h : DevP w b m vs vc D) : sCells b vs vc D w := by
  obtain ⟨-, h1, h2, -, h4, h5, h6⟩ := h.cells
  exact ⟨h1, h2, h4, h5, h6⟩
noncomputable def storeT (x v : Value) : Sem Unit := Instr.storeAt 32 x v
theorem storeT_eq (x v : Value) : Instr.storeAt 32 x v = storeT x v := rfl
theorem szT : (Try.prog.info? 32).map (·.size) = some 5 := by kernel_rfl
theorem run_storeT {w : World} {g : Nat} {z0 z1 z2 z3 z4 : Value} (h : w.heap[g]? = some (.cells #[z0, z1, z2, z3, z4] 32 (0, 0))) (a a' : Option Addr) (n c n' c' : Nat) (tk pw : Int) (off : Bool) :
    (storeT (.pointer (some ⟨g, 0, none⟩)) (.agg #[.slice a n c, .slice a' n' c', .int .i64 tk, .int .i64 pw, .bool off])).run Try.prog w = .ok () (w.setRow g #[.slice a n c, .slice a' n' c', .int .i64 tk, .int .i64 pw, .bool off]) :=
  store_at (T := 32) szT (cs := [.slice a n c, .slice a' n' c', .int .i64 tk, .int .i64 pw, .bool off]) rfl h (by simp) (by intro v hv; simp at hv; rcases hv with rfl | rfl | rfl | rfl | rfl <;> rfl)
noncomputable def allocT : Sem Value := Instr.alloc 32 true (.tuple #[])
theorem allocT_eq : Instr.alloc 32 true (.tuple #[]) = allocT := rfl
attribute [local go_sem ↓] storeT_eq allocT_eq
theorem slice_own' {v : Value} {g o m c : Nat} (h : v = .slice (some ⟨g, o, none⟩) m c) : v.ownBlock = some g := by subst h; rfl
theorem off_row {w : World} {base : Nat} {e : TypeId} {sz n : Nat} {v : Value} {xs : List Value} (h : w.ownsRow base e sz v n xs) : ∀ r, r < base → offX (fun k => k = r) v := fun r hr g o m c e hm hx => by
  have := (h.lt g (slice_own' e)).1
  omega
theorem Kept.row {X : Nat → Prop} {A B : World} (h : Kept X A B) {n : Nat} (hn : ∀ k, X k → k < n) : ∀ k, n ≤ k → k < A.heap.size → B.heap[k]? = A.heap[k]? := fun k hk hlt => h.block k hlt (fun x => by have := hn k x; omega)

set_option maxHeartbeats 2000000 in
theorem save_any {w : World} {b : Nat} {X : Nat → Prop} {D : Dv} (h : DevAt w b X D) :
    Calls Try.prog 17 #[.pointer (some ⟨b, 0, none⟩)] w fun e w' => ∃ v1 v2, e = .returned (.agg #[v1, v2, .int .i64 D.tk, .int .i64 D.pw, .bool D.off]) ∧ StateAt w' v1 v2 D ∧ Below w.heap.size w w' := by
  have hz : ∀ w, (Instr.alloc 32 true (.tuple #[])).run Try.prog w = .ok (.pointer (some ⟨w.heap.size, 0, none⟩)) (w.alloc (.cells #[.slice none 0 0, .slice none 0 0, .int .i64 0, .int .i64 0, .bool false] 32 (0, 0))) := fun w => by kernel_rfl
  obtain ⟨w0, hw0⟩ : ∃ W, w.alloc (.cells #[.slice none 0 0, .slice none 0 0, .int .i64 0, .int .i64 0, .bool false] 32 (0, 0)) = W := ⟨_, rfl⟩
  have hB0 : Below w.heap.size w w0 := by rw [← hw0]; exact (Below.refl _ _).alloc (Nat.le_refl _) _
  have hrb : w0.heap[w.heap.size]? = some (.cells #[.slice none 0 0, .slice none 0 0, .int .i64 0, .int .i64 0, .bool false] 32 (0, 0)) := by rw [← hw0]; exact heap_alloc_new _ _
  have hsz0 : w0.heap.size = w.heap.size + 1 := by rw [← hw0]; simp
  have hzw : allocT.run Try.prog w = .ok (.pointer (some ⟨w.heap.size, 0, none⟩)) w0 := by rw [← hw0]; exact hz w
  clear hz
  have h0 := h.below hB0 (Nat.le_refl _)
  have HC := Lib.hid (isMade_any h0)
  obtain ⟨m, vs, vc, hp, hX1, hX2, hX3, hX4⟩ := h0.parts
  have hlX := h.lt
  have HOK := Lib.hid hp.ok
  have HDP := Lib.hid (fun (W : World) (hk : Kept (fun k => k = w.heap.size) w0 W) => hp.kept hk (fun e => by have := hlX _ hX1; omega) (fun e => by have := hlX _ hX2; omega) (fun g hg e => by have := hlX _ (hX3 g hg); omega) (fun g hg e => by have := hlX _ (hX4 g hg); omega))
  have HK := Lib.hid (fun (W : World) (hk : Kept (fun k => k = w.heap.size) w0 W) => (show W.cell? ⟨b, 1, none⟩ = some vs ∧ W.cell? ⟨b, 2, none⟩ = some vc ∧ W.cell? ⟨b, 4, none⟩ = some (.int .i64 D.tk) ∧ W.cell? ⟨b, 5, none⟩ = some (.int .i64 D.pw) ∧ W.cell? ⟨b, 6, none⟩ = some (.bool D.off) ∧ Hid (Kept (fun k => k = w.heap.size) w0 W) from by
    obtain ⟨-, h1, h2, -, h4, h5, h6⟩ := (HDP.out W hk).cells
    exact ⟨h1, h2, h4, h5, h6, hk⟩))
  have HS0 := Lib.hid (HK.out w0 (Kept.refl _ _))
  have HKS := Lib.hid (fun (W : World) (cs : Array Value) (h : W.cell? ⟨b, 1, none⟩ = some vs ∧ W.cell? ⟨b, 2, none⟩ = some vc ∧ W.cell? ⟨b, 4, none⟩ = some (.int .i64 D.tk) ∧ W.cell? ⟨b, 5, none⟩ = some (.int .i64 D.pw) ∧ W.cell? ⟨b, 6, none⟩ = some (.bool D.off) ∧ Hid (Kept (fun k => k = w.heap.size) w0 W)) => HK.out (W.setRow w.heap.size cs) (h.2.2.2.2.2.out.setRow w.heap.size rfl cs))
  have HSD := Lib.hid (fun (W : World) (h : W.cell? ⟨b, 1, none⟩ = some vs ∧ W.cell? ⟨b, 2, none⟩ = some vc ∧ W.cell? ⟨b, 4, none⟩ = some (.int .i64 D.tk) ∧ W.cell? ⟨b, 5, none⟩ = some (.int .i64 D.pw) ∧ W.cell? ⟨b, 6, none⟩ = some (.bool D.off) ∧ Hid (Kept (fun k => k = w.heap.size) w0 W)) => HK.out W.drew h.2.2.2.2.2.out.drew)
  have HSC := Lib.hid (fun (W W' : World) (h : W.cell? ⟨b, 1, none⟩ = some vs ∧ W.cell? ⟨b, 2, none⟩ = some vc ∧ W.cell? ⟨b, 4, none⟩ = some (.int .i64 D.tk) ∧ W.cell? ⟨b, 5, none⟩ = some (.int .i64 D.pw) ∧ W.cell? ⟨b, 6, none⟩ = some (.bool D.off) ∧ Hid (Kept (fun k => k = w.heap.size) w0 W)) (hb : Below W.heap.size W W') => HK.out W' (h.2.2.2.2.2.out.below hb h.2.2.2.2.2.out.size))
  have HC1 := Lib.hid (fun (W : World) (h : W.cell? ⟨b, 1, none⟩ = some vs ∧ W.cell? ⟨b, 2, none⟩ = some vc ∧ W.cell? ⟨b, 4, none⟩ = some (.int .i64 D.tk) ∧ W.cell? ⟨b, 5, none⟩ = some (.int .i64 D.pw) ∧ W.cell? ⟨b, 6, none⟩ = some (.bool D.off) ∧ Hid (Kept (fun k => k = w.heap.size) w0 W)) => cloneS_any (secs_of_row (HDP.out W h.2.2.2.2.2.out).sts) (by have := HOK.out.s1; omega))
  have HC2 := Lib.hid (fun (W : World) (h : W.cell? ⟨b, 1, none⟩ = some vs ∧ W.cell? ⟨b, 2, none⟩ = some vc ∧ W.cell? ⟨b, 4, none⟩ = some (.int .i64 D.tk) ∧ W.cell? ⟨b, 5, none⟩ = some (.int .i64 D.pw) ∧ W.cell? ⟨b, 6, none⟩ = some (.bool D.off) ∧ Hid (Kept (fun k => k = w.heap.size) w0 W)) => cloneW_any (wrs_of_row (HDP.out W h.2.2.2.2.2.out).cas) (by have := HOK.out.ca; omega))
  have HRB := Lib.hid hrb
  have HZ := Lib.hid hsz0
  have HB0 := Lib.hid hB0
  obtain ⟨rb, hrbn⟩ : ∃ n, w.heap.size = n := ⟨_, rfl⟩
  clear hB0 hrb h0 hp hX1 hX2 hX3 hX4 hlX h hsz0 hw0 hrbn
  have HST := Lib.hid (fun (W : World) (hb : Below w0.heap.size w0 W) => run_storeT ((hb.block w.heap.size (by rw [HZ.out]; omega)).trans HRB.out))
  have HRT := Lib.hid (fun (W : World) (hb : Below w0.heap.size w0 W) (cs : Array Value) => setRow_heap W w.heap.size _ cs _ _ ((hb.block w.heap.size (by rw [HZ.out]; omega)).trans HRB.out))
  go_enter Try.func17, Try.ntmps17
  go_wp2_with fail
  refine HC.out.mono ?_
  rintro e w' ⟨rfl, rfl⟩
  go_wp2_with fail
  go_region_held3 (fun W => W.cell? ⟨b, 1, none⟩ = some vs ∧ W.cell? ⟨b, 2, none⟩ = some vc ∧ W.cell? ⟨b, 4, none⟩ = some (.int .i64 D.tk) ∧ W.cell? ⟨b, 5, none⟩ = some (.int .i64 D.pw) ∧ W.cell? ⟨b, 6, none⟩ = some (.bool D.off) ∧ Hid (Kept (fun k => k = w.heap.size) w0 W)) (first | assumption | exact HS0.out | exact HSD.out _ (by assumption) | exact HSD.out _ HS0.out | exact HKS.out _ _ (by assumption)) ((first | (go_at_call 44; (with_reducible refine (HC1.out _ ?hs).mono ?_); (case hs => first | assumption | exact HSD.out _ (by assumption) | exact HSD.out _ HS0.out); rintro e w1 ⟨v1, rfl, ho1, hb1⟩; have hW1 : Below w0.heap.size w0 w1 := (by first | exact hW2.trans (hb1.mono hW2.size) | exact (show Below w0.heap.size w0 w0.drew from (Below.refl _ _).drew).trans hb1); have hS1 := HK.out _ (Below.kept hW1 _ (fun k hk _ => hk)); obtain ⟨a1, c1, rfl⟩ := row_shape ho1; have HE1 := Lib.hid (secs_of_row ho1); have HF1 := Lib.hid (off_row ho1); have HG1 := Lib.hid hb1; have hst1 := HST.out _ hW1; clear ho1 hb1) | (go_at_call 45; (with_reducible refine (HC2.out _ ?hs).mono ?_); (case hs => first | assumption | exact HSD.out _ (by assumption) | exact HSD.out _ HS0.out); rintro e w2 ⟨v2, rfl, ho2, hb2⟩; have hW2 : Below w0.heap.size w0 w2 := (by first | exact hW1.trans (hb2.mono hW1.size) | exact (show Below w0.heap.size w0 w0.drew from (Below.refl _ _).drew).trans hb2); have hS2 := HK.out _ (Below.kept hW2 _ (fun k hk _ => hk)); obtain ⟨a2, c2, rfl⟩ := row_shape ho2; have HE2 := Lib.hid (wrs_of_row ho2); have HF2 := Lib.hid (off_row ho2); have HG2 := Lib.hid hb2; have hst2 := HST.out _ hW2; clear ho2 hb2) | fail))
  go_wp2
  have hkr := Kept.setRow (X := fun k => k = w.heap.size) (Kept.refl _ w2) w.heap.size rfl #[.slice a1 D.st.length c1, .slice a2 D.ca.length c2, .int .i64 D.tk, .int .i64 D.pw, .bool D.off]
  have hz2 : w0.heap.size ≤ w1.heap.size := hW1.size
  exact bodyPost_ret (results_cell_row (P := Try.prog) rfl _ _ w.heap.size 32 _ (0, 0) _ rfl (HRT.out w2 hW2 _) Try.underlying32 rfl szT) rfl
    ⟨_, _, rfl, ⟨(HE1.out.below HG2.out (Nat.le_refl _)).kept hkr (HF1.out _ (by show w.heap.size < w0.heap.size; rw [HZ.out]; omega)), HE2.out.kept hkr (HF2.out _ (by rw [HZ.out] at hz2; omega))⟩,
      (HB0.out.trans (hW2.mono (by rw [HZ.out]; omega))).trans (hkr.toBelow (by have := hW2.size; rw [HZ.out] at this; omega) (fun k e => by omega))⟩
end Go.Proofs.Ytpboknepfjeljaa
