/- What DeviceWhole carries: the devices, the two rows of writes; what each call leaves. -/
import Derived.Test.YtpboknepfjeljaaWholeV
import Derived.Laws.MakeOwn
namespace Go.Proofs.Ytpboknepfjeljaa
open Go.RowKit Go.MapKept
set_option maxRecDepth 100000

structure WW (N : Nat) (F : Nat → Prop) (w : World) (v : Value) (L : List Pu) (u : Value) (M : List Pu) (wr : World) (l : List (Nat × Dv)) : Prop where
  many : Many N F wr l
  below : Below N w wr
  size : N ≤ wr.heap.size
  pv : PutsAt wr v L
  pu : PutsAt wr u M
  sv : Safe N F v
  su : Safe N F u
section
variable {N : Nat} {F : Nat → Prop} {w : World} {v : Value} {L : List Pu} {u : Value} {M : List Pu} {wr : World} {l : List (Nat × Dv)}
theorem WW.ran (h : WW N F w v L u M wr l) {l' : List (Nat × Dv)} {w' : World} (r : Ran N F wr l' w') : WW N F w v L u M w' l' :=
  ⟨r.many, h.below.trans (r.below h.size), r.size, h.pv.kept r.kept h.sv.off, h.pu.kept r.kept h.su.off, h.sv, h.su⟩
theorem WW.new (h : WW N F w v L u M wr l) {l' : List (Nat × Dv)} {w' : World} (hm : Many N F w' l') (hb : Below wr.heap.size wr w') : WW N F w v L u M w' l' :=
  ⟨hm, h.below.trans (hb.mono h.size), Nat.le_trans h.size hb.size, h.pv.below hb (Nat.le_refl _), h.pu.below hb (Nat.le_refl _), h.sv, h.su⟩
theorem WW.low (h : WW N F w v L u M wr l) {w' : World} (hb : Below wr.heap.size wr w') : WW N F w v L u M w' l := h.new (h.many.below hb (Nat.le_refl _)) hb
theorem WW.block (h : WW N F w v L u M wr l) {w' : World} (hb : Below wr.heap.size wr w') (g : Nat) (hg : wr.heap.size ≤ g) (hg2 : g < w'.heap.size) : WW N (fun k => F k ∨ k = g) w v L u M w' l :=
  ⟨h.many.mark hb g hg hg2, h.below.trans (hb.mono h.size), Nat.le_trans h.size hb.size, h.pv.below hb (Nat.le_refl _), h.pu.below hb (Nat.le_refl _), h.sv.sub (fun _ => .inl), h.su.sub (fun _ => .inl)⟩
variable {b : Nat} {D : Dv} {l1 l2 : List (Nat × Dv)}
theorem WW.putL (h : WW N F w v L u M wr (l1 ++ (b, D) :: l2)) (ht : Takes D L.length) :
    Calls Try.prog 21 #[.pointer (some ⟨b, 0, none⟩), v] wr fun e w' => e = .returned (.bool true) ∧ WW N F w v L u M w' (l1 ++ (b, putsD D L) :: l2) :=
  (put_step h.many h.size v L h.pv h.sv ht).mono fun _ _ ⟨he, hr⟩ => ⟨he, h.ran hr⟩
theorem WW.putM (h : WW N F w v L u M wr (l1 ++ (b, D) :: l2)) (ht : Takes D M.length) :
    Calls Try.prog 21 #[.pointer (some ⟨b, 0, none⟩), u] wr fun e w' => e = .returned (.bool true) ∧ WW N F w v L u M w' (l1 ++ (b, putsD D M) :: l2) :=
  (put_step h.many h.size u M h.pu h.su ht).mono fun _ _ ⟨he, hr⟩ => ⟨he, h.ran hr⟩
theorem WW.flush (h : WW N F w v L u M wr (l1 ++ (b, D) :: l2)) (ho : D.off = false) :
    Calls Try.prog 27 #[.pointer (some ⟨b, 0, none⟩)] wr fun e w' => e = .returned (.int .i64 0) ∧ WW N F w v L u M w' (l1 ++ (b, settleD D) :: l2) :=
  (flush0_many h.many h.size ho).mono fun _ _ ⟨he, hr⟩ => ⟨he, h.ran hr⟩
theorem WW.crash (h : WW N F w v L u M wr (l1 ++ (b, D) :: l2)) (x : Value) (K : List Int) (hv : IntsAt wr x K) (hL : K.length ≤ maxLen) (hx : ∀ g o m c, x = .slice (some ⟨g, o, none⟩) m c → m ≠ 0 → g < N ∨ F g) (h0 : keepE D.ca.length K = 0) :
    Calls Try.prog 26 #[.pointer (some ⟨b, 0, none⟩), x] wr fun e w' => e = .returned (.int .i64 0) ∧ WW N F w v L u M w' (l1 ++ (b, crashedD D K) :: l2) :=
  (crash0_many h.many h.size x K hv hL hx h0).mono fun _ _ ⟨he, hr⟩ => ⟨he, h.ran hr⟩
theorem WW.new64 (h : WW N F w v L u M wr l) :
    Calls Try.prog 13 #[.int .i64 64] wr fun e w' => ∃ b, e = .returned (.tuple #[.pointer (some ⟨b, 0, none⟩), .int .i64 0]) ∧ WW N F w v L u M w' (l ++ [(b, newD 64)]) :=
  (new64_many h.many h.size).mono fun _ _ ⟨b, he, hm, hb⟩ => ⟨b, he, h.new hm hb⟩
theorem WW.diff {c : Nat} {E : Dv} (h : WW N F w v L u M wr l) (hD : (b, D) ∈ l) (hE : (c, E) ∈ l) (hl : D.st.length = E.st.length) (hr : ∀ n, n < D.st.length → readsV D.st D.ca n = readsV E.st E.ca n) :
    Calls Try.prog 28 #[.pointer (some ⟨b, 0, none⟩), .pointer (some ⟨c, 0, none⟩)] wr fun e w' => ∃ a cp, e = .returned (.tuple #[.slice a 0 cp, .int .i64 0]) ∧ WW N F w v L u M w' l :=
  (diff0_many h.many hD hE hl hr).mono fun _ _ ⟨a, cp, he, hb⟩ => ⟨a, cp, he, h.low hb⟩
end
theorem ints_none (w : World) : IntsAt w (.slice none 0 0) [] := .inl ⟨none, 0, rfl, rfl⟩
theorem none_safe {N : Nat} {F : Nat → Prop} : ∀ g o m c, Value.slice none 0 0 = .slice (some ⟨g, o, none⟩) m c → m ≠ 0 → g < N ∨ F g := fun _ _ _ _ e _ => by cases e

/-! ### The row of numbers -/
def mixI (n k : Nat) : List Value := (List.range n).map fun (i : Nat) => if i < k then .int .i64 (i : Int) else .int .i64 0
theorem mixI_len (n k : Nat) : (mixI n k).length = n := by simp [mixI]
theorem mixI_zero (n : Nat) : mixI n 0 = List.replicate n (.int .i64 0) := by
  apply List.ext_getElem (by simp [mixI])
  intro i h1 h2
  simp [mixI]
theorem mixI_all (n : Nat) : mixI n n = (allI n).map (Value.int .i64) := by
  apply List.ext_getElem (by simp [mixI, allI])
  intro i h1 h2
  have : i < n := by simpa [mixI] using h1
  simp [mixI, allI, this]
theorem mixI_succ (n k : Nat) : (mixI n k).set k (.int .i64 (k : Int)) = mixI n (k + 1) := by
  apply List.ext_getElem (by simp [mixI])
  intro i h1 h2
  rw [List.getElem_set]
  by_cases e : k = i
  · subst e; simp [mixI]
  · rw [if_neg e]
    simp only [mixI, List.getElem_map, List.getElem_range]
    have : (i < k) = (i < k + 1) := by simp only [eq_iff_iff]; omega
    simp only [this]
theorem allI_len (n : Nat) : (allI n).length = n := by simp [allI]
theorem run_make_ints (n : Nat) (hn : n ≤ 4000) (w : World) : (Instr.makeSlice 37 (.int .i64 (n : Int)) (.int .i64 (n : Int))).run Try.prog w = .ok (.slice (some ⟨w.heap.size, 0, none⟩) n n) (w.alloc (.cells (mixI n 0).toArray 3)) := by
  obtain ⟨i0, hi, hz0, hz1, hz2⟩ := info_parts Try.infoInt0
  have h := run_make (P := Try.prog) (w := w) 37 3 i0 (.int .i64 0) Try.underlying37 hi hz0 .i64 .i64 (n : Int) (n : Int) (by omega) (by omega) (by rw [hz2]; omega) (by omega)
  rw [h, Int.toNat_natCast, hz1, Nat.mul_one]
  have e : madeCells (Value.int .i64 0).cells n = (mixI n 0).toArray := by
    apply Array.ext'
    show (madeCells #[.int .i64 0] n).toList = _
    rw [toList_madeCells_one, mixI_zero]
  rw [e]
theorem own_ints (n : Nat) (hn : n ≤ 4000) (w : World) : (w.alloc (.cells (mixI n 0).toArray 3)).ownsRow w.heap.size 3 1 (.slice (some ⟨w.heap.size, 0, none⟩) n n) n (mixI n 0) := by
  refine ⟨by rw [mixI_len]; omega, .inr ⟨w.heap.size, n, (mixI n 0).toArray, rfl, Nat.le_refl _, heap_alloc_new w _, Nat.le_refl _, by unfold maxLen; omega, by simp [mixI_len], ?_⟩⟩
  show (mixI n 0).take _ = _
  rw [List.take_of_length_le (by rw [mixI_len]; omega)]
end Go.Proofs.Ytpboknepfjeljaa
