/- shared, isUnder; Compare, Under, Common, Move, Join, Parent. -/
import Derived.Test.YtbgfeonlnhlbfaaCompare
namespace Go.Proofs.Ytbgfeonlnhlbfaa
open Go.RowKit
attribute [local go_sem] Oper.semAt_some
attribute [local go_sem ↓] loadX_eq neqX_eq

/-- Between two rounds: the box of n holds how many have come; all of them are equal. -/
def HI (w : World) (pre : List (ByteArray × ByteArray)) (W : World) : Prop :=
  Boxed W w.heap.size 3 (.int .i64 (pre.length : Nat)) ∧ Below w.heap.size w W ∧ (∀ x ∈ pre, x.1.data.toList = x.2.data.toList) ∧ pre.length ≤ 8
def HX (w : World) (m : Nat) (c : Code) (_ : List (ByteArray × ByteArray)) (W : World) : Prop :=
  c = .exit 0 ∧ Boxed W w.heap.size 3 (.int .i64 m) ∧ Below w.heap.size w W

set_option maxHeartbeats 4000000 in
set_option maxRecDepth 100000 in
theorem shared_in (n : Nat) (hn : 6 ≤ n) (v1 v2 : Value) (ps qs : List ByteArray) (w : World) (hp : StrsAt w v1 ps) (hq : StrsAt w v2 qs) (ep : checkE (bsL ps) = 0) (eq : checkE (bsL qs) = 0) :
    CallsIn Fence.wide n Try.prog 52 #[v1, v2] w fun e w' => e = .returned (.int .i64 (comN (bsL ps) (bsL qs) : Nat)) ∧ Below w.heap.size w w' := by
  obtain ⟨a1, c1, rfl⟩ := hp.shape
  obtain ⟨a2, c2, rfl⟩ := hq.shape
  refine callsIn_of_wp_marks Try.func52 rfl trivial ?_ rfl
  simp only [Try.ntmps52, List.size_toArray, List.length_cons, List.length_nil, Nat.reduceAdd, Nat.reduceSub, Array.replicate_succ, Array.replicate_zero, List.push_toArray, List.append_toArray, List.nil_append, List.cons_append]
  have hcp := checkE_zero.1 ep
  have hcq := checkE_zero.1 eq
  have hn1 : ∀ s ∈ ps, nameE s.data.toList = 0 := fun s hs => hcp.2 _ (List.mem_map.2 ⟨s, hs, rfl⟩)
  have hn2 : ∀ s ∈ qs, nameE s.data.toList = 0 := fun s hs => hcq.2 _ (List.mem_map.2 ⟨s, hs, rfl⟩)
  have hs1 : ∀ s ∈ ps, s.size ≤ 24 := fun s hs => by have := (nameE_ok (hn1 s hs)).2.1; rwa [size_len] at this
  have hs2 : ∀ s ∈ qs, s.size ≤ 24 := fun s hs => by have := (nameE_ok (hn2 s hs)).2.1; rwa [size_len] at this
  have hl1 : ps.length ≤ 8 := by have := hcp.1; simpa using this
  have hl2 : qs.length ≤ 8 := by have := hcq.1; simpa using this
  obtain ⟨m, hm⟩ : ∃ m, m = comN (bsL ps) (bsL qs) := ⟨_, rfl⟩
  rw [← hm]
  clear hcp hcq ep eq
  have HP := Lib.hid hp
  have HQ := Lib.hid hq
  have HN1 := Lib.hid hn1
  have HN2 := Lib.hid hn2
  have HS1 := Lib.hid hs1
  have HS2 := Lib.hid hs2
  have HM := Lib.hid hm
  clear hp hq hn1 hn2 hs1 hs2 hm
  gi_wp2_with fail
  refine ⟨trivial, fun _ => by omega, (callsIn_wide.2 (steps_any a1 a2 _ _ c1 c2 _)).mono ?_⟩
  rintro e w' ⟨rfl, rfl⟩
  gi_wp2_with fail
  obtain ⟨W3, hW3⟩ : ∃ W3, ((w.alloc (.cells #[.int .i64 0] 3)).alloc (.cells #[.slice a1 ps.length c1] 22)).alloc (.cells #[.slice a2 qs.length c2] 22) = W3 := ⟨_, rfl⟩
  have hs3 : W3.heap.size = w.heap.size + 3 := by rw [← hW3]; simp
  have hB3 : Below w.heap.size w W3 := by rw [← hW3]; exact (((Below.refl _ w).alloc (Nat.le_refl _) _).alloc (by simp) _).alloc (by simp; omega) _
  have b0 : Boxed W3 w.heap.size 3 (.int .i64 0) := by rw [← hW3]; exact ((Boxed.new w _ _).alloc _).alloc _
  have b1 : Boxed W3 (w.heap.size + 1) 22 (.slice a1 ps.length c1) := by
    rw [← hW3]; have := Boxed.new (w.alloc (.cells #[.int .i64 0] 3)) 22 (.slice a1 ps.length c1); rw [World.size_alloc] at this; exact this.alloc _
  have b2 : Boxed W3 (w.heap.size + 1 + 1) 22 (.slice a2 qs.length c2) := by
    rw [← hW3]; have := Boxed.new ((w.alloc (.cells #[.int .i64 0] 3)).alloc (.cells #[.slice a1 ps.length c1] 22)) 22 (.slice a2 qs.length c2); rw [World.size_alloc, World.size_alloc] at this; exact this
  rw [hW3]
  clear hW3
  have hI : Stays (O2 (fun _ => False) W3.heap.size) (HI w) := by
    rintro s A B ⟨h0, hbel, hall, hlen⟩ hk
    rw [hs3] at hk
    exact ⟨boxed_kept h0 hk (by unfold O2; simp; omega), below_kept hbel hk (Nat.le_refl _) (fun k hx => by unfold O2 at hx; simp at hx; omega), hall, hlen⟩
  have hIx : ∀ c, Stays (O2 (fun _ => False) W3.heap.size) (HX w m c) := by
    rintro c s A B ⟨hc, h0, hbel⟩ hk
    rw [hs3] at hk
    exact ⟨hc, boxed_kept h0 hk (by unfold O2; simp; omega), below_kept hbel hk (Nat.le_refl _) (fun k hx => by unfold O2 at hx; simp at hx; omega)⟩
  refine range_law (n := n) rfl (by omega) (gf := 69) (lb := #[.pointer (some ⟨w.heap.size + 1, 0, none⟩), .pointer (some ⟨w.heap.size + 1 + 1, 0, none⟩)]) rfl trivial (enters_of Try.func69 (by kernel_rfl) rfl)
    (O := fun _ => False) (R := stepR w (w.heap.size + 1) (w.heap.size + 1 + 1)) (encs := encP) ⟨by omega, by omega, by omega⟩
    (fun W1 hb1 hs1 => steps_seq (n - 1) (by omega) w _ _ _ _ ps qs W1 HP.out HQ.out HS1.out HS2.out hl1 hl2 (hB3.trans (hb1.mono (by omega))) ((hb1.block _ b1.lt).trans b1) ((hb1.block _ b2.lt).trans b2)) (fun _ => rfl) (fun k h => h.elim)
    (HI w) (HX w m) hI hIx ⟨b0, hB3, (fun x hx => by cases hx), Nat.zero_le _⟩ ?round ?done ?stop
  case round =>
    rintro pre ⟨xa, xb⟩ W hCI hbf hC K hK
    have hk := hC.length_le
    rw [List.length_append, List.length_singleton, List.length_zip] at hk
    have hk1 : pre.length < ps.length := by omega
    have hk2 : pre.length < qs.length := by omega
    have hx : (xa, xb) = (ps[pre.length], qs[pre.length]) := by
      obtain ⟨t, ht⟩ := hC
      have h1 : (ps.zip qs)[pre.length]'(by rw [List.length_zip]; omega) = (xa, xb) := by
        simp only [← ht]; simp
      rw [← h1, List.getElem_zip]
    obtain ⟨rfl, rfl⟩ := Prod.mk.inj hx
    have na := HN1.out _ (List.getElem_mem hk1)
    have nb := HN2.out _ (List.getElem_mem hk2)
    have la : (padL ps[pre.length].data.toList).length = 24 := padL_len (nameE_ok na).2.1
    have lb : (padL qs[pre.length].data.toList).length = 24 := padL_len (nameE_ok nb).2.1
    have sa : ∀ (b : Nat) (w : World), w.heap.size = b → Sem.run Try.prog (storeCells ⟨b, 0, none⟩ (Lib.byteCells (padL ps[pre.length].data.toList))) (w.alloc (.cells zero24 85)) = .ok () (w.alloc (.cells (Lib.byteCells (padL ps[pre.length].data.toList)).toArray 85)) := fun b w h => store_arr la b w h
    have sb : ∀ (b : Nat) (w : World), w.heap.size = b → Sem.run Try.prog (storeCells ⟨b, 0, none⟩ (Lib.byteCells (padL qs[pre.length].data.toList))) (w.alloc (.cells zero24 85)) = .ok () (w.alloc (.cells (Lib.byteCells (padL qs[pre.length].data.toList)).toArray 85)) := fun b w h => store_arr lb b w h
    have ca := arr_len la
    have cb := arr_len lb
    unfold zero24 at sa sb
    simp only [List.replicate] at sa sb
    unfold encP padV
    gi_wp2
    refine hK _ _ (((Kept.refl _ _).alloc _).alloc _) ?_
    clear hK sa sb
    intro W2 hk2'
    have hkk : Kept (O2 (fun _ => False) W3.heap.size) W W2 := (((Kept.refl _ W).alloc _).alloc _).trans (hk2'.mono (fun k (h : k = _) => .inr (.inr h)))
    obtain ⟨h0, hbel, hall, hlen8⟩ := hI _ _ _ hCI hkk
    have r1 : ArrAt W2 W.heap.size (padL ps[pre.length].data.toList) := (hk2'.block _ (by simp; omega) (by omega)).trans ((Below.heap_alloc _ _ _ (by simp)).trans (World.alloc_heap_new W _))
    have r2 : ArrAt W2 (W.heap.size + 1) (padL qs[pre.length].data.toList) := (hk2'.block _ (by simp) (by omega)).trans (by
      have := World.alloc_heap_new (W.alloc (.cells (Lib.byteCells (padL ps[pre.length].data.toList)).toArray 85)) (.cells (Lib.byteCells (padL qs[pre.length].data.toList)).toArray 85)
      rwa [World.size_alloc] at this)
    have l1 := load_arr la r1
    have l2 := load_arr lb r2
    have l3 := eql_arr la lb W2
    rw [loadX_eq] at l1 l2
    rw [neqX_eq] at l3
    have hW3 : W3.heap.size ≤ W.heap.size := by omega
    have hPre : ∀ x ∈ pre, x.1.data.toList = x.2.data.toList := hall
    have HPAR : Hid (∀ j (h : j < pre.length), (bsL ps)[j]'(by simp; omega) = (bsL qs)[j]'(by simp; omega)) := Lib.hid (fun j hj => by
      obtain ⟨t, ht⟩ := hC
      have h1 : (ps.zip qs)[j]'(by rw [List.length_zip]; omega) = pre[j] := by
        simp only [← ht, List.append_assoc]; rw [List.getElem_append_left hj]
      rw [List.getElem_zip] at h1
      have h2 := hPre pre[j] (List.getElem_mem hj)
      rw [← h1] at h2
      simpa using h2)
    have q0 := h0.cell; have f0 := h0.frozen; have lt0 := h0.lt
    have HALL := Lib.hid hall
    clear hC hk2' hkk hCI hall hPre
    by_cases he : padL ps[pre.length].data.toList = padL qs[pre.length].data.toList
    · have hd : decide (padL ps[pre.length].data.toList = padL qs[pre.length].data.toList) = true := decide_eq_true he
      rw [hd] at l3
      have HE := Lib.hid ((padL_inj na nb).1 he)
      clear he hd
      gi_wp2
      refine ⟨(Kept.refl _ _).setCell ⟨w.heap.size, 0, none⟩ (by unfold R2 stepR; simp; omega) _, ?_, hbel.setCell (p := ⟨w.heap.size, 0, none⟩) (Nat.le_refl _) _, ?_, ?_⟩
      · have := h0.set (.int .i64 ((pre ++ [(ps[pre.length], qs[pre.length])]).length : Nat))
        rw [List.length_append, List.length_singleton] at this ⊢
        exact this
      · intro x hx
        rcases List.mem_append.1 hx with hx | hx
        · exact HALL.out x hx
        · rw [List.mem_singleton.1 hx]; exact HE.out
      · rw [List.length_append, List.length_singleton]; omega
    · have hd : decide (padL ps[pre.length].data.toList = padL qs[pre.length].data.toList) = false := decide_eq_false he
      rw [hd] at l3
      have HE := Lib.hid (show pre.length = m by
        rw [HM.out]; symm
        refine comN_at pre.length (by simp; omega) (by simp; omega) HPAR.out (.inr (.inr ⟨by simpa using hk1, by simpa using hk2, fun e => he ?_⟩))
        simp only [List.getElem_map] at e; rw [e])
      clear he hd
      gi_wp2
      exact ⟨Kept.refl _ _, rfl, by rw [← HE.out]; exact h0, hbel⟩
  case done =>
    rintro xs W rfl ⟨h0, hbel, hall, hlen8⟩ hD
    have HF := Lib.hid (show (ps.zip qs).length = m by
      rw [HM.out]; symm
      refine comN_at (ps.zip qs).length (by simp; omega) (by simp; omega) (fun j hj => ?_) (by simp; omega)
      have := hall _ (List.getElem_mem hj)
      rw [List.getElem_zip] at this
      simpa using this)
    rw [HF.out] at h0
    have q0 := h0.cell
    clear hall
    gi_wp2
    have hp : Kept (· = W3.heap.size) W (W.putObj W3.heap.size (.deferred none)) := Kept.putObj _ _ _ _ rfl
    refine ⟨by simp, .inl ⟨_, _, rfl, run_takeDeferred hD, ?_⟩⟩
    exact ⟨.int .i64 m, by simp [results, Try.results52, go_sem], rfl, below_kept hbel hp (Nat.le_refl _) (fun k (h : k = _) => by omega)⟩
  case stop =>
    rintro c pre W hpre ⟨rfl, h0, hbel⟩ hD
    have q0 := h0.cell
    gi_wp2
    have hp : Kept (· = W3.heap.size) W (W.putObj W3.heap.size (.deferred none)) := Kept.putObj _ _ _ _ rfl
    refine ⟨by simp, .inl ⟨_, _, rfl, run_takeDeferred hD, ?_⟩⟩
    exact ⟨.int .i64 m, by simp [results, Try.results52, go_sem], rfl, below_kept hbel hp (Nat.le_refl _) (fun k (h : k = _) => by omega)⟩
end Go.Proofs.Ytbgfeonlnhlbfaa
