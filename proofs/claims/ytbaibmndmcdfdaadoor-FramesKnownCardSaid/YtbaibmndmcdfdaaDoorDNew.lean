/- Load of what is no state; New. -/
import Derived.Test.YtbaibmndmcdfdaaDoorDLoad
namespace Go.Proofs.YtbaibmndmcdfdaaDoor.D
open Go.RowKit Go.MapKept
attribute [local go_sem ↓] loadS_eq storeS_eq loadW_eq storeW_eq allocW_eq boxW_eq clearX_eq updX_eq appW_eq bslW_eq bldW_eq boxS_eq boxT_eq
set_option maxRecDepth 100000

set_option maxHeartbeats 1000000 in
theorem load_no {w : World} {vs vc : Value} {D : Dv} (h : StateAt w vs vc D) (hs : D.st.length ≤ maxLen) (hc : D.ca.length ≤ maxLen) (ho : checkE D ≠ 0) :
    Calls Tryd.prog 36 #[.agg #[vs, vc, .int .i64 D.tk, .int .i64 D.pw, .bool D.off]] w fun e w' => e = .returned (.tuple #[.pointer none, .int .i64 (checkE D)]) ∧ Below w.heap.size w w' := by
  obtain ⟨⟨a, c, rfl⟩, ⟨a', c', rfl⟩⟩ := h.vals
  obtain ⟨w0, hw0⟩ : ∃ w0, w.alloc (.cells #[.slice a D.st.length c, .slice a' D.ca.length c', .int .i64 D.tk, .int .i64 D.pw, .bool D.off] 51 (0, 0)) = w0 := ⟨_, rfl⟩
  have hbx : (boxT (.agg #[.slice a D.st.length c, .slice a' D.ca.length c', .int .i64 D.tk, .int .i64 D.pw, .bool D.off])).run Tryd.prog w = .ok (.pointer (some ⟨w.heap.size, 0, none⟩)) w0 := by rw [← hw0]; exact run_boxT _ w
  have hB0 : Below w.heap.size w w0 := by rw [← hw0]; exact (Below.refl _ _).alloc (Nat.le_refl _) _
  have hblk : w0.heap[w.heap.size]? = some (.cells #[.slice a D.st.length c, .slice a' D.ca.length c', .int .i64 D.tk, .int .i64 D.pw, .bool D.off] 51 (0, 0)) := by rw [← hw0]; exact heap_alloc_new _ _
  have hst := h.below hB0 (Nat.le_refl _)
  obtain ⟨k0, k1, k2, k3, k4⟩ := block_five hblk
  have hgt : w.heap.size < w0.heap.size := (Array.getElem?_eq_some_iff.1 hblk).1
  have HR := Lib.hid (isInRange_any hst hs hc)
  have hls0 : LS w.heap.size (.slice a D.st.length c) (.slice a' D.ca.length c') D w0 w0 := ⟨k0, k1, k2, k3, k4, hgt, hst, Below.refl _ _⟩
  have HLS0 := Lib.hid hls0
  have HB0 := Lib.hid hB0
  cases hr : rangeB D with
  | false =>
    have he : checkE D = 7 := by rw [checkE_range, hr]; rfl
    rw [hr] at HR
    rw [he]
    clear hw0 hB0 hblk h hst hls0 hr ho he hs hc
    go_enter Tryd.func36, Tryd.ntmps36
    go_wp2_with fail
    refine HR.out.mono ?_
    rintro e w1 ⟨rfl, hb1⟩
    have HB1 := Lib.hid (HB0.out.trans (hb1.mono (Nat.le_of_lt hgt)))
    clear hb1 k0 k1 k2 k3 k4
    go_wp2_with fail
    go_ret2
    exact ⟨rfl, HB1.out⟩
  | true =>
    have hl : 400 < D.ca.length := by
      have := checkE_range D
      rw [hr, if_pos rfl] at this
      by_cases e : 400 < D.ca.length
      · exact e
      · rw [if_neg e] at this; exact absurd this ho
    have he : checkE D = 3 := by rw [checkE_range, hr, if_pos rfl, if_pos hl]
    have hlI : (400 : Int) < (D.ca.length : Int) := by omega
    unfold maxLen at hc
    rw [hr] at HR
    rw [he]
    clear hw0 hB0 hblk h hst hls0 hr ho he hs
    go_enter Tryd.func36, Tryd.ntmps36
    go_wp2_with fail
    refine HR.out.mono ?_
    rintro e w1 ⟨rfl, hb1⟩
    have m1 := (HLS0.out.below hb1 (Nat.le_refl _)).c1
    have HB1 := Lib.hid (HB0.out.trans (hb1.mono (Nat.le_of_lt hgt)))
    clear hb1 k0 k1 k2 k3 k4
    go_wp2_with fail
    go_ret2
    exact ⟨rfl, HB1.out⟩

theorem secC_zero (n : Nat) : secC (List.replicate n Sec.zero) = List.replicate (n * 128) (.int .u8 0) := by
  unfold secC
  induction n with
  | zero => rfl
  | succ n ih =>
    rw [List.replicate_succ, List.map_cons, List.flatten_cons, ih, Nat.add_mul, Nat.one_mul, Nat.add_comm, ← List.replicate_append_replicate]
    congr 1
theorem zero_cs : Sec.zero.cs = List.replicate 128 (.int .u8 0) := by simp [Sec.cs, Sec.zero]
theorem zero_at (j : Nat) : Sec.zero.A[j % Sec.zero.A.size]! = .int .u8 0 := by
  have hz : Sec.zero.A.size = 128 := Sec.A_size _
  have hm : j % Sec.zero.A.size < Sec.zero.A.size := Nat.mod_lt _ (by omega)
  rw [getElem!_pos Sec.zero.A _ hm]
  have : Sec.zero.A[j % Sec.zero.A.size]? = some (.int .u8 0) := by
    rw [hz]
    have h2 : Sec.zero.A = (List.replicate 128 (.int .u8 0)).toArray := by unfold Sec.A; rw [zero_cs]
    rw [h2]
    simp only [List.getElem?_toArray]
    rw [List.getElem?_replicate, if_pos (Nat.mod_lt _ (by omega))]
  rw [Array.getElem?_eq_getElem hm] at this
  injection this
theorem madeCells_sec (n : Nat) : (madeCells Sec.zero.A (n * 128)).toList = secC (List.replicate n Sec.zero) := by
  rw [secC_zero]
  unfold madeCells
  rw [Array.toList_map, Array.toList_range]
  refine List.eq_replicate_iff.2 ⟨by simp, fun b hb => ?_⟩
  obtain ⟨j, _, rfl⟩ := List.mem_map.1 hb
  exact zero_at j
theorem newD_check {n : Nat} (h0 : 64 ≤ n) (h1 : n ≤ 256) : checkE (newD n) = 0 := checkE_ok.2 (newD_ok h0 h1)
noncomputable def bldT (xs : Array (Nat × Value)) : Sem Value := Instr.build 51 xs
theorem bldT_eq (xs : Array (Nat × Value)) : Instr.build 51 xs = bldT xs := rfl
theorem run_bldT (a : Option Addr) (n c : Nat) (w : World) : (bldT #[(0, .slice a n c), (3, .int .i64 (-1))]).run Tryd.prog w = .ok (.agg #[.slice a n c, .slice none 0 0, .int .i64 0, .int .i64 (-1), .bool false]) w := by
  refine run_build w _ _ _ ?_
  rfl
attribute [local go_sem ↓] bldT_eq

/-- What New leaves: a device of n blank sectors. -/
def NewTo (n : Nat) (w : World) (e : Ending) (w' : World) : Prop := ∃ b X, e = .returned (.tuple #[.pointer (some ⟨b, 0, none⟩), .int .i64 0]) ∧ DevAt w' b X (newD n) ∧ Below w.heap.size w w' ∧ ∀ k, X k → w.heap.size ≤ k
set_option maxHeartbeats 1000000 in
theorem new_any (n : Nat) (w : World) (h0 : 64 ≤ n) (h1 : n ≤ 256) : Calls Tryd.prog 16 #[.int .i64 (n : Int)] w (NewTo n w) := by
  obtain ⟨i, hi, hz0, hz1, hz2⟩ := info_parts Tryd.infoSec
  obtain ⟨w1, hmk, ho, hg⟩ := run_make_full (P := Tryd.prog) w w.heap.size 48 27 i (.agg Sec.zero.A) 128 Tryd.underlying48 hi hz0 hz1 .i64 .i64 n (by rw [hz2]; omega) (by unfold maxLen; omega) (Nat.le_refl _)
  rw [show (madeCells (Value.agg Sec.zero.A).cells (n * 128)).toList = secC (List.replicate n Sec.zero) from madeCells_sec n] at ho
  have hB : Below w.heap.size w w1 := (Below.refl _ _).grown hg (Nat.le_refl _) (fun k e => by cases e)
  have hst : StateAt w1 (.slice (some ⟨w.heap.size, 0, none⟩) n n) (.slice none 0 0) (newD n) := ⟨secs_of_row (by show w1.ownsRow w.heap.size _ 128 _ (List.replicate n Sec.zero).length _; rw [List.length_replicate]; exact ho), .inl ⟨none, 0, rfl, rfl⟩⟩
  have HL := Lib.hid (load_ok hst (by show (List.replicate n Sec.zero).length ≤ maxLen; rw [List.length_replicate]; unfold maxLen; omega) (Nat.zero_le _) (newD_check h0 h1))
  have HC := Lib.hid (isCount_any (n : Int) w)
  rw [show isCt (n : Int) = true from by unfold isCt; simp; omega] at HC
  have hbt := run_bldT (some ⟨w.heap.size, 0, none⟩) n n w1
  have HB := Lib.hid hB
  clear hB hst ho hg h0 h1
  go_enter Tryd.func16, Tryd.ntmps16
  go_wp2_with fail
  refine HC.out.mono ?_
  rintro e w' ⟨rfl, rfl⟩
  go_wp2_with fail
  refine HL.out.mono ?_
  rintro e w2 ⟨b, X, rfl, q1, q2, q3⟩
  have HF : Hid (DevAt w2 b X (newD n) ∧ Below w.heap.size w w2 ∧ ∀ k, X k → w.heap.size ≤ k) := Lib.hid ⟨q1, HB.out.trans (q2.mono HB.out.size), fun k hk => Nat.le_trans HB.out.size (q3 k hk)⟩
  clear q1 q2 q3
  go_wp2_with fail
  go_ret2
  exact ⟨b, X, rfl, HF.out⟩
theorem new_no (n : Int) (w : World) (hn : isCt n = false) : Calls Tryd.prog 16 #[.int .i64 n] w fun e w' => e = .returned (.tuple #[.pointer none, .int .i64 7]) ∧ w = w' := by
  have HC := Lib.hid (isCount_any n w)
  rw [hn] at HC
  go_enter Tryd.func16, Tryd.ntmps16
  go_wp2_with fail
  refine HC.out.mono ?_
  rintro e w' ⟨rfl, rfl⟩
  go_wp2_with fail
  go_ret2
  exact ⟨rfl, rfl⟩
end Go.Proofs.YtbaibmndmcdfdaaDoor.D
