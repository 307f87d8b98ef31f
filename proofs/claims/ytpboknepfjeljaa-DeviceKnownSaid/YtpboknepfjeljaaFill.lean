/- The reference's Filled; the law's ones and twos. -/
import Derived.Test.YtpboknepfjeljaaBase
namespace Go.Proofs.Ytpboknepfjeljaa
open Go.RowKit
attribute [local go_sem ↓] loadS_eq storeS_eq allocS_eq

def Sec.upd (s : Sec) (k : Nat) (b : UInt8) : Sec := ⟨s.l.set k b, by rw [List.length_set]; exact s.len⟩
theorem Sec.upd_A (s : Sec) (k : Nat) (b : UInt8) : s.A.setIfInBounds k (.int .u8 (b.toNat : Int)) = (s.upd k b).A := by
  simp [Sec.A, Sec.cs, Sec.upd, List.map_set]
/-- The first k bytes are b. -/
def Sec.part (b : UInt8) : Nat → Sec
  | 0 => Sec.zero
  | k + 1 => (Sec.part b k).upd k b
theorem Sec.part_get (b : UInt8) : ∀ (k i : Nat), i < 128 → (Sec.part b k).l[i]? = some (if i < k then b else 0)
  | 0, i, hi => by simp only [Sec.part, Sec.zero]; rw [List.getElem?_replicate, if_pos hi, if_neg (by omega)]
  | k + 1, i, hi => by
    have ih := Sec.part_get b k i hi
    simp only [Sec.part, Sec.upd]
    by_cases e : k = i
    · subst e
      rw [List.getElem?_set_self (by rw [(Sec.part b k).len]; exact hi), if_pos (by omega)]
    · rw [List.getElem?_set_ne e, ih]
      by_cases h : i < k
      · rw [if_pos h, if_pos (by omega)]
      · rw [if_neg h, if_neg (by omega)]
theorem Sec.fill_part (f b : UInt8) : (Sec.part b 128).upd 0 f = Sec.fill f b := by
  have : ((Sec.part b 128).upd 0 f).l = (Sec.fill f b).l := by
    apply List.ext_getElem?
    intro i
    by_cases hi : i < 128
    · simp only [Sec.upd, Sec.fill]
      cases i with
      | zero => rw [List.getElem?_set_self (by rw [(Sec.part b 128).len]; omega)]; rfl
      | succ j =>
        rw [List.getElem?_set_ne (by omega), Sec.part_get b 128 (j + 1) hi, if_pos hi, List.getElem?_cons_succ, List.getElem?_replicate, if_pos (by omega)]
    · rw [List.getElem?_eq_none (by rw [((Sec.part b 128).upd 0 f).len]; omega), List.getElem?_eq_none (by rw [(Sec.fill f b).len]; omega)]
  cases h1 : (Sec.part b 128).upd 0 f
  cases h2 : Sec.fill f b
  rw [h1, h2] at this
  cases this; rfl
theorem Sec.cell_at (s : Sec) (k : Nat) (hk : k < 128) : ∃ v, s.A[k]? = some v := ⟨_, Array.getElem?_eq_getElem (by rw [s.A_size]; exact hk)⟩

theorem bodyRet_sec {fn : Func} {p : Tmp} (h : fn.results = #[.cell p 50]) {tmps : Array Value} {w : World} {g : Nat} {s : Sec} (hp : tmps.getD p undef = .pointer (some ⟨g, 0, none⟩)) (hg : w.heap[g]? = some (.cells s.A 50 (0, 0))) :
    (results fn tmps).run Try.prog w = .ok (.agg s.A) w :=
  results_cell_row (P := Try.prog) h tmps w g 50 s.A (0, 0) _ hp hg Try.underlying50 rfl (by rw [szSec, s.A_size])

set_option maxRecDepth 100000 in
set_option maxHeartbeats 400000 in
theorem filled_any (f b : UInt8) (w : World) :
    Calls Try.prog 22 #[.int .u8 (f.toNat : Int), .int .u8 (b.toNat : Int)] w fun e w' => e = .returned (.agg (Sec.fill f b).A) ∧ Below w.heap.size w w' := by
  have ha := run_allocS
  have HL := Lib.hid (run_storeS_new)
  go_enter Try.func22, Try.ntmps22
  go_wp2
  go_loopw [6] (fun i wr => ∃ k : Nat, k ≤ 128 ∧ i = .int .i64 k ∧ wr = (w.alloc (.cells Sec.zero.A 50 (0, 0))).alloc (.cells (Sec.part b k).A 50 (0, 0))) (fun i _ => 128 - (intOf i).toNat)
  case atStart => exact ⟨0, by omega, rfl, rfl⟩
  case round =>
    obtain ⟨k, hk, rfl, rfl⟩ := hrel
    by_cases hlt : k < 128
    · obtain ⟨v, hv⟩ := Sec.cell_at (Sec.part b k) k hlt
      have HU : Hid ((Sec.part b k).A.setIfInBounds k (.int .u8 (b.toNat : Int)) = (Sec.part b (k + 1)).A) := Lib.hid (Sec.upd_A _ _ _)
      obtain ⟨q, hq⟩ : ∃ q, Sec.part b (k + 1) = q := ⟨_, rfl⟩
      rw [hq] at HU
      have HQ := Lib.hid hq
      clear hq
      generalize Sec.part b k = p at hv HU ⊢
      go_wp2
      go_roundw
      case rel => exact ⟨k + 1, by omega, by go_num, by rw [HU.out, HQ.out]⟩
      case measure => simp [intOf]; omega
    · obtain rfl : k = 128 := by omega
      clear hk hlt
      have HU : Hid ((Sec.part b 128).A.setIfInBounds 0 (.int .u8 (f.toNat : Int)) = (Sec.fill f b).A) := Lib.hid (by rw [Sec.upd_A, Sec.fill_part])
      generalize Sec.part b 128 = p at HU ⊢
      obtain ⟨v, hv⟩ := Sec.cell_at p 0 (by omega)
      have hU := HU.out
      clear HU
      have hld : (loadS (.pointer (some ⟨w.heap.size + 1, 0, none⟩))).run Try.prog ((w.alloc (.cells Sec.zero.A 50 (0, 0))).alloc (.cells (Sec.fill f b).A 50 (0, 0))) = .ok (.agg (Sec.fill f b).A) ((w.alloc (.cells Sec.zero.A 50 (0, 0))).alloc (.cells (Sec.fill f b).A 50 (0, 0))) := run_loadS_block (heap_alloc2_new w _ _)
      have hst : (storeS (.pointer (some ⟨w.heap.size, 0, none⟩)) (.agg (Sec.fill f b).A)).run Try.prog ((w.alloc (.cells Sec.zero.A 50 (0, 0))).alloc (.cells (Sec.fill f b).A 50 (0, 0))) = .ok () (((w.alloc (.cells Sec.zero.A 50 (0, 0))).alloc (.cells (Sec.fill f b).A 50 (0, 0))).setRow w.heap.size (Sec.fill f b).A) := run_storeS_block (heap_alloc2_old w _ _) _
      have HR : Hid ((((w.alloc (.cells Sec.zero.A 50 (0, 0))).alloc (.cells (Sec.fill f b).A 50 (0, 0))).setRow w.heap.size (Sec.fill f b).A).heap[w.heap.size]? = some (.cells (Sec.fill f b).A 50 (0, 0))) := Lib.hid (setRow_heap _ _ _ _ _ _ (heap_alloc2_old w _ _))
      go_wp2
      exact bodyPost_ret (bodyRet_sec rfl rfl HR.out) rfl ⟨rfl, (((Kept.refl (fun k => k = w.heap.size) w).alloc _).alloc _).setRow _ rfl _ |>.toBelow (Nat.le_refl _) (fun k hk => by omega)⟩
/-- The block of a result, behind a call: it is written over. -/
theorem cell_block {w w1 : World} {n : Nat} (hb : Below n (w.alloc (.cells Sec.zero.A 50 (0, 0))) w1) (s : Sec) (hn : n = (w.alloc (.cells Sec.zero.A 50 (0, 0))).heap.size := by rfl) :
    (storeS (.pointer (some ⟨w.heap.size, 0, none⟩)) (.agg s.A)).run Try.prog w1 = .ok () (w1.setRow w.heap.size s.A) ∧ (w1.setRow w.heap.size s.A).heap[w.heap.size]? = some (.cells s.A 50 (0, 0)) ∧ Below w.heap.size w (w1.setRow w.heap.size s.A) := by
  subst hn
  have h0 : w1.heap[w.heap.size]? = some (.cells Sec.zero.A 50 (0, 0)) := (hb.block _ (by simp)).trans (heap_alloc_new w _)
  have hk : Kept (fun k => k = w.heap.size) w w1 := ((Kept.refl _ w).alloc _).below hb (by simp)
  exact ⟨run_storeS_block h0 s, setRow_heap _ _ _ _ _ _ h0, (hk.setRow _ rfl _).toBelow (Nat.le_refl _) (fun k hk => by omega)⟩
theorem ones_any (w : World) : Calls Try.prog 32 #[] w fun e w' => e = .returned (.agg (Sec.fill 1 1).A) ∧ Below w.heap.size w w' := by
  have ha := run_allocS
  have HC := Lib.hid (fun w => filled_any 1 1 w)
  go_enter Try.func32, Try.ntmps32
  go_wp2_with fail
  refine (HC.out _).mono ?_
  rintro e w1 ⟨rfl, hb⟩
  obtain ⟨h1, h2, h3⟩ := cell_block hb (Sec.fill 1 1)
  have H2 := Lib.hid h2
  have H3 := Lib.hid h3
  clear hb h2 h3
  go_wp2
  exact bodyPost_ret (bodyRet_sec rfl rfl H2.out) rfl ⟨rfl, H3.out⟩
theorem twos_any (w : World) : Calls Try.prog 36 #[] w fun e w' => e = .returned (.agg (Sec.fill 2 2).A) ∧ Below w.heap.size w w' := by
  have ha := run_allocS
  have HC := Lib.hid (fun w => filled_any 2 2 w)
  go_enter Try.func36, Try.ntmps36
  go_wp2_with fail
  refine (HC.out _).mono ?_
  rintro e w1 ⟨rfl, hb⟩
  obtain ⟨h1, h2, h3⟩ := cell_block hb (Sec.fill 2 2)
  have H2 := Lib.hid h2
  have H3 := Lib.hid h3
  clear hb h2 h3
  go_wp2
  exact bodyPost_ret (bodyRet_sec rfl rfl H2.out) rfl ⟨rfl, H3.out⟩
end Go.Proofs.Ytpboknepfjeljaa
