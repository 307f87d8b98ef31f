/- The reference's Filled; the law's ones and twos. -/
import Derived.Test.YtbaibmndmcdfdaaDoorDBase
namespace Go.Proofs.YtbaibmndmcdfdaaDoor.D
open Go.RowKit
attribute [local go_sem ↓] loadS_eq storeS_eq allocS_eq

def Sec.upd (s : Sec) (k : Nat) (b : UInt8) : Sec := ⟨s.l.set k b, by rw [List.length_set]; exact s.len⟩
theorem Sec.upd_A (s : Sec) (k : Nat) (b : UInt8) : s.A.setIfInBounds k (.int .u8 (b.toNat : Int)) = (s.upd k b).A := by
  simp [Sec.A, Sec.cs, Sec.upd, List.map_set]
/-- The first k bytes are b. -/
def Sec.part (b : UInt8) : Nat → Sec
  | 0 => Sec.zero
  | k + 1 => (Sec.part b k).upd k b
theorem Sec.part_get (b : UInt8) : ∀ (k i : Nat), i < 128 → (Sec.part b k).l[i]? = some (if i < k then b else 0)
  | 0, i, hi => by simp only [Sec.part, Sec.zero]; rw [List.getElem?_replicate, if_pos hi, if_neg (by omega)]
  | k + 1, i, hi => by
    have ih := Sec.part_get b k i hi
    simp only [Sec.part, Sec.upd]
    by_cases e : k = i
    · subst e
      rw [List.getElem?_set_self (by rw [(Sec.part b k).len]; exact hi), if_pos (by omega)]
    · rw [List.getElem?_set_ne e, ih]
      by_cases h : i < k
      · rw [if_pos h, if_pos (by omega)]
      · rw [if_neg h, if_neg (by omega)]
theorem Sec.fill_part (f b : UInt8) : (Sec.part b 128).upd 0 f = Sec.fill f b := by
  have : ((Sec.part b 128).upd 0 f).l = (Sec.fill f b).l := by
    apply List.ext_getElem?
    intro i
    by_cases hi : i < 128
    · simp only [Sec.upd, Sec.fill]
      cases i with
      | zero => rw [List.getElem?_set_self (by rw [(Sec.part b 128).len]; omega)]; rfl
      | succ j =>
        rw [List.getElem?_set_ne (by omega), Sec.part_get b 128 (j + 1) hi, if_pos hi, List.getElem?_cons_succ, List.getElem?_replicate, if_pos (by omega)]
    · rw [List.getElem?_eq_none (by rw [((Sec.part b 128).upd 0 f).len]; omega), List.getElem?_eq_none (by rw [(Sec.fill f b).len]; omega)]
  cases h1 : (Sec.part b 128).upd 0 f
  cases h2 : Sec.fill f b
  rw [h1, h2] at this
  cases this; rfl
theorem Sec.cell_at (s : Sec) (k : Nat) (hk : k < 128) : ∃ v, s.A[k]? = some v := ⟨_, Array.getElem?_eq_getElem (by rw [s.A_size]; exact hk)⟩

theorem bodyRet_sec {fn : Func} {p : Tmp} (h : fn.results = #[.cell p 27]) {tmps : Array Value} {w : World} {g : Nat} {s : Sec} (hp : tmps.getD p undef = .pointer (some ⟨g, 0, none⟩)) (hg : w.heap[g]? = some (.cells s.A 27 (0, 0))) :
    (results fn tmps).run Tryd.prog w = .ok (.agg s.A) w :=
  results_cell_row (P := Tryd.prog) h tmps w g 27 s.A (0, 0) _ hp hg Tryd.underlying27 rfl (by rw [szSec, s.A_size])

/-- The block of a result, behind a call: it is written over. -/
theorem cell_block {w w1 : World} {n : Nat} (hb : Below n (w.alloc (.cells Sec.zero.A 27 (0, 0))) w1) (s : Sec) (hn : n = (w.alloc (.cells Sec.zero.A 27 (0, 0))).heap.size := by rfl) :
    (storeS (.pointer (some ⟨w.heap.size, 0, none⟩)) (.agg s.A)).run Tryd.prog w1 = .ok () (w1.setRow w.heap.size s.A) ∧ (w1.setRow w.heap.size s.A).heap[w.heap.size]? = some (.cells s.A 27 (0, 0)) ∧ Below w.heap.size w (w1.setRow w.heap.size s.A) := by
  subst hn
  have h0 : w1.heap[w.heap.size]? = some (.cells Sec.zero.A 27 (0, 0)) := (hb.block _ (by simp)).trans (heap_alloc_new w _)
  have hk : Kept (fun k => k = w.heap.size) w w1 := ((Kept.refl _ w).alloc _).below hb (by simp)
  exact ⟨run_storeS_block h0 s, setRow_heap _ _ _ _ _ _ h0, (hk.setRow _ rfl _).toBelow (Nat.le_refl _) (fun k hk => by omega)⟩
end Go.Proofs.YtbaibmndmcdfdaaDoor.D
