/- pad: a name as an array. -/
import Derived.Test.YtbgfeonlnhlbfaaRange
import Derived.Lib.BufferWrite
import Derived.ChangeKeysEq
import Derived.Laws.Cells
import Derived.Laws.CopyOwn
namespace Go.Proofs.Ytbgfeonlnhlbfaa
open Go.RowKit

theorem addr_add (b o k : Nat) : (⟨b, o, none⟩ : Addr).add k = ⟨b, o + k, none⟩ := by
  simp only [Addr.add]; split
  · rename_i h; subst h; rfl
  · rfl
/-- A name's array. -/
def padV (l : Bs) : Value := .agg (Lib.byteCells (padL l)).toArray

def zero24 : Array Value := (List.replicate 24 (Value.int .u8 0)).toArray
/-- An array of 24 bytes in a block of its own. -/
def ArrAt (W : World) (b : Nat) (l : Bs) : Prop := W.heap[b]? = some (.cells (Lib.byteCells l).toArray 85 (0, 0))
theorem byteCells_app (a b : Bs) : Lib.byteCells (a ++ b) = Lib.byteCells a ++ Lib.byteCells b := by simp [Lib.byteCells]
theorem arr_info : (Try.prog.info? 85).map (·.size) = some 24 := by kernel_rfl
theorem arr_len {l : Bs} (h : l.length = 24) : (Lib.byteCells l).length = 24 := by rw [Lib.byteCells_length, h]
theorem loadVar_arr {w : World} {b : Nat} {l : Bs} (hl : l.length = 24) (h : ArrAt w b l) : Sem.run Try.prog (loadVar 85 ⟨b, 0, none⟩) w = .ok (.agg (Lib.byteCells l).toArray) w := by
  have hl' := arr_len hl
  have hl2 : (loadCells ⟨b, 0, none⟩ 24).run Try.prog w = .ok ((List.range 24).map fun j => (Lib.byteCells l).getD j default).toArray w :=
    run_loadCells (P := Try.prog) w ⟨b, 0, none⟩ 24 (fun k => (Lib.byteCells l).getD k default) (fun j hj => by
      rw [addr_add, Nat.zero_add]
      have := Lib.cell_of_heap h j
      rw [this]; simp [List.getD, List.getElem?_eq_getElem (show j < (Lib.byteCells l).length by omega)])
  have he : ((List.range 24).map fun j => (Lib.byteCells l).getD j default) = Lib.byteCells l := by
    apply List.ext_getElem
    · simp [hl']
    · intro j h1 h2; simp [List.getD, List.getElem?_eq_getElem h2]
  rw [he] at hl2
  have hu : Try.prog.underlying 85 = some (.array 24 5) := Try.underlying85
  cases hq : Try.prog.info? 85 with
  | none => have := arr_info; simp [hq] at this
  | some i =>
    have hs : i.size = 24 := by have := arr_info; simpa [hq] using this
    have hagg : (isAgg 85).run Try.prog w = .ok true w := by
      unfold isAgg
      rw [Sem.run_bind, run_underlying hu w]
      simp
    simp [loadVar, Sem.run_bind, hagg, sizeOf, typeInfo, hq, hs, hl2]
theorem load_arr {w : World} {b : Nat} {l : Bs} (hl : l.length = 24) (h : ArrAt w b l) : Sem.run Try.prog (Instr.loadAt 85 (.pointer (some ⟨b, 0, none⟩))) w = .ok (.agg (Lib.byteCells l).toArray) w := by
  simp [Instr.loadAt, Instr.sureAddr, Sem.run_bind, loadVar_arr hl h]
noncomputable def loadX (x : Value) : Sem Value := Instr.loadAt 85 x
theorem loadX_eq (x : Value) : Instr.loadAt 85 x = loadX x := rfl
attribute [local go_sem ↓] loadX_eq

theorem pad_row (s : ByteArray) (hs : s.size ≤ 24) : (zero24.toList.take 0 ++ Lib.byteCells s.data.toList ++ zero24.toList.drop (0 + s.size)) = Lib.byteCells (padL s.data.toList) := by
  unfold padL zero24
  rw [byteCells_app, size_len, List.take_zero, List.nil_append, Nat.zero_add, List.drop_replicate]
  simp [Lib.byteCells]

set_option maxHeartbeats 1000000 in
set_option maxRecDepth 100000 in
theorem pad_any (s : ByteArray) (w : World) (hs : s.size ≤ 24) :
    Calls Try.prog 70 #[.string s] w fun e w' => e = .returned (padV s.data.toList) ∧ Below w.heap.size w w' := by
  obtain ⟨W2, hW2⟩ : ∃ W2, (w.alloc (.cells zero24 85)).alloc (.cells zero24 85) = W2 := ⟨_, rfl⟩
  have h1 : W2.heap[w.heap.size + 1]? = some (.cells zero24 85 (0, 0)) := by
    rw [← hW2]; have := World.alloc_heap_new (w.alloc (.cells zero24 85)) (.cells zero24 85); rwa [World.size_alloc] at this
  have h0 : W2.heap[w.heap.size]? = some (.cells zero24 85 (0, 0)) := by
    rw [← hW2, Below.heap_alloc _ _ _ (by simp)]; exact World.alloc_heap_new w _
  have hb2 : Below w.heap.size w W2 := by rw [← hW2]; exact ((Below.refl _ w).alloc (Nat.le_refl _) _).alloc (by simp) _
  unfold zero24 at hW2
  simp only [List.replicate] at hW2
  go_enter Try.func70, Try.ntmps70
  go_wp2
  rw [Lib.run_copy_row_string W2 _ _ _ 5 (w.heap.size + 1) 0 24 24 s zero24 _ Try.underlying62 (by kernel_rfl) h1 hs (by simp [zero24]; omega), pad_row s hs]
  simp only [Result.andThen]
  rw [Oper.upon_value]
  have hpl : (padL s.data.toList).length = 24 := padL_len (by rw [size_len]; exact hs)
  have hlen := arr_len hpl
  have h3 : ArrAt (W2.setRow (w.heap.size + 1) (Lib.byteCells (padL s.data.toList)).toArray) (w.heap.size + 1) (padL s.data.toList) := setRow_heap W2 _ _ _ _ _ h1
  have h4 := (setRow_other W2 (w.heap.size + 1) w.heap.size (Lib.byteCells (padL s.data.toList)).toArray (by omega)).trans h0
  have hb3 : Below w.heap.size w (W2.setRow (w.heap.size + 1) (Lib.byteCells (padL s.data.toList)).toArray) := below_setRow hb2 (by omega) _
  have hl := load_arr hpl h3
  obtain ⟨W3, hW3⟩ : ∃ W3, W2.setRow (w.heap.size + 1) (Lib.byteCells (padL s.data.toList)).toArray = W3 := ⟨_, rfl⟩
  rw [hW3] at h3 hl h4 hb3 ⊢
  rw [loadX_eq] at hl
  clear hW2
  have hst := run_storeCells_at Try.prog w.heap.size 0 85 (Lib.byteCells (padL s.data.toList)) 0 zero24 W3 h4 (by rw [hlen]; simp [zero24]) (Lib.byteCells_one _)
  have e5 : (zero24.toList.take 0 ++ Lib.byteCells (padL s.data.toList) ++ zero24.toList.drop (0 + (Lib.byteCells (padL s.data.toList)).length)) = Lib.byteCells (padL s.data.toList) := by
    rw [hlen]; simp [zero24]
  simp only [Nat.add_zero] at hst
  rw [e5] at hst
  have h5 : ArrAt (W3.setRow w.heap.size (Lib.byteCells (padL s.data.toList)).toArray) w.heap.size (padL s.data.toList) := setRow_heap W3 _ _ _ _ _ h4
  have hb5 : Below w.heap.size w (W3.setRow w.heap.size (Lib.byteCells (padL s.data.toList)).toArray) := below_setRow hb3 (Nat.le_refl _) _
  obtain ⟨W5, hW5⟩ : ∃ W5, W3.setRow w.heap.size (Lib.byteCells (padL s.data.toList)).toArray = W5 := ⟨_, rfl⟩
  rw [hW5] at hst h5 hb5
  go_wp2
  refine bodyPost_ret (v := padV s.data.toList) ?_ rfl ⟨rfl, hb5⟩
  have hv5 := loadVar_arr hpl h5
  unfold results
  rw [Try.results70]
  simp [asAddr, hv5, padV]
end Go.Proofs.Ytbgfeonlnhlbfaa
