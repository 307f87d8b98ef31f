/- The bitmap as an array of its own: has; plain values of Decode. -/
import Derived.Test.YtkknelcolbdphaaEnc
namespace Go.Proofs.Ytkknelcolbdphaa
open Go.RowKit
set_option maxRecDepth 100000

/-! ### plain -/
/-- Among the first k bits one is 1 that is none of the n blocks. -/
def badN (b : List UInt8) (n k : Nat) : Bool := (List.range k).any fun i => decide (n ≤ i) && bitB b i
theorem badN_succ (b : List UInt8) (n k : Nat) : badN b n (k + 1) = (badN b n k || (decide (n ≤ k) && bitB b k)) := by
  unfold badN
  rw [List.range_succ, List.any_append]
  simp
theorem badN_mono {b : List UInt8} {n k : Nat} (h : badN b n k = true) : ∀ m, k ≤ m → badN b n m = true := by
  intro m hm
  obtain ⟨d, rfl⟩ := Nat.exists_eq_add_of_le hm
  induction d with
  | zero => exact h
  | succ d ih => rw [← Nat.add_assoc, badN_succ, ih (by omega)]; rfl
def decE (l : Lay) (b : List UInt8) : Int := if regE l = 0 then (if b.length = 96 then (if badN b (blkN l).toNat 768 then 6 else 0) else 3) else regE l
def decU (l : Lay) (b : List UInt8) : List Bool := if decE l b = 0 then bitsN b (blkN l).toNat else []
def decL (l : Lay) (b : List UInt8) : Lay := if decE l b = 0 then l else ⟨0, 0, 0⟩
theorem bitsK_false (b : List UInt8) (n k : Nat) (h : bitB b k = false) : bitsK b n (k + 1) = bitsK b n k := by
  rw [← bitsK_step, h]
  apply list_ext (by rw [List.length_set])
  intro i hi
  rw [List.length_set, bitsK_len] at hi
  by_cases hk : k < n
  · rw [getD_set _ _ _ _ _ (by rw [bitsK_len]; exact hk)]
    by_cases e : i = k
    · rw [if_pos e, e, bitsK_get]; simp
    · rw [if_neg e]
  · rw [List.set_eq_of_length_le (by rw [bitsK_len]; omega)]
theorem bitsK_out (b : List UInt8) (n k : Nat) (h : n ≤ k) : bitsK b n k = bitsN b n := by
  apply list_ext (by rw [bitsK_len, bitsN_len])
  intro i hi
  rw [bitsK_len] at hi
  rw [bitsK_get, bitsN_get, decide_eq_true (show i < k by omega)]; simp
theorem bit8 (c i : Nat) (hc : c < 256) : (bits BinOp.and IntKind.u8 ((c : Int) / 2 ^ i) 1 == 1) = c.testBit i := by
  have hd : c / 2 ^ i < 256 := Nat.lt_of_le_of_lt (Nat.div_le_self _ _) hc
  have e : ((c : Int) / 2 ^ i) = ((c / 2 ^ i : Nat) : Int) := by simp
  have e2 : bits BinOp.and IntKind.u8 ((c / 2 ^ i : Nat) : Int) ((1 : Nat) : Int) = _ := u8_and_nat _ 1 hd (by omega)
  rw [e, show (1 : Int) = ((1 : Nat) : Int) from rfl, e2, Nat.testBit, Nat.shiftRight_eq_div_pow, Nat.and_comm, Nat.one_and_eq_mod_two, Bool.eq_iff_iff, beq_iff_eq]
  simp
  omega
theorem bit8m (c i : Nat) : (((c : Int) / 2 ^ i) % 2 == 1) = c.testBit i := by
  have e : ((c : Int) / 2 ^ i) = ((c / 2 ^ i : Nat) : Int) := by simp
  rw [e, Nat.testBit, Nat.shiftRight_eq_div_pow, Nat.one_and_eq_mod_two, Bool.eq_iff_iff, beq_iff_eq]
  simp
  omega
theorem bitB_at (b : List UInt8) (i : Nat) (h : i / 8 < b.length) : bitB b i = (b[i / 8].toNat).testBit (i % 8) := by
  unfold bitB
  rw [List.getD_eq_getElem?_getD, List.getElem?_eq_getElem h]; rfl

/-! ### the array -/
def arA (b : List UInt8) : Array Value := (b.map byV).toArray
theorem ar_cell {w : World} {g T : Nat} {b : List UInt8} (h : Row w g (arA b) T) (j : Nat) (hj : j < b.length) : w.cell? ⟨g, j, none⟩ = some (.int .u8 (b[j].toNat : Int)) := by
  refine h.cell j _ ?_
  unfold arA
  rw [List.getElem?_toArray, List.getElem?_map, List.getElem?_eq_getElem hj]; rfl
/-! ### whole arrays -/
theorem load_at {T sz : Nat} {w : World} (hagg : (isAgg T).run Try.prog w = .ok true w) (hsz : (Try.prog.info? T).map (·.size) = some sz) {g o : Nat} {cs : List Value} (hl : cs.length = sz)
    (h : ∀ j u, cs[j]? = some u → w.cell? ⟨g, o + j, none⟩ = some u) : (Instr.loadAt T (.pointer (some ⟨g, o, none⟩))).run Try.prog w = .ok (.agg cs.toArray) w := by
  have hc : (loadCells ⟨g, o, none⟩ cs.length).run Try.prog w = .ok cs.toArray w := run_loadCells_list (P := Try.prog) w ⟨g, o, none⟩ cs (fun j v hv => by rw [addr_add0]; exact h j v hv)
  cases hq : Try.prog.info? T with
  | none => simp [hq] at hsz
  | some i =>
    have hs : i.size = sz := by simpa [hq] using hsz
    subst hs
    rw [hl] at hc
    simp [Instr.loadAt, Instr.sureAddr, loadVar, Sem.run_bind, hagg, sizeOf, typeInfo, hq, hc]
theorem store_at {T T' sz : Nat} {w : World} (hsz : (Try.prog.info? T).map (·.size) = some sz) {g o : Nat} {cs : List Value} {cur : Array Value} (hl : cs.length = sz) (hg : w.heap[g]? = some (.cells cur T' (0, 0)))
    (hfit : o + sz ≤ cur.size) (h1 : ∀ v ∈ cs, v.oneCell' = true) : (Instr.storeAt T (.pointer (some ⟨g, o, none⟩)) (.agg cs.toArray)).run Try.prog w = .ok () (w.setRow g (cur.toList.take o ++ cs ++ cur.toList.drop (o + sz)).toArray) := by
  have hst := run_storeCells_at Try.prog g o T' cs 0 cur w hg (by rw [hl]; omega) h1
  cases hq : Try.prog.info? T with
  | none => simp [hq] at hsz
  | some i =>
    have hs : i.size = sz := by simpa [hq] using hsz
    simp only [Nat.add_zero, hl] at hst
    simp [Instr.storeAt, Instr.sureAddr, storeVar, Sem.run_bind, sizeOf, typeInfo, hq, hs, hst, Value.cells, hl]
theorem setRow_alloc (w : World) (Z cs : Array Value) (T : TypeId) : (w.alloc (.cells Z T (0, 0))).setRow w.heap.size cs = w.alloc (.cells cs T (0, 0)) := by
  have h : (w.heap.push (.cells Z T (0, 0))).modify w.heap.size (fun | .cells _ elem frozen => .cells cs elem frozen | o => o) = w.heap.push (.cells cs T (0, 0)) := by
    apply Array.ext
    · simp
    · intro i h1 h2
      rw [Array.getElem_modify]
      by_cases e : w.heap.size = i
      · subst e; simp
      · rw [if_neg e]
        simp only [Array.size_modify, Array.size_push] at h1
        rw [Array.getElem_push_lt (by omega), Array.getElem_push_lt (by omega)]
  show ({ w.alloc (.cells Z T (0, 0)) with heap := _ } : World) = { w with heap := _ }
  rw [← h]; rfl
theorem aggBm (w : World) : (isAgg 72).run Try.prog w = .ok true w := by
  have hu : Try.prog.underlying 72 = some (.array 96 5) := Try.underlying72
  unfold isAgg; rw [Sem.run_bind, run_underlying hu w]; simp
theorem szBm : (Try.prog.info? 72).map (·.size) = some 96 := by kernel_rfl
noncomputable def loadM (x : Value) : Sem Value := Instr.loadAt 72 x
theorem loadM_eq (x : Value) : Instr.loadAt 72 x = loadM x := rfl
noncomputable def storeM (x v : Value) : Sem Unit := Instr.storeAt 72 x v
theorem storeM_eq (x v : Value) : Instr.storeAt 72 x v = storeM x v := rfl
theorem run_loadM {w : World} {g o : Nat} {b : List UInt8} (hb : b.length = 96) (h : ∀ k (h : k < b.length), w.cell? ⟨g, o + k, none⟩ = some (byV b[k])) : (loadM (.pointer (some ⟨g, o, none⟩))).run Try.prog w = .ok (.agg (arA b)) w :=
  load_at (aggBm w) szBm (cs := b.map byV) (by rw [List.length_map]; exact hb) (fun j u hj => by
    have hjl : j < b.length := by
      rcases Nat.lt_or_ge j b.length with hh | hh
      · exact hh
      · rw [List.getElem?_eq_none (by rw [List.length_map]; exact hh)] at hj; cases hj
    rw [h j hjl]
    rw [List.getElem?_map, List.getElem?_eq_getElem hjl] at hj
    exact hj)
theorem run_storeM_new (w : World) (b : List UInt8) (hb : b.length = 96) (T : TypeId) : (storeM (.pointer (some ⟨w.heap.size, 0, none⟩)) (.agg (arA b))).run Try.prog (w.alloc (.cells (bmA [] 0) T (0, 0))) = .ok () (w.alloc (.cells (arA b) T (0, 0))) := by
  have h := store_at (T := 72) (w := w.alloc (.cells (bmA [] 0) T (0, 0))) szBm (g := w.heap.size) (o := 0) (cs := b.map byV) (by rw [List.length_map]; exact hb) (heap_alloc_new w _) (by rw [bmA_size]; omega) (by intro v hv; obtain ⟨_, _, rfl⟩ := List.mem_map.1 hv; rfl)
  rw [setRow_alloc] at h
  have e : ((bmA [] 0).toList.take 0 ++ b.map byV ++ (bmA [] 0).toList.drop (0 + 96)).toArray = arA b := by
    have : (bmA [] 0).toList.drop (0 + 96) = [] := List.drop_eq_nil_of_le (by have := bmA_size [] 0; rw [Array.length_toList]; omega)
    rw [this]; simp [arA]
  rw [e] at h
  exact h
set_option maxHeartbeats 1000000 in
theorem has_any {w : World} {g : Nat} {b : List UInt8} (i : Nat) (h : Row w g (arA b) 72) (hb : b.length = 96) (hi : i < 768) :
    Calls Try.prog 49 #[.pointer (some ⟨g, 0, none⟩), .int .i64 (i : Int)] w fun e w' => e = .returned (.bool (bitB b i)) ∧ w = w' := by
  have hj : i / 8 < b.length := by omega
  have hc := ar_cell h (i / 8) hj
  have HB := Lib.hid (bitB_at b i hj)
  have hlt := b[i / 8].toNat_lt
  have hk : i / 8 < 96 := by omega
  generalize b[i / 8].toNat = x at *
  have HX := Lib.hid (bit8 x (i % 8) (by omega))
  obtain ⟨y, hy⟩ : ∃ y, bits BinOp.and IntKind.u8 ((x : Int) / 2 ^ (i % 8)) 1 = y := ⟨_, rfl⟩
  have HY : Hid ((y == 1) = bitB b i) := Lib.hid (by rw [HB.out, ← HX.out, hy])
  clear h hb
  go_enter Try.func49, Try.ntmps49
  go_wp2
  go_ret
  exact ⟨ret_bool HY.out, rfl⟩
end Go.Proofs.Ytkknelcolbdphaa
