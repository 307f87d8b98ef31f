/- Matrices: of, after, identity, zeroByte, zeroBytes; Zeros, Combine; the reference's. -/
import Derived.Test.YtadaohjphgpdnaaDoorCrc
import Derived.Laws.Cells
namespace Go.Proofs.YtadaohjphgpdnaaDoor
open Go.RowKit

/-- The cells of an array of 32 registers. -/
def matF (f : Nat → Nat) : Array Value := ((List.range 32).map fun i => Value.int .u32 (f i : Nat)).toArray
/-- The matrix of n steps. -/
def matA (n : Nat) : Array Value := matF fun i => halfN n (2 ^ i)
theorem matF_congr {f g : Nat → Nat} (h : ∀ i, i < 32 → f i = g i) : matF f = matF g := by
  unfold matF; congr 1; apply List.map_congr_left; intro i hi; rw [h i (by simpa using hi)]
theorem matF_at (f : Nat → Nat) (j : Nat) (h : j < 32) : (matF f)[j]? = some (.int .u32 (f j : Nat)) := by unfold matF; simp [h]
theorem matF_size (f : Nat → Nat) : (matF f).size = 32 := by simp [matF]
theorem matF_set (f : Nat → Nat) (j x : Nat) : (matF f).setIfInBounds j (.int .u32 (x : Nat)) = matF fun i => if i = j then x else f i := by
  apply Array.ext_getElem?
  intro i
  rw [Array.getElem?_setIfInBounds, matF_size]
  by_cases hi : i < 32
  · rw [matF_at (fun i => if i = j then x else f i) i hi]
    by_cases e : j = i
    · subst e; simp [hi]
    · rw [if_neg e, matF_at _ i hi, if_neg (fun h => e h.symm)]
  · have h1 : (matF f)[i]? = none := by rw [Array.getElem?_eq_none]; rw [matF_size]; omega
    have h2 : (matF fun i => if i = j then x else f i)[i]? = none := by rw [Array.getElem?_eq_none]; rw [matF_size]; omega
    rw [h1, h2]
    by_cases e : j = i
    · subst e; rw [if_pos rfl, if_neg hi]
    · rw [if_neg e]
theorem pow_lt32 (i : Nat) (h : i < 32) : (2 : Nat) ^ i < 4294967296 := by
  have : (2 : Nat) ^ i < 2 ^ 32 := Nat.pow_lt_pow_right (by omega) h
  omega
/-- The array of f lies in block b. -/
def MatAt (w : World) (b : Nat) (f : Nat → Nat) : Prop := ∃ t, w.heap[b]? = some (.cells (matF f) t (0, 0))
theorem MatAt.cell {w : World} {b : Nat} {f : Nat → Nat} (h : MatAt w b f) (j : Nat) (hj : j < 32) : w.cell? ⟨b, j, none⟩ = some (.int .u32 (f j : Nat)) := by
  obtain ⟨t, h⟩ := h; unfold World.cell?; rw [h]; simpa using matF_at f j hj
theorem MatAt.lt {w : World} {b : Nat} {f : Nat → Nat} (h : MatAt w b f) : b < w.heap.size := by obtain ⟨t, h⟩ := h; exact (Array.getElem?_eq_some_iff.1 h).1
theorem MatAt.frozen {w : World} {b : Nat} {f : Nat → Nat} (h : MatAt w b f) (j : Nat) : w.frozen? ⟨b, j, none⟩ = false := by
  obtain ⟨t, h⟩ := h; unfold World.frozen?; rw [h]; simp
theorem MatAt.below {n : Nat} {A B : World} {b : Nat} {f : Nat → Nat} (h : MatAt A b f) (hk : Below n A B) (hb : b < n) : MatAt B b f := by obtain ⟨t, h⟩ := h; exact ⟨t, (hk.block b hb).trans h⟩
theorem MatAt.put {A B : World} {b j x : Nat} {f : Nat → Nat} (h : MatAt A b f) (hk : Put b j (.int .u32 (x : Nat)) A B) : MatAt B b (fun i => if i = j then x else f i) := by
  obtain ⟨t, h⟩ := h; exact ⟨t, by rw [hk.block h, matF_set]⟩

noncomputable def loadX (x : Value) : Sem Value := Instr.loadAt 60 x
theorem loadX_eq (x : Value) : Instr.loadAt 60 x = loadX x := rfl
noncomputable def idxX (x i : Value) : Sem Value := Instr.index 60 x i
theorem idxX_eq (x i : Value) : Instr.index 60 x i = idxX x i := rfl
noncomputable def storeX (x i : Value) : Sem Unit := Instr.storeAt 60 x i
theorem storeX_eq (x i : Value) : Instr.storeAt 60 x i = storeX x i := rfl

theorem loadX_run {w : World} {b : Nat} {f : Nat → Nat} (h : MatAt w b f) : Sem.run Tryd.prog (loadX (.pointer (some ⟨b, 0, none⟩))) w = .ok (.agg (matF f)) w := by
  have hl : (loadCells ⟨b, 0, none⟩ 32).run Tryd.prog w = .ok (matF f) w :=
    run_loadCells (P := Tryd.prog) w ⟨b, 0, none⟩ 32 (fun k => .int .u32 (f k : Nat)) (fun j hj => by rw [addr_add, Nat.zero_add]; exact h.cell j hj)
  have hi : (Tryd.prog.info? 60).map (·.size) = some 32 := by kernel_rfl
  have hu : Tryd.prog.underlying 60 = some (.array 32 53) := Tryd.underlying60
  cases hq : Tryd.prog.info? 60 with
  | none => simp [hq] at hi
  | some i =>
    have hs : i.size = 32 := by simpa [hq] using hi
    have hagg : (isAgg 60).run Tryd.prog w = .ok true w := by
      unfold isAgg
      rw [Sem.run_bind, run_underlying hu w]
      simp
    simp [loadX, Instr.loadAt, Instr.sureAddr, loadVar, Sem.run_bind, hagg, sizeOf, typeInfo, hq, hs, hl]
theorem idxX_run (w : World) (f : Nat → Nat) (k : Nat) (h : k < 32) : Sem.run Tryd.prog (idxX (.agg (matF f)) (.int .i64 k)) w = .ok (.int .u32 (f k : Nat)) w := by
  have hu : Tryd.prog.underlying 60 = some (.array 32 53) := Tryd.underlying60
  have he : Tryd.prog.underlying 53 = some (.int .u32) := Tryd.underlying53
  have hs : (Tryd.prog.info? 53).map (·.size) = some 1 := by kernel_rfl
  have hp : (part 53 (matF f) k).run Tryd.prog w = .ok (.int .u32 (f k : Nat)) w := by
    simp [part, isAgg, run_underlying he, matF_at f k h]
  unfold idxX Instr.index
  simp [run_underlying hu, asIntOf, hp, h]
theorem storeX_run {w : World} {b : Nat} {f g : Nat → Nat} (h : MatAt w b f) : ∃ w', Sem.run Tryd.prog (storeX (.pointer (some ⟨b, 0, none⟩)) (.agg (matF g))) w = .ok () w' ∧ MatAt w' b g ∧ Below b w w' ∧ w'.heap.size = w.heap.size ∧ (∀ k, k ≠ b → w'.heap[k]? = w.heap[k]?) := by
  obtain ⟨t, h⟩ := h
  have hst := run_storeCells_at (P := Tryd.prog) b 0 t (matF g).toList 0 (matF f) w h (by simp [matF_size]) (by intro v hv; simp [matF] at hv; obtain ⟨i, _, rfl⟩ := hv; rfl)
  refine ⟨w.setRow b (matF g), ?_, ⟨t, setRow_heap w b _ _ t _ h⟩, ⟨rfl, rfl, rfl, by simp, fun k hk => setRow_other w b k _ (by omega)⟩, by simp, fun k hk => setRow_other w b k _ hk⟩
  have e : (Value.agg (matF g)).cells = matF g := rfl
  have e2 : (List.take (0 + 0) (matF f).toList ++ (matF g).toList ++ List.drop (0 + 0 + (matF g).toList.length) (matF f).toList).toArray = matF g := by
    apply Array.ext'
    simp [matF_size]
  rw [e2] at hst
  simp [storeX, Instr.storeAt, storeVar, Instr.sureAddr, Sem.run_bind, e, matF_size, hst]

attribute [local go_sem ↓] loadX_eq idxX_eq storeX_eq

theorem and1 (a : Nat) (ha : a < 4294967296) : bits .and .u32 (a : Int) 1 = ((a % 2 : Nat) : Int) := by
  show IntKind.u32.wrap ((BitVec.ofInt 32 (a : Int) &&& BitVec.ofInt 32 ((1 : Nat) : Int)).toNat : Int) = _
  rw [BitVec.toNat_and, u32_of_nat a ha, u32_of_nat 1 (by omega), IntKind.wrap_u32, Nat.and_comm, Nat.one_and_eq_mod_two]
  omega
theorem bit_test (r k : Nat) (hr : r < 4294967296) : (bits .and .u32 ((r : Int) / 2 ^ k) 1 == 1) = decide (r / 2 ^ k % 2 = 1) := by
  have e : ((r : Int) / 2 ^ k) = ((r / 2 ^ k : Nat) : Int) := by simp
  rw [e, and1 _ (Nat.lt_of_le_of_lt (Nat.div_le_self _ _) hr), Bool.eq_iff_iff, beq_iff_eq, decide_eq_true_eq]
  omega

set_option maxHeartbeats 400000 in
theorem of_any (n r : Nat) (w : World) (hr : r < 4294967296) :
    Calls Tryd.prog 39 #[.agg (matA n), .int .u32 r] w fun e w' => e = .returned (.int .u32 (halfN n r : Nat)) ∧ Below w.heap.size w w' := by
  have hl : Sem.run Tryd.prog (loadX (.pointer (some ⟨w.heap.size, 0, none⟩))) (w.alloc (.cells (matA n) 60)) = .ok (.agg (matA n)) (w.alloc (.cells (matA n) 60)) := loadX_run ⟨_, heap_alloc_new w _⟩
  have HB := Lib.hid ((Below.refl w.heap.size w).alloc (Nat.le_refl _) (.cells (matA n) 60))
  go_enter Tryd.func39, Tryd.ntmps39
  go_wp2_with fail
  go_loop [5, 9] (fun m i => ∃ k : Nat, k ≤ 32 ∧ i = .int .i64 k ∧ m = .int .u32 (halfN n (r % 2 ^ k) : Nat)) (fun _ i => 32 - (intOf i).toNat)
  case atStart => exact ⟨0, by omega, rfl, by simp [Nat.mod_one, halfN_zero]⟩
  case round =>
    obtain ⟨k, hk, rfl, rfl⟩ := hrel
    clear hl
    by_cases hlt : k < 32
    · have hi : ∀ W, Sem.run Tryd.prog (idxX (.agg (matA n)) (.int .i64 k)) W = .ok (.int .u32 (halfN n (2 ^ k) : Nat)) W := fun W => idxX_run W _ k hlt
      have hb := bit_test r k hr
      by_cases hp : r / 2 ^ k % 2 = 1
      · rw [decide_eq_true hp] at hb
        have HS := Lib.hid (show halfN n (r % 2 ^ (k + 1)) = halfN n (r % 2 ^ k) ^^^ halfN n (2 ^ k) by rw [pat_succ, if_pos hp, halfN_xor, Nat.xor_comm])
        have hx : bits .xor .u32 (halfN n (r % 2 ^ k) : Nat) (halfN n (2 ^ k) : Nat) = ((halfN n (r % 2 ^ k) ^^^ halfN n (2 ^ k) : Nat) : Int) := xor32 _ _ (halfN_lt (Nat.lt_of_le_of_lt (Nat.mod_le _ _) hr)) (halfN_lt (pow_lt32 k hlt))
        clear hp
        go_wp2_with fail
        go_round
        case rel => exact ⟨k + 1, by omega, by go_num, by rw [HS.out]⟩
        case measure => simp [intOf]; omega
      · rw [decide_eq_false hp] at hb
        have HS := Lib.hid (show halfN n (r % 2 ^ (k + 1)) = halfN n (r % 2 ^ k) by rw [pat_succ, if_neg hp, Nat.zero_xor])
        clear hp
        go_wp2_with fail
        go_round
        case rel => exact ⟨k + 1, by omega, by go_num, by rw [HS.out]⟩
        case measure => simp [intOf]; omega
    · obtain rfl : k = 32 := by omega
      have HS := Lib.hid (show halfN n (r % 2 ^ 32) = halfN n r by rw [Nat.mod_eq_of_lt (by omega)])
      go_wp2_with fail
      go_ret
      exact ⟨by rw [← HS.out]; rfl, HB.out⟩

/-- The result of a function that returns an array. -/
theorem ret_mat {fn : Func} {p : Tmp} (h : fn.results = #[.cell p 60]) {R : Ending → World → Prop} {a : Act} {w : World} {g : Nat} {f : Nat → Nat} (hd : a.defers = []) (hp : a.tmps.getD p undef = .pointer (some ⟨g, 0, none⟩)) (hg : MatAt w g f) (hR : R (.returned (.agg (matF f))) w) : bodyPost Tryd.prog fn R .ret a w := by
  obtain ⟨t, hg⟩ := hg
  exact bodyPost_ret (results_cell_row h a.tmps w g t (matF f) (0, 0) _ hp hg Tryd.underlying60 rfl (by rw [matF_size]; kernel_rfl)) hd hR

/-- While after goes on: the first j columns are done. -/
def aft (n m j : Nat) : Nat → Nat := fun i => if i < j then halfN (n + m) (2 ^ i) else halfN m (2 ^ i)
theorem aft_zero (n m : Nat) : matF (aft n m 0) = matA m := matF_congr fun i _ => by unfold aft; rw [if_neg (by omega)]
theorem aft_succ (n m j : Nat) : matF (fun i => if i = j then halfN n (halfN m (2 ^ j)) else aft n m j i) = matF (aft n m (j + 1)) := matF_congr fun i _ => by
  unfold aft
  by_cases e : i = j
  · subst e; rw [if_pos rfl, if_pos (by omega), halfN_add]
  · rw [if_neg e]
    by_cases h : i < j
    · rw [if_pos h, if_pos (by omega)]
    · rw [if_neg h, if_neg (by omega)]
theorem aft_all (n m : Nat) : matF (aft n m 32) = matA (n + m) := matF_congr fun i h => by unfold aft; rw [if_pos h]

theorem zeroMat (w : World) : Sem.run Tryd.prog (zeroValue 60) w = .ok (.agg (matF fun _ => 0)) w := by kernel_rfl
theorem alloc_mat (w : World) (f : Nat → Nat) (t : TypeId) (k : Nat) (h : w.heap.size = k) : MatAt (w.alloc (.cells (matF f) t)) k f := ⟨t, by subst h; exact heap_alloc_new w _⟩
theorem alloc_matA (w : World) (n : Nat) (t : TypeId) (k : Nat) (h : w.heap.size = k) : MatAt (w.alloc (.cells (matA n) t)) k (fun i => halfN n (2 ^ i)) := alloc_mat w _ t k h
theorem MatAt.alloc {w : World} {b : Nat} {f : Nat → Nat} (h : MatAt w b f) (o : Obj) : MatAt (w.alloc o) b f := by
  obtain ⟨t, h'⟩ := h; exact ⟨t, (Below.heap_alloc w o _ (MatAt.lt ⟨t, h'⟩)).trans h'⟩
theorem matF_of {f g : Nat → Nat} {w : World} {b : Nat} (h : MatAt w b f) (e : matF f = matF g) : MatAt w b g := by obtain ⟨t, h⟩ := h; exact ⟨t, by rw [h, e]⟩

set_option maxHeartbeats 400000 in
theorem after_any (n m : Nat) (w : World) :
    Calls Tryd.prog 51 #[.agg (matA n), .agg (matA m)] w fun e w' => e = .returned (.agg (matA (n + m))) ∧ Below w.heap.size w w' := by
  have hz := zeroMat
  obtain ⟨W1, hW1⟩ : ∃ W1, W1 = ((w.alloc (.cells (matA n) 60)).alloc (.cells (matA m) 60)).alloc (.cells (matF fun _ => 0) 60) := ⟨_, rfl⟩
  have hm1 : MatAt W1 w.heap.size (fun i => halfN n (2 ^ i)) := by rw [hW1]; exact ((alloc_matA w n _ _ rfl).alloc _).alloc _
  have hm2 : MatAt W1 (w.heap.size + 1) (fun i => halfN m (2 ^ i)) := by rw [hW1]; exact (alloc_matA _ m _ _ (by simp)).alloc _
  have hm3 : MatAt W1 (w.heap.size + 1 + 1) (fun _ => 0) := by rw [hW1]; exact alloc_mat _ _ _ _ (by simp)
  have hl : Sem.run Tryd.prog (loadX (.pointer (some ⟨w.heap.size + 1, 0, none⟩))) (((w.alloc (.cells (matA n) 60)).alloc (.cells (matA m) 60)).alloc (.cells (matF fun _ => 0) 60)) = .ok (.agg (matA m)) (((w.alloc (.cells (matA n) 60)).alloc (.cells (matA m) 60)).alloc (.cells (matF fun _ => 0) 60)) := by
    rw [← hW1]; exact loadX_run hm2
  have HB := Lib.hid (show Below w.heap.size w W1 by rw [hW1]; exact (((Below.refl w.heap.size w).alloc (Nat.le_refl _) _).alloc (by simp) _).alloc (by simp; omega) _)
  have HM1 := Lib.hid hm1
  have HM2 := Lib.hid (matF_of hm2 (aft_zero n m).symm)
  have HM3 := Lib.hid hm3
  clear hm1 hm2 hm3
  have HW := Lib.hid hW1
  have hs1 : w.heap.size + 1 + 1 < W1.heap.size := HM3.out.lt
  clear hW1
  go_enter Tryd.func51, Tryd.ntmps51
  go_wp2_with fail
  rw [← HW.out]
  go_loopw [8] (fun i wr => ∃ k : Nat, k ≤ 32 ∧ i = .int .i64 k ∧ Hid (MatAt wr w.heap.size (fun i => halfN n (2 ^ i))) ∧ Hid (MatAt wr (w.heap.size + 1) (aft n m k)) ∧ Hid (MatAt wr (w.heap.size + 1 + 1) (fun _ => 0)) ∧ Hid (Below w.heap.size w wr)) (fun i _ => 32 - (intOf i).toNat)
  case atStart => exact ⟨0, by omega, rfl, HM1, HM2, HM3, HB⟩
  case round =>
    obtain ⟨k, hk, rfl, m1, m2, m3, hB⟩ := hrel
    clear hl hz HW HM1 HM2 HM3 HB hs1 W1
    by_cases hlt : k < 32
    · have hi : ∀ W, Sem.run Tryd.prog (idxX (.agg (matA m)) (.int .i64 k)) W = .ok (.int .u32 (halfN m (2 ^ k) : Nat)) W := fun W => idxX_run W _ k hlt
      have hl : Sem.run Tryd.prog (loadX (.pointer (some ⟨w.heap.size, 0, none⟩))) wr = .ok (.agg (matA n)) wr := loadX_run m1.out
      have HO := Lib.hid (of_any n (halfN m (2 ^ k)) wr (halfN_lt (pow_lt32 k hlt)))
      go_wp2_with fail
      refine HO.out.mono ?_
      rintro e w2 ⟨rfl, hb2⟩
      have l1 := m1.out.lt
      have l2 := m2.out.lt
      have l3 := m3.out.lt
      have m1' := m1.out.below hb2 l1
      have m2' := m2.out.below hb2 l2
      have m3' := m3.out.below hb2 l3
      have hcl := m2'.cell k hlt
      have hfz := m2'.frozen k
      have HP := Lib.hid (Put.one (w.heap.size + 1) k (.int .u32 (halfN n (halfN m (2 ^ k)) : Nat)) w2)
      have HM2 := Lib.hid (matF_of (m2'.put HP.out) (aft_succ n m k))
      have HM1 := Lib.hid (show MatAt (w2.setCell ⟨w.heap.size + 1, k, none⟩ (.int .u32 (halfN n (halfN m (2 ^ k)) : Nat))) w.heap.size (fun i => halfN n (2 ^ i)) by
        obtain ⟨t, h⟩ := m1'; exact ⟨t, (HP.out.other _ (by omega)).trans h⟩)
      have HM3 := Lib.hid (show MatAt (w2.setCell ⟨w.heap.size + 1, k, none⟩ (.int .u32 (halfN n (halfN m (2 ^ k)) : Nat))) (w.heap.size + 1 + 1) (fun _ => 0) by
        obtain ⟨t, h⟩ := m3'; exact ⟨t, (HP.out.other _ (by omega)).trans h⟩)
      have HB := Lib.hid ((hB.out.trans (hb2.mono hB.out.size)).trans (HP.out.below (by omega)))
      clear hi hl m1' m2' m3' hb2
      go_wp2_with fail
      go_roundw
      case rel => exact ⟨k + 1, by omega, by go_num, HM1, HM2, HM3, HB⟩
      case measure => simp [intOf]; omega
    · obtain rfl : k = 32 := by omega
      have m2' := matF_of m2.out (aft_all n m)
      have hl : Sem.run Tryd.prog (loadX (.pointer (some ⟨w.heap.size + 1, 0, none⟩))) wr = .ok (.agg (matA (n + m))) wr := loadX_run m2'
      obtain ⟨w3, hst, hm3, hb3, -, -⟩ := storeX_run (g := fun i => halfN (n + m) (2 ^ i)) m3.out
      have hst' : Sem.run Tryd.prog (storeX (.pointer (some ⟨w.heap.size + 1 + 1, 0, none⟩)) (.agg (matA (n + m)))) wr = .ok () w3 := hst
      have HM := Lib.hid hm3
      have HB := Lib.hid (hB.out.trans (hb3.mono (by omega)))
      clear hst hm3 hb3 m2'
      go_wp2_with fail
      exact ret_mat rfl rfl rfl HM.out ⟨rfl, HB.out⟩

/-- The first j columns of the identity. -/
def idn (j : Nat) : Nat → Nat := fun i => if i < j then 2 ^ i else 0
theorem idn_succ (j : Nat) : matF (fun i => if i = j then 2 ^ j else idn j i) = matF (idn (j + 1)) := matF_congr fun i _ => by
  unfold idn
  by_cases e : i = j
  · subst e; rw [if_pos rfl, if_pos (by omega)]
  · rw [if_neg e]
    by_cases h : i < j
    · rw [if_pos h, if_pos (by omega)]
    · rw [if_neg h, if_neg (by omega)]
theorem idn_all : matF (idn 32) = matA 0 := matF_congr fun i h => by unfold idn; rw [if_pos h]; rfl
theorem idn_zero : matF (idn 0) = matF fun _ => 0 := matF_congr fun i _ => by unfold idn; rw [if_neg (by omega)]

set_option maxHeartbeats 400000 in
theorem identity_any (w : World) :
    Calls Tryd.prog 49 #[] w fun e w' => e = .returned (.agg (matA 0)) ∧ Below w.heap.size w w' := by
  have hz := zeroMat
  obtain ⟨W1, hW1⟩ : ∃ W1, W1 = (w.alloc (.cells (matF fun _ => 0) 60)).alloc (.cells (matF fun _ => 0) 60) := ⟨_, rfl⟩
  have hm1 : MatAt W1 w.heap.size (fun _ => 0) := by rw [hW1]; exact (alloc_mat _ _ _ _ rfl).alloc _
  have hm2 : MatAt W1 (w.heap.size + 1) (fun _ => 0) := by rw [hW1]; exact alloc_mat _ _ _ _ (by simp)
  have HB := Lib.hid (show Below w.heap.size w W1 by rw [hW1]; exact ((Below.refl w.heap.size w).alloc (Nat.le_refl _) _).alloc (by simp) _)
  have HM1 := Lib.hid hm1
  have HM2 := Lib.hid (matF_of hm2 idn_zero.symm)
  have HW := Lib.hid hW1
  clear hW1 hm1 hm2
  go_enter Tryd.func49, Tryd.ntmps49
  go_wp2_with fail
  rw [← HW.out]
  go_loopw [3] (fun i wr => ∃ k : Nat, k ≤ 32 ∧ i = .int .i64 k ∧ Hid (MatAt wr w.heap.size (fun _ => 0)) ∧ Hid (MatAt wr (w.heap.size + 1) (idn k)) ∧ Hid (Below w.heap.size w wr)) (fun i _ => 32 - (intOf i).toNat)
  case atStart => exact ⟨0, by omega, rfl, HM1, HM2, HB⟩
  case round =>
    obtain ⟨k, hk, rfl, m1, m2, hB⟩ := hrel
    clear hz HW HM1 HM2 HB W1
    by_cases hlt : k < 32
    · have hp := pow_lt32 k hlt
      have hcl := m2.out.cell k hlt
      have hfz := m2.out.frozen k
      have HP := Lib.hid (Put.one (w.heap.size + 1) k (.int .u32 (2 ^ k : Nat)) wr)
      have HM2 := Lib.hid (matF_of (m2.out.put HP.out) (idn_succ k))
      have HM1 := Lib.hid (show MatAt (wr.setCell ⟨w.heap.size + 1, k, none⟩ (.int .u32 (2 ^ k : Nat))) w.heap.size (fun _ => 0) by
        obtain ⟨t, h⟩ := m1.out; exact ⟨t, (HP.out.other _ (by omega)).trans h⟩)
      have HB := Lib.hid (hB.out.trans (HP.out.below (by omega)))
      have hw : IntKind.u32.wrap (2 ^ k) = ((2 ^ k : Nat) : Int) := by
        have e : (2 : Int) ^ k = ((2 ^ k : Nat) : Int) := by simp
        rw [e, IntKind.wrap_u32]
        generalize (2 : Nat) ^ k = p at hp
        omega
      go_wp2_with fail
      go_roundw
      case rel => exact ⟨k + 1, by omega, by go_num, HM1, HM2, HB⟩
      case measure => simp [intOf]; omega
    · obtain rfl : k = 32 := by omega
      have m2' := matF_of m2.out idn_all
      have hl : Sem.run Tryd.prog (loadX (.pointer (some ⟨w.heap.size + 1, 0, none⟩))) wr = .ok (.agg (matA 0)) wr := loadX_run m2'
      obtain ⟨w3, hst, hm3, hb3, -, -⟩ := storeX_run (g := fun i => halfN 0 (2 ^ i)) m1.out
      have hst' : Sem.run Tryd.prog (storeX (.pointer (some ⟨w.heap.size, 0, none⟩)) (.agg (matA 0))) wr = .ok () w3 := hst
      have HM := Lib.hid hm3
      have HB := Lib.hid (hB.out.trans hb3)
      clear hst hm3 hb3 m2'
      go_wp2_with fail
      exact ret_mat rfl rfl rfl HM.out ⟨rfl, HB.out⟩

/-- While zeroByte goes on. -/
def zbt (j : Nat) : Nat → Nat := fun i => if i < j then halfN 8 (2 ^ i) else 2 ^ i
theorem zbt_succ (j : Nat) : matF (fun i => if i = j then stepV (2 ^ j) 0 else zbt j i) = matF (zbt (j + 1)) := matF_congr fun i _ => by
  unfold zbt
  by_cases e : i = j
  · subst e; rw [if_pos rfl, if_pos (by omega)]; unfold stepV; rw [Nat.xor_zero]
  · rw [if_neg e]
    by_cases h : i < j
    · rw [if_pos h, if_pos (by omega)]
    · rw [if_neg h, if_neg (by omega)]
theorem zbt_all : matF (zbt 32) = matA 8 := matF_congr fun i h => by unfold zbt; rw [if_pos h]
theorem zbt_zero : matF (zbt 0) = matA 0 := matF_congr fun i _ => by unfold zbt; rw [if_neg (by omega)]; rfl
theorem zbt_lt (j k : Nat) (hk : k < 32) : zbt j k < 4294967296 := by unfold zbt; split; exact halfN_lt (pow_lt32 k hk); exact pow_lt32 k hk

set_option maxHeartbeats 400000 in
theorem zeroByte_any (w : World) (hE : Env w) :
    Calls Tryd.prog 50 #[] w fun e w' => e = .returned (.agg (matA 8)) ∧ Below w.heap.size w w' := by
  have hz := zeroMat
  have HI := Lib.hid (identity_any (w.alloc (.cells (matF fun _ => 0) 60)))
  go_enter Tryd.func50, Tryd.ntmps50
  go_wp2_with fail
  refine HI.out.mono ?_
  rintro e w2 ⟨rfl, hb⟩
  have hsz : w.heap.size + 1 ≤ w2.heap.size := by have := hb.size; simp at this; omega
  have hB2 : Below w.heap.size w w2 := ((Below.refl _ _).alloc (Nat.le_refl _) _).trans (hb.mono (by simp))
  have hm0 : MatAt w2 w.heap.size (fun _ => 0) := (alloc_mat w (fun _ => 0) 60 _ rfl).below hb (by simp)
  obtain ⟨w3, hst, hm3, hb3, hs3, ho3⟩ := storeX_run (g := fun i => halfN 0 (2 ^ i)) (alloc_mat w2 (fun _ => 0) 60 _ rfl)
  have hst' : Sem.run Tryd.prog (storeX (.pointer (some ⟨w2.heap.size, 0, none⟩)) (.agg (matA 0))) (w2.alloc (.cells (matF fun _ => 0) 60)) = .ok () w3 := hst
  have HB := Lib.hid ((hB2.alloc (by omega) (.cells (matF fun _ => 0) 60)).trans (hb3.mono (by omega)))
  have HM2 := Lib.hid (matF_of hm3 zbt_zero.symm)
  have HM1 := Lib.hid ((hm0.alloc (.cells (matF fun _ => 0) 60)).below hb3 (by omega))
  have hb1 : 1 ≤ w.heap.size := hE.one
  clear HI hst hm3 hb3 hs3 ho3 hm0 hb hB2
  go_wp2_with fail
  clear hst' hz
  generalize w2.heap.size = b at *
  go_loopw [4] (fun i wr => ∃ k : Nat, k ≤ 32 ∧ i = .int .i64 k ∧ Hid (MatAt wr w.heap.size (fun _ => 0)) ∧ Hid (MatAt wr b (zbt k)) ∧ Hid (Below w.heap.size w wr)) (fun i _ => 32 - (intOf i).toNat)
  case atStart => exact ⟨0, by omega, rfl, HM1, HM2, HB⟩
  case round =>
    obtain ⟨k, hk, rfl, m1, m2, hB⟩ := hrel
    clear HM1 HM2 HB w3 w2
    by_cases hlt : k < 32
    · have hp := pow_lt32 k hlt
      have hzk : zbt k k = 2 ^ k := by unfold zbt; rw [if_neg (by omega)]
      have hcl : wr.cell? ⟨b, k, none⟩ = some (.int .u32 (2 ^ k : Nat)) := by rw [← hzk]; exact m2.out.cell k hlt
      have HX := Lib.hid (next_any b k (2 ^ k) 0 wr hp (by omega) (hE.below hB.out hb1) (by omega) hcl (m2.out.frozen k))
      clear hcl hzk
      obtain ⟨p, hpk⟩ : ∃ p, p = (2 : Nat) ^ k := ⟨_, rfl⟩
      rw [← hpk] at HX hp
      have hpk := Lib.hid hpk.symm
      go_wp2_with fail
      refine HX.out.mono ?_
      rintro e w4 ⟨rfl, hP⟩
      have hcz := HX
      clear HX hcz
      have HM2 := Lib.hid (m2.out.put hP)
      have HM1 := Lib.hid (show MatAt w4 w.heap.size (fun _ => 0) by obtain ⟨t, h⟩ := m1.out; exact ⟨t, (hP.other _ (by omega)).trans h⟩)
      have HB := Lib.hid (hB.out.trans (hP.below (by omega)))
      clear hP
      go_wp2_with fail
      go_roundw
      case rel => exact ⟨k + 1, by omega, by go_num, HM1, Lib.hid (matF_of HM2.out (by rw [← hpk.out]; exact zbt_succ k)), HB⟩
      case measure => simp [intOf]; omega
    · obtain rfl : k = 32 := by omega
      have m2' := matF_of m2.out zbt_all
      have hl : Sem.run Tryd.prog (loadX (.pointer (some ⟨b, 0, none⟩))) wr = .ok (.agg (matA 8)) wr := loadX_run m2'
      obtain ⟨w3, hst, hm3, hb3, -, -⟩ := storeX_run (g := fun i => halfN 8 (2 ^ i)) m1.out
      have hst' : Sem.run Tryd.prog (storeX (.pointer (some ⟨w.heap.size, 0, none⟩)) (.agg (matA 8))) wr = .ok () w3 := hst
      have HM := Lib.hid hm3
      have HB := Lib.hid (hB.out.trans hb3)
      clear hst hm3 hb3 m2'
      go_wp2_with fail
      exact ret_mat rfl rfl rfl HM.out ⟨rfl, HB.out⟩
end Go.Proofs.YtadaohjphgpdnaaDoor
