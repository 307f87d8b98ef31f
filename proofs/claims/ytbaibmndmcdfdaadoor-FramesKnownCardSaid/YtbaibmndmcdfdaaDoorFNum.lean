/- numbersOf, dataOf, sumOf, isPlace. -/
import Derived.Test.YtbaibmndmcdfdaaDoorFBase
namespace Go.Proofs.YtbaibmndmcdfdaaDoor.F
open Go.RowKit
open D (Sec Kept)
attribute [local go_sem] run_store_func run_store_nilFunc
set_option maxRecDepth 100000

/-- Cells that hold slices, laid since w. -/
def Known (w W : World) (L : List (Nat × Value)) : Prop := Below w.heap.size w W ∧ ∀ x ∈ L, w.heap.size ≤ x.1 ∧ SlAt W x.1 x.2
theorem Known.nil (w : World) : Known w w [] := ⟨Below.refl _ _, fun _ h => by cases h⟩
theorem Known.drew {w W : World} {L : List (Nat × Value)} (h : Known w W L) : Known w W.drew L := ⟨h.1.drew, h.2⟩
theorem Known.next {w W W' : World} {L : List (Nat × Value)} (h : Known w W L) (hb : Below W.heap.size W W') {p : Nat} {v : Value} (hp : W.heap.size ≤ p) (hs : SlAt W' p v) : Known w W' ((p, v) :: L) := by
  refine ⟨h.1.trans (hb.mono h.1.size), fun x hx => ?_⟩
  rcases List.mem_cons.1 hx with rfl | hx
  · exact ⟨Nat.le_trans h.1.size hp, hs⟩
  · exact ⟨(h.2 x hx).1, (h.2 x hx).2.below hb (h.2 x hx).2.lt⟩
structure NumsAt (W : World) (b p0 p1 p2 p3 p4 p5 : Nat) : Prop where
  s0 : SlAt W p0 (.slice (some ⟨b, 0, none⟩) 1 1)
  s1 : SlAt W p1 (.slice (some ⟨b, 1, none⟩) 1 1)
  s2 : SlAt W p2 (.slice (some ⟨b, 2, none⟩) 1 1)
  s3 : SlAt W p3 (.slice (some ⟨b, 4, none⟩) 4 4)
  s4 : SlAt W p4 (.slice (some ⟨b, 120, none⟩) 4 4)
  s5 : SlAt W p5 (.slice (some ⟨b, 124, none⟩) 4 4)
def numsA (p0 p1 p2 p3 p4 p5 : Nat) : Array Value := #[wrF p0, rdF p0, wrF p1, rdF p1, wrF p2, rdF p2, wrF p3, rdF p3, wrF p4, rdF p4, wrF p5, rdF p5]
theorem szNums : (Tryd.prog.info? 72).map (·.size) = some 12 := by kernel_rfl

noncomputable def storeN (x v : Value) : Sem Unit := Instr.storeAt 72 x v
theorem storeN_eq (x v : Value) : Instr.storeAt 72 x v = storeN x v := rfl
attribute [local go_sem ↓] storeN_eq
theorem run_storeN {w : World} {g : Nat} {Z : Array Value} (hZ : Z.size = 12) (hg : w.heap[g]? = some (.cells Z 72 (0, 0))) (p0 p1 p2 p3 p4 p5 : Nat) :
    (storeN (.pointer (some ⟨g, 0, none⟩)) (.agg #[wrF p0, rdF p0, wrF p1, rdF p1, wrF p2, rdF p2, wrF p3, rdF p3, wrF p4, rdF p4, wrF p5, rdF p5])).run Tryd.prog w = .ok () (w.setRow g (numsA p0 p1 p2 p3 p4 p5)) := by
  have h := D.store_at (T := 72) (w := w) szNums (g := g) (o := 0) (cs := (numsA p0 p1 p2 p3 p4 p5).toList) rfl hg (by omega) (by
    intro v hv
    simp only [numsA, List.mem_cons, List.not_mem_nil, or_false] at hv
    rcases hv with rfl | rfl | rfl | rfl | rfl | rfl | rfl | rfl | rfl | rfl | rfl | rfl <;> rfl)
  have e : (Z.toList.take 0 ++ (numsA p0 p1 p2 p3 p4 p5).toList ++ Z.toList.drop (0 + 12)).toArray = numsA p0 p1 p2 p3 p4 p5 := by
    have : Z.toList.drop (0 + 12) = [] := List.drop_eq_nil_of_le (by simp [hZ])
    rw [this]; simp
  rw [e] at h
  exact h
theorem bodyRet_nums {fn : Func} {p : Tmp} (h : fn.results = #[.cell p 72]) {tmps : Array Value} {w : World} {g : Nat} {A : Array Value} (hA : A.size = 12) (hp : tmps.getD p undef = .pointer (some ⟨g, 0, none⟩)) (hg : w.heap[g]? = some (.cells A 72 (0, 0))) :
    (results fn tmps).run Tryd.prog w = .ok (.agg A) w :=
  results_cell_row (P := Tryd.prog) h tmps w g 72 A (0, 0) _ hp hg Tryd.underlying72 rfl (by rw [szNums, hA])
theorem Known.get {w W : World} {L : List (Nat × Value)} (h : Known w W L) (p : Nat) (v : Value) (hm : (p, v) ∈ L) : SlAt W p v := (h.2 _ hm).2
theorem Known.far {w W : World} {L : List (Nat × Value)} (h : Known w W L) (p : Nat) (v : Value) (hm : (p, v) ∈ L) : w.heap.size ≤ p := (h.2 _ hm).1
theorem SlAt.row {W : World} {p g : Nat} {v : Value} (h : SlAt W p v) (hg : g < p) (A : Array Value) : SlAt (W.setRow g A) p v := (setRow_other _ _ _ _ (by omega)).trans h
theorem nums_done {w1 W : World} {b p0 p1 p2 p3 p4 p5 g : Nat} (A : Array Value) (hg : g < w1.heap.size)
    (h : Known w1 W [(p5, .slice (some ⟨b, 124, none⟩) 4 4), (p4, .slice (some ⟨b, 120, none⟩) 4 4), (p3, .slice (some ⟨b, 4, none⟩) 4 4), (p2, .slice (some ⟨b, 2, none⟩) 1 1), (p1, .slice (some ⟨b, 1, none⟩) 1 1), (p0, .slice (some ⟨b, 0, none⟩) 1 1)]) : NumsAt (W.setRow g A) b p0 p1 p2 p3 p4 p5 := by
  have hx : ∀ p v, (p, v) ∈ [(p5, Value.slice (some ⟨b, 124, none⟩) 4 4), (p4, .slice (some ⟨b, 120, none⟩) 4 4), (p3, .slice (some ⟨b, 4, none⟩) 4 4), (p2, .slice (some ⟨b, 2, none⟩) 1 1), (p1, .slice (some ⟨b, 1, none⟩) 1 1), (p0, .slice (some ⟨b, 0, none⟩) 1 1)] → SlAt (W.setRow g A) p v :=
    fun p v hm => (h.get p v hm).row (Nat.lt_of_lt_of_le hg (h.far p v hm)) A
  exact ⟨hx _ _ (by simp), hx _ _ (by simp), hx _ _ (by simp), hx _ _ (by simp), hx _ _ (by simp), hx _ _ (by simp)⟩
def nums0 : Array Value := #[.nilFunc, .nilFunc, .nilFunc, .nilFunc, .nilFunc, .nilFunc, .nilFunc, .nilFunc, .nilFunc, .nilFunc, .nilFunc, .nilFunc]
set_option maxHeartbeats 2000000 in
theorem numbersOf_any (b : Nat) (w : World) :
    Calls Tryd.prog 27 #[.pointer (some ⟨b, 0, none⟩)] w fun e w' => ∃ p0 p1 p2 p3 p4 p5, e = .returned (.agg (numsA p0 p1 p2 p3 p4 p5)) ∧ NumsAt w' b p0 p1 p2 p3 p4 p5 ∧ Below w.heap.size w w' := by
  have HN := Lib.hid numberIn_any
  have HR1 := Lib.hid (heap_alloc_new w (.cells nums0 72))
  have HB1 := Lib.hid ((Below.refl w.heap.size w).alloc (Nat.le_refl _) (.cells nums0 72))
  have HZ1 : Hid ((w.alloc (.cells nums0 72)).heap.size = w.heap.size + 1) := Lib.hid (by simp)
  go_enter Tryd.func27, Tryd.ntmps27
  go_wp2_with fail
  generalize hw1 : w.alloc (.cells nums0 72) = w1 at HR1 HB1 HZ1
  rw [show w.alloc (.cells #[.nilFunc, .nilFunc, .nilFunc, .nilFunc, .nilFunc, .nilFunc, .nilFunc, .nilFunc, .nilFunc, .nilFunc, .nilFunc, .nilFunc] 72) = w1 from hw1]
  clear hw1
  have HA := Lib.hid (Known.nil w1)
  have HS0 := Lib.hid (Kept.refl (fun k => k = w.heap.size) w1)
  have HSD := Lib.hid (fun (W : World) (h : Kept (fun k => k = w.heap.size) w1 W) => h.drew)
  have HSW := Lib.hid (fun (W : World) (A : Array Value) (h : Kept (fun k => k = w.heap.size) w1 W) => h.setRow w.heap.size rfl A)
  have HST := Lib.hid (fun (W : World) (h : Below w1.heap.size w1 W) => run_storeN (Z := nums0) rfl ((h.block w.heap.size (by rw [HZ1.out]; omega)).trans HR1.out))
  have HSR := Lib.hid (fun (W : World) (h : Below w1.heap.size w1 W) (A : Array Value) => setRow_heap W w.heap.size _ A _ _ ((h.block w.heap.size (by rw [HZ1.out]; omega)).trans HR1.out))
  have HSC := Lib.hid (fun (W W' : World) (h : Kept (fun k => k = w.heap.size) w1 W) (hb : Below W.heap.size W W') => h.below hb h.size)
  go_region_held3 (fun W => Kept (fun k => k = w.heap.size) w1 W) (first | assumption | exact HS0.out | exact HSD.out _ (by assumption) | exact HSD.out _ HS0.out | exact HSW.out _ _ (by assumption)) ((first | (go_at_call 45; (with_reducible refine (HN.out _ _ _ _).mono ?_); rintro e wz ⟨p, rfl, hp, hs, hbz⟩; have hSz := HSC.out _ _ (by first | assumption | exact HSD.out _ (by assumption) | exact HSD.out _ HS0.out | exact HS0.out) hbz; replace HA := (by first | exact Lib.hid (HA.out.next hbz hp hs) | exact Lib.hid (HA.out.drew.next hbz hp hs)); have hst := HST.out _ HA.out.1; clear hs hbz hp) | fail))
  go_wp2
  exact bodyPost_ret (bodyRet_nums rfl rfl rfl (HSR.out _ HA.out.1 _)) rfl ⟨_, _, _, _, _, _, rfl, nums_done _ (by rw [HZ1.out]; omega) HA.out,
    (HB1.out.trans (HA.out.1.mono (by rw [HZ1.out]; omega))).trans ((Kept.setRow (X := fun k => k = w.heap.size) (Kept.refl _ wz) w.heap.size rfl _).toBelow (by have := HA.out.1.size; rw [HZ1.out] at this; omega) (fun k e => by omega))⟩

/-! ### dataOf, sumOf, isPlace -/
theorem arrSec : Tryd.prog.underlying 27 = some (.array (Tryd.prog.arrayLen 27) (Tryd.prog.elem 27)) := by kernel_rfl
theorem lenSec : Tryd.prog.arrayLen 27 = 128 := by kernel_rfl
theorem elemSec (W : World) : (sizeOf (Tryd.prog.elem 27)).run Tryd.prog W = .ok 1 W := by kernel_rfl
theorem slice_data (b m : Nat) (hm : m ≤ 112) (k : IntKind) (W : World) : (Instr.sliceAt 27 (.pointer (some ⟨b, 0, none⟩)) (some (.int .i64 8)) (some (.int k (8 + (m : Int)))) (some (.int .i64 120))).run Tryd.prog W = .ok (.slice (some ⟨b, 8, none⟩) m 112) W := by
  rw [run_sliceAt_array_lhm W 27 ⟨b, 0, none⟩ arrSec .i64 k .i64 8 (8 + (m : Int)) 120 (by omega) (by omega) (by omega) (by rw [lenSec]; omega), elemSec]
  have e : (8 + (m : Int)).toNat = 8 + m := by omega
  simp [Result.andThen, slicedAt, e, addr_add]
set_option maxHeartbeats 400000 in
theorem dataOf_any (b m : Nat) (w : World) (hm : m ≤ 112) :
    Calls Tryd.prog 28 #[.pointer (some ⟨b, 0, none⟩), .int .u32 m] w fun e w' => e = .returned (.slice (some ⟨b, 8, none⟩) m 112) ∧ w = w' := by
  have hsl := slice_data b m hm .u32
  go_enter Tryd.func28, Tryd.ntmps28
  go_wp2
  go_ret
  exact ⟨rfl, rfl⟩
set_option maxHeartbeats 400000 in
theorem sumOf_any (b : Nat) (l : List UInt8) (w : World) (hE : Env w) (hb : BAt w b l) (hl : l.length = 128) :
    Calls Tryd.prog 29 #[.pointer (some ⟨b, 0, none⟩)] w fun e w' => e = .returned (.int .u32 (crcV (l.take 124) : Nat)) ∧ Below w.heap.size w w' := by
  have hp := hb.part 0 124 124 (by omega)
  rw [List.drop_zero] at hp
  have HC := Lib.hid (crcAll_any (.slice (some ⟨b, 0, none⟩) 124 124) (l.take 124) w hE hp (by rw [List.length_take]; unfold maxLen; omega))
  clear hp hb hl hE
  go_enter Tryd.func29, Tryd.ntmps29
  go_wp2_with fail
  refine HC.out.mono ?_
  rintro e w2 ⟨rfl, hB⟩
  go_wp2_with fail
  go_ret
  exact ⟨rfl, hB⟩
set_option maxHeartbeats 400000 in
theorem isPlace_yes (n : Int) (w : World) (h1 : 0 ≤ n) (h2 : n ≤ 255) :
    Calls Tryd.prog 26 #[.int .i64 n] w fun e w' => e = .returned (.bool true) ∧ w = w' := by
  have d1 : decide (0 ≤ n) = true := decide_eq_true h1
  have d2 : decide (n < 256) = true := decide_eq_true (by omega)
  go_enter Tryd.func26, Tryd.ntmps26
  go_wp2
  go_ret
  exact ⟨rfl, rfl⟩
set_option maxHeartbeats 400000 in
theorem isPlace_no (n : Int) (w : World) (h : n < 0 ∨ 255 < n) :
    Calls Tryd.prog 26 #[.int .i64 n] w fun e w' => e = .returned (.bool false) ∧ w = w' := by
  by_cases h0 : 0 ≤ n
  · have d1 : decide (0 ≤ n) = true := decide_eq_true h0
    have d2 : decide (n < 256) = false := decide_eq_false (by omega)
    clear h
    go_enter Tryd.func26, Tryd.ntmps26
    go_wp2
    go_ret
    exact ⟨rfl, rfl⟩
  · have d1 : decide (0 ≤ n) = false := decide_eq_false h0
    clear h
    go_enter Tryd.func26, Tryd.ntmps26
    go_wp2
    go_ret
    exact ⟨rfl, rfl⟩
end Go.Proofs.YtbaibmndmcdfdaaDoor.F
