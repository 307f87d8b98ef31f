/- compare, shared, isUnder: two paths that have been checked. -/
import Derived.Test.YtbgfeonlnhlbfaaSteps
import Derived.Test.YtbgfeonlnhlbfaaFresh
import Derived.Lib.BytesEntry
import Derived.Laws.Externs
namespace Go.Proofs.Ytbgfeonlnhlbfaa
open Go.RowKit
attribute [local go_sem] Oper.semAt_some

/-! ### Arrays: compared as bytes, compared by == -/
theorem compareBytes_lex (a b : Bs) : Lib.compareBytes a b = lexC cmpB a b := by
  induction a generalizing b with
  | nil => cases b <;> rfl
  | cons x a ih =>
    cases b with
    | nil => rfl
    | cons y b =>
      rw [Lib.compareBytes, lexC, ih]
      unfold cmpB cmpI
      by_cases h1 : x < y
      · have : (x.toNat : Int) < y.toNat := by have := UInt8.lt_iff_toNat_lt.1 h1; omega
        rw [if_pos h1, if_pos this]; rfl
      · by_cases h2 : y < x
        · have h3 : ¬ (x.toNat : Int) < y.toNat := by have := UInt8.lt_iff_toNat_lt.1 h2; omega
          have h4 : ¬ (x.toNat : Int) = y.toNat := by have := UInt8.lt_iff_toNat_lt.1 h2; omega
          rw [if_neg h1, if_pos h2, if_neg h3, if_neg h4]; rfl
        · have h3 : ¬ (x.toNat : Int) < y.toNat := by
            have h5 : ¬ x.toNat < y.toNat := fun e => h1 (UInt8.lt_iff_toNat_lt.2 e)
            omega
          have h4 : (x.toNat : Int) = y.toNat := by
            have h5 : ¬ x.toNat < y.toNat := fun e => h1 (UInt8.lt_iff_toNat_lt.2 e)
            have h6 : ¬ y.toNat < x.toNat := fun e => h2 (UInt8.lt_iff_toNat_lt.2 e)
            omega
          rw [if_neg h1, if_neg h2, if_neg h3, if_pos h4]; rfl

theorem ints_back (l : Bs) : Lib.bytesOf (l.map fun c => (c.toNat : Int)) = l := by
  induction l with
  | nil => rfl
  | cons a r ih => simp [Lib.bytesOf] at ih ⊢; exact ih
theorem bytesOf_arr {w : World} {b : Nat} {l : Bs} (hl : l.length = 24) (h : ArrAt w b l) : (Extern.Bytes.bytesOf (.slice (some ⟨b, 0, none⟩) 24 24)).run Try.prog w = .ok ⟨l.toArray⟩ w := by
  have := Lib.run_loadBytesX (P := Try.prog) w (l.map fun c => (c.toNat : Int)) ⟨b, 0, none⟩ .empty (fun j x hx => by
    rw [addr_add0, Lib.cell_of_heap h j]
    rw [List.getElem?_map] at hx
    simp only [Lib.byteCells, List.getElem?_toArray, List.getElem?_map]
    cases e : l[j]? with
    | none => rw [e] at hx; simp at hx
    | some c => rw [e] at hx; simp at hx; subst hx; rfl)
  rw [List.length_map, hl, ints_back] at this
  simp only [Extern.Bytes.bytesOf, this]
  congr 1
  apply ByteArray.ext
  show (#[] : Array UInt8) ++ l.toArray = l.toArray
  simp
theorem run_compareArr {w : World} {b1 b2 : Nat} {l1 l2 : Bs} (h1 : l1.length = 24) (h2 : l2.length = 24) (a1 : ArrAt w b1 l1) (a2 : ArrAt w b2 l2) :
    (Extern.BytealgCompare.compare #[.slice (some ⟨b1, 0, none⟩) 24 24, .slice (some ⟨b2, 0, none⟩) 24 24]).run Try.prog w = .ok (.int .i64 (lexC cmpB l1 l2)) w := by
  change Sem.run Try.prog (do pure (goInt (Extern.BytealgCompare.cmp (← Extern.Bytes.bytesOf (.slice (some ⟨b1, 0, none⟩) 24 24)) (← Extern.Bytes.bytesOf (.slice (some ⟨b2, 0, none⟩) 24 24))))) w = _
  simp only [Sem.run_bind, Sem.run_pure, bytesOf_arr h1 a1, bytesOf_arr h2 a2, Result.andThen]
  rw [Lib.cmp_eq, compareBytes_lex]
  rfl

set_option maxRecDepth 100000 in
theorem bytesCompare_any (b1 b2 : Nat) (l1 l2 : Bs) (w : World) (h1 : l1.length = 24) (h2 : l2.length = 24) (a1 : ArrAt w b1 l1) (a2 : ArrAt w b2 l2) :
    Calls Try.prog 61 #[.slice (some ⟨b1, 0, none⟩) 24 24, .slice (some ⟨b2, 0, none⟩) 24 24] w fun e w' => e = .returned (.int .i64 (lexC cmpB l1 l2)) ∧ w = w' := by
  have hr := run_compareArr h1 h2 a1 a2
  clear a1 a2 h1 h2
  go_enter Try.func61, Try.ntmps61
  go_wp2
  rw [run_callFunc_extern Try.func71 (by kernel_rfl) (by kernel_rfl) (by kernel_rfl) (e := Extern.BytealgCompare.compare) (by kernel_rfl), hr]
  simp only [Result.andThen]
  rw [Oper.upon_value]
  go_wp2
  go_ret
  exact ⟨rfl, rfl⟩

theorem run_eqItems_int {P : Program} (w : World) (d : Nat) {e : TypeId} {k : IntKind} (he : P.underlying e = some (.int k)) (f g : Nat → Int) (n : Nat) :
    ∀ is : List Nat, (∀ i ∈ is, i < n) → (Op.eqItems (d + 1) e 1 ((List.range n).map fun j => Value.int k (f j)).toArray ((List.range n).map fun j => Value.int k (g j)).toArray is).run P w = .ok (is.all fun i => f i == g i) w
  | [], _ => by simp [Op.eqItems]
  | i :: is, h => by
    have hi : i < n := h i (by simp)
    have px : (part e ((List.range n).map fun j => Value.int k (f j)).toArray (i * 1)).run P w = .ok (.int k (f i)) w := by
      simp [part, isAgg, run_underlying he, hi]
    have py : (part e ((List.range n).map fun j => Value.int k (g j)).toArray (i * 1)).run P w = .ok (.int k (g i)) w := by
      simp [part, isAgg, run_underlying he, hi]
    have pe : (Op.equalIn (d + 1) e (.int k (f i)) (.int k (g i))).run P w = .ok (f i == g i) w := by
      simp [Op.equalIn, run_underlying he]
    have ih := run_eqItems_int w d he f g n is (fun j hj => h j (List.mem_cons_of_mem _ hj))
    simp only [Op.eqItems, Sem.run_bind, px, py, pe, Result.andThen_ok, List.all_cons]
    cases hb : (f i == g i)
    · simp
    · simpa using ih
theorem cells_range {l : Bs} (hl : l.length = 24) : Lib.byteCells l = (List.range 24).map fun j => Value.int .u8 ((l.getD j 0).toNat : Int) := by
  apply List.ext_getElem
  · simp [Lib.byteCells, hl]
  · intro j h1 h2
    have hj : j < l.length := by simp [Lib.byteCells] at h1; exact h1
    simp [Lib.byteCells, List.getD, List.getElem?_eq_getElem hj]
theorem all_range {l m : Bs} (hl : l.length = 24) (hm : m.length = 24) : ((List.range 24).all fun i => ((l.getD i 0).toNat : Int) == ((m.getD i 0).toNat : Int)) = decide (l = m) := by
  rw [Bool.eq_iff_iff, List.all_eq_true, decide_eq_true_iff]
  constructor
  · intro h
    apply List.ext_getElem (by omega)
    intro j h1 h2
    have := h j (by simp; omega)
    simp [List.getD, List.getElem?_eq_getElem h1, List.getElem?_eq_getElem h2] at this
    exact UInt8.toNat_inj.1 (by omega)
  · rintro rfl i _
    exact beq_self_eq_true _
theorem eql_arr {l m : Bs} (hl : l.length = 24) (hm : m.length = 24) (w : World) :
    Sem.run Try.prog (binOp .neq 85 (.agg (Lib.byteCells l).toArray) (.agg (Lib.byteCells m).toArray)) w = .ok (.bool (!decide (l = m))) w := by
  have hu : Try.prog.underlying 85 = some (.array 24 5) := Try.underlying85
  have hk : Try.prog.underlying 5 = some (.int .u8) := Try.underlying5
  have hc : Try.prog.cellsOf 5 = 1 := by kernel_rfl
  have hs : (Try.prog.info? 5).isSome = true := by kernel_rfl
  obtain ⟨i, hi⟩ := Option.isSome_iff_exists.1 hs
  have he := run_equalIn_array (P := Try.prog) (w := w) 9999 (Lib.byteCells l).toArray (Lib.byteCells m).toArray hu hi
  rw [hc] at he
  have h2 := run_eqItems_int (P := Try.prog) w 9998 hk (fun j => (l.getD j 0).toNat) (fun j => (m.getD j 0).toNat) 24 (List.range 24) (fun i hi => by simpa using hi)
  rw [all_range hl hm, ← cells_range hl, ← cells_range hm] at h2
  have h3 : (Op.equalIn 10000 85 (.agg (Lib.byteCells l).toArray) (.agg (Lib.byteCells m).toArray)).run Try.prog w = .ok (decide (l = m)) w := he.trans h2
  simp only [binOp]
  simp [Op.equal, Op.maxDepth, h3]
noncomputable def neqX (x y : Value) : Sem Value := binOp .neq 85 x y
theorem neqX_eq (x y : Value) : binOp .neq 85 x y = neqX x y := rfl
attribute [local go_sem ↓] loadX_eq neqX_eq

/-- A new block whose cells are all stored is one that was laid so. -/
theorem setRow_alloc (w : World) (old cs : Array Value) (t : TypeId) : (w.alloc (.cells old t)).setRow w.heap.size cs = w.alloc (.cells cs t) := by
  have h : ((w.alloc (.cells old t)).setRow w.heap.size cs).heap = (w.alloc (.cells cs t)).heap := by
    apply Array.ext_getElem?
    intro j
    by_cases hj : j = w.heap.size
    · subst hj
      rw [setRow_heap _ _ _ _ _ _ (World.alloc_heap_new w _)]
      exact (World.alloc_heap_new w _).symm
    · rw [setRow_other _ _ _ _ hj]
      by_cases hlt : j < w.heap.size
      · rw [Below.heap_alloc _ _ _ hlt, Below.heap_alloc _ _ _ hlt]
      · rw [Array.getElem?_eq_none (by rw [World.size_alloc]; omega), Array.getElem?_eq_none (by rw [World.size_alloc]; omega)]
  have e1 : (w.alloc (.cells old t)).setRow w.heap.size cs = { w.alloc (.cells cs t) with heap := ((w.alloc (.cells old t)).setRow w.heap.size cs).heap } := rfl
  rw [e1, h]
theorem store_arr {l : Bs} (hl : l.length = 24) (b : Nat) (w : World) (hb : w.heap.size = b) : Sem.run Try.prog (storeCells ⟨b, 0, none⟩ (Lib.byteCells l)) (w.alloc (.cells zero24 85)) = .ok () (w.alloc (.cells (Lib.byteCells l).toArray 85)) := by
  subst hb
  have hlen := arr_len hl
  have hst := run_storeCells_at Try.prog w.heap.size 0 85 (Lib.byteCells l) 0 zero24 _ (World.alloc_heap_new w _) (by rw [hlen]; simp [zero24]) (Lib.byteCells_one _)
  have e5 : (zero24.toList.take 0 ++ Lib.byteCells l ++ zero24.toList.drop (0 + (Lib.byteCells l).length)) = Lib.byteCells l := by
    rw [hlen]; simp [zero24]
  simp only [Nat.add_zero] at hst
  rw [e5, setRow_alloc] at hst
  exact hst

/-! ### compare -/
/-- Between two rounds. -/
def CI (w : World) (v : Value) (pre : List (ByteArray × ByteArray)) (W : World) : Prop :=
  Boxed W w.heap.size 3 v ∧ Below w.heap.size w W ∧ ∀ x ∈ pre, x.1.data.toList = x.2.data.toList
def CX (w : World) (z : Int) (c : Code) (_ : List (ByteArray × ByteArray)) (W : World) : Prop :=
  c = .ret ∧ Boxed W w.heap.size 3 (.int .i64 z) ∧ Below w.heap.size w W

set_option maxHeartbeats 4000000 in
set_option maxRecDepth 100000 in
theorem compare_in (n : Nat) (hn : 6 ≤ n) (v1 v2 : Value) (ps qs : List ByteArray) (w : World) (hp : StrsAt w v1 ps) (hq : StrsAt w v2 qs) (ep : checkE (bsL ps) = 0) (eq : checkE (bsL qs) = 0) :
    CallsIn Fence.wide n Try.prog 47 #[v1, v2] w fun e w' => e = .returned (.int .i64 (cmpP (bsL ps) (bsL qs))) ∧ Below w.heap.size w w' := by
  obtain ⟨a1, c1, rfl⟩ := hp.shape
  obtain ⟨a2, c2, rfl⟩ := hq.shape
  refine callsIn_of_wp_marks Try.func47 rfl trivial ?_ rfl
  simp only [Try.ntmps47, List.size_toArray, List.length_cons, List.length_nil, Nat.reduceAdd, Nat.reduceSub, Array.replicate_succ, Array.replicate_zero, List.push_toArray, List.append_toArray, List.nil_append, List.cons_append]
  have hcp := checkE_zero.1 ep
  have hcq := checkE_zero.1 eq
  have hn1 : ∀ s ∈ ps, nameE s.data.toList = 0 := fun s hs => hcp.2 _ (List.mem_map.2 ⟨s, hs, rfl⟩)
  have hn2 : ∀ s ∈ qs, nameE s.data.toList = 0 := fun s hs => hcq.2 _ (List.mem_map.2 ⟨s, hs, rfl⟩)
  have hs1 : ∀ s ∈ ps, s.size ≤ 24 := fun s hs => by have := (nameE_ok (hn1 s hs)).2.1; rwa [size_len] at this
  have hs2 : ∀ s ∈ qs, s.size ≤ 24 := fun s hs => by have := (nameE_ok (hn2 s hs)).2.1; rwa [size_len] at this
  have hl1 : ps.length ≤ 8 := by have := hcp.1; simpa using this
  have hl2 : qs.length ≤ 8 := by have := hcq.1; simpa using this
  obtain ⟨z, hz⟩ : ∃ z, z = cmpP (bsL ps) (bsL qs) := ⟨_, rfl⟩
  rw [← hz]
  clear hcp hcq ep eq
  have HP := Lib.hid hp
  have HQ := Lib.hid hq
  have HN1 := Lib.hid hn1
  have HN2 := Lib.hid hn2
  have HS1 := Lib.hid hs1
  have HS2 := Lib.hid hs2
  have HZ := Lib.hid hz
  clear hp hq hn1 hn2 hs1 hs2 hz
  gi_wp2_with fail
  refine ⟨trivial, fun _ => by omega, (callsIn_wide.2 (steps_any a1 a2 _ _ c1 c2 _)).mono ?_⟩
  rintro e w' ⟨rfl, rfl⟩
  gi_wp2_with fail
  obtain ⟨W3, hW3⟩ : ∃ W3, ((w.alloc (.cells #[.int .i64 0] 3)).alloc (.cells #[.slice a1 ps.length c1] 22)).alloc (.cells #[.slice a2 qs.length c2] 22) = W3 := ⟨_, rfl⟩
  have hs3 : W3.heap.size = w.heap.size + 3 := by rw [← hW3]; simp
  have hB3 : Below w.heap.size w W3 := by rw [← hW3]; exact (((Below.refl _ w).alloc (Nat.le_refl _) _).alloc (by simp) _).alloc (by simp; omega) _
  have b0 : Boxed W3 w.heap.size 3 (.int .i64 0) := by rw [← hW3]; exact ((Boxed.new w _ _).alloc _).alloc _
  have b1 : Boxed W3 (w.heap.size + 1) 22 (.slice a1 ps.length c1) := by
    rw [← hW3]; have := Boxed.new (w.alloc (.cells #[.int .i64 0] 3)) 22 (.slice a1 ps.length c1); rw [World.size_alloc] at this; exact this.alloc _
  have b2 : Boxed W3 (w.heap.size + 1 + 1) 22 (.slice a2 qs.length c2) := by
    rw [← hW3]; have := Boxed.new ((w.alloc (.cells #[.int .i64 0] 3)).alloc (.cells #[.slice a1 ps.length c1] 22)) 22 (.slice a2 qs.length c2); rw [World.size_alloc, World.size_alloc] at this; exact this
  rw [hW3]
  clear hW3
  have hI : Stays (O2 (fun _ => False) W3.heap.size) (CI w (.int .i64 0)) := by
    rintro s A B ⟨h0, hbel, hall⟩ hk
    rw [hs3] at hk
    exact ⟨boxed_kept h0 hk (by unfold O2; simp; omega), below_kept hbel hk (Nat.le_refl _) (fun k hx => by unfold O2 at hx; simp at hx; omega), hall⟩
  have hIx : ∀ c, Stays (O2 (fun _ => False) W3.heap.size) (CX w z c) := by
    rintro c s A B ⟨hc, h0, hbel⟩ hk
    rw [hs3] at hk
    exact ⟨hc, boxed_kept h0 hk (by unfold O2; simp; omega), below_kept hbel hk (Nat.le_refl _) (fun k hx => by unfold O2 at hx; simp at hx; omega)⟩
  refine range_law (n := n) rfl (by omega) (gf := 69) (lb := #[.pointer (some ⟨w.heap.size + 1, 0, none⟩), .pointer (some ⟨w.heap.size + 1 + 1, 0, none⟩)]) rfl trivial (enters_of Try.func69 (by kernel_rfl) rfl)
    (O := fun _ => False) (R := stepR w (w.heap.size + 1) (w.heap.size + 1 + 1)) (encs := encP) ⟨by omega, by omega, by omega⟩
    (fun W1 hb1 hs1 => steps_seq (n - 1) (by omega) w _ _ _ _ ps qs W1 HP.out HQ.out HS1.out HS2.out hl1 hl2 (hB3.trans (hb1.mono (by omega))) ((hb1.block _ b1.lt).trans b1) ((hb1.block _ b2.lt).trans b2)) (fun _ => rfl) (fun k h => h.elim)
    (CI w (.int .i64 0)) (CX w z) hI hIx ⟨b0, hB3, fun x hx => by cases hx⟩ ?round ?done ?stop
  case round =>
    rintro pre ⟨xa, xb⟩ W hCI hbf hC K hK
    have hk := hC.length_le
    rw [List.length_append, List.length_singleton, List.length_zip] at hk
    have hk1 : pre.length < ps.length := by omega
    have hk2 : pre.length < qs.length := by omega
    have hx : (xa, xb) = (ps[pre.length], qs[pre.length]) := by
      obtain ⟨t, ht⟩ := hC
      have h1 : (ps.zip qs)[pre.length]'(by rw [List.length_zip]; omega) = (xa, xb) := by
        simp only [← ht]; simp
      rw [← h1, List.getElem_zip]
    obtain ⟨rfl, rfl⟩ := Prod.mk.inj hx
    have na := HN1.out _ (List.getElem_mem hk1)
    have nb := HN2.out _ (List.getElem_mem hk2)
    have la : (padL ps[pre.length].data.toList).length = 24 := padL_len (nameE_ok na).2.1
    have lb : (padL qs[pre.length].data.toList).length = 24 := padL_len (nameE_ok nb).2.1
    have sa : ∀ (b : Nat) (w : World), w.heap.size = b → Sem.run Try.prog (storeCells ⟨b, 0, none⟩ (Lib.byteCells (padL ps[pre.length].data.toList))) (w.alloc (.cells zero24 85)) = .ok () (w.alloc (.cells (Lib.byteCells (padL ps[pre.length].data.toList)).toArray 85)) := fun b w h => store_arr la b w h
    have sb : ∀ (b : Nat) (w : World), w.heap.size = b → Sem.run Try.prog (storeCells ⟨b, 0, none⟩ (Lib.byteCells (padL qs[pre.length].data.toList))) (w.alloc (.cells zero24 85)) = .ok () (w.alloc (.cells (Lib.byteCells (padL qs[pre.length].data.toList)).toArray 85)) := fun b w h => store_arr lb b w h
    have ca := arr_len la
    have cb := arr_len lb
    unfold zero24 at sa sb
    simp only [List.replicate] at sa sb
    unfold encP padV
    gi_wp2
    refine hK _ _ (((Kept.refl _ _).alloc _).alloc _) ?_
    clear hK sa sb
    intro W2 hk2'
    have hkk : Kept (O2 (fun _ => False) W3.heap.size) W W2 := (((Kept.refl _ W).alloc _).alloc _).trans (hk2'.mono (fun k (h : k = _) => .inr (.inr h)))
    obtain ⟨h0, hbel, hall⟩ := hI _ _ _ hCI hkk
    have r1 : ArrAt W2 W.heap.size (padL ps[pre.length].data.toList) := (hk2'.block _ (by simp; omega) (by omega)).trans ((Below.heap_alloc _ _ _ (by simp)).trans (World.alloc_heap_new W _))
    have r2 : ArrAt W2 (W.heap.size + 1) (padL qs[pre.length].data.toList) := (hk2'.block _ (by simp) (by omega)).trans (by
      have := World.alloc_heap_new (W.alloc (.cells (Lib.byteCells (padL ps[pre.length].data.toList)).toArray 85)) (.cells (Lib.byteCells (padL qs[pre.length].data.toList)).toArray 85)
      rwa [World.size_alloc] at this)
    have l1 := load_arr la r1
    have l2 := load_arr lb r2
    have l3 := eql_arr la lb W2
    rw [loadX_eq] at l1 l2
    rw [neqX_eq] at l3
    have hW3 : W3.heap.size ≤ W.heap.size := by omega
    have hPre : ∀ x ∈ pre, x.1.data.toList = x.2.data.toList := hall
    have HPAR : Hid (∀ j (h : j < pre.length), (bsL ps)[j]'(by simp; omega) = (bsL qs)[j]'(by simp; omega)) := Lib.hid (fun j hj => by
      obtain ⟨t, ht⟩ := hC
      have h1 : (ps.zip qs)[j]'(by rw [List.length_zip]; omega) = pre[j] := by
        simp only [← ht, List.append_assoc]; rw [List.getElem_append_left hj]
      rw [List.getElem_zip] at h1
      have h2 := hPre pre[j] (List.getElem_mem hj)
      rw [← h1] at h2
      simpa using h2)
    have q0 := h0.cell; have f0 := h0.frozen; have lt0 := h0.lt
    have HALL := Lib.hid hall
    clear hC hk2' hkk hCI hall hPre
    by_cases he : padL ps[pre.length].data.toList = padL qs[pre.length].data.toList
    · have hd : decide (padL ps[pre.length].data.toList = padL qs[pre.length].data.toList) = true := decide_eq_true he
      rw [hd] at l3
      have HE := Lib.hid ((padL_inj na nb).1 he)
      clear he hd
      gi_wp2
      refine ⟨Kept.refl _ _, h0, hbel, ?_⟩
      intro x hx
      rcases List.mem_append.1 hx with hx | hx
      · exact HALL.out x hx
      · rw [List.mem_singleton.1 hx]; exact HE.out
    · have hd : decide (padL ps[pre.length].data.toList = padL qs[pre.length].data.toList) = false := decide_eq_false he
      rw [hd] at l3
      have HE := Lib.hid (show lexC cmpB (padL ps[pre.length].data.toList) (padL qs[pre.length].data.toList) = z by
        rw [HZ.out, cmp_padL na nb, cmpP_diff (p := bsL ps) (q := bsL qs) pre.length (by simpa using hk1) (by simpa using hk2) HPAR.out (fun e => he (by simp at e; rw [e]))]
        simp)
      clear he hd
      gi_wp2_with fail
      gi_region_with (refine ⟨trivial, fun _ => by omega, (CallsIn.inRound _ (callsIn_wide.2 (bytesCompare_any _ _ _ _ W2.drew la lb r1 r2))).mono ?_⟩; rintro e w9 ⟨rfl, rfl⟩)
      all_goals gi_wp2
      all_goals
        refine ⟨?_, rfl, ?_, ?_⟩
        · exact ((Kept.refl _ _).drew).setCell ⟨w.heap.size, 0, none⟩ (by unfold R2 stepR; simp; omega) _
        · rw [HE.out]; exact (show Boxed W2.drew w.heap.size 3 _ from h0).set _
        · exact (hbel.drew).setCell (p := ⟨w.heap.size, 0, none⟩) (Nat.le_refl _) _
  case done =>
    rintro xs W rfl ⟨h0, hbel, hall⟩ hD
    have HF := Lib.hid (show Lib.compareInt ps.length qs.length = z by
      rw [HZ.out, cmpP_end (p := bsL ps) (q := bsL qs) (fun j h1 h2 => by
        have hj : j < (ps.zip qs).length := by simp at h1 h2 ⊢; omega
        have := hall _ (List.getElem_mem hj)
        rw [List.getElem_zip] at this
        simpa using this)]
      unfold Lib.compareInt cmpI
      simp only [List.length_map]
      by_cases h1 : (ps.length : Int) < qs.length
      · rw [if_pos h1, if_pos h1]
      · rw [if_neg h1, if_neg h1]
        by_cases h2 : (ps.length : Int) = qs.length
        · rw [if_neg (by omega), if_pos h2]
        · rw [if_pos (by omega), if_neg h2])
    have q0 := h0.cell; have f0 := h0.frozen; have lt0 := h0.lt
    clear hall
    gi_wp2_with fail
    refine ⟨trivial, fun _ => by omega, (callsIn_wide.2 (Try.cmp_Compare_int _ _ _)).mono ?_⟩
    rintro e w9 ⟨rfl, hw9⟩
    rw [hw9]
    clear hw9
    gi_wp2
    rw [HF.out]
    have x1 := h0.set (.int .i64 z)
    have k0 := x1.cell
    rw [hs3] at hD
    have hD2 : (W.setCell ⟨w.heap.size, 0, none⟩ (.int .i64 z)).heap[(w.heap.size + 3)]? = some (.deferred (some [])) := (Below.heap_setCell _ _ _ _ (by simp)).trans hD
    have hp : Kept (· = (w.heap.size + 3)) (W.setCell ⟨w.heap.size, 0, none⟩ (.int .i64 z)) ((W.setCell ⟨w.heap.size, 0, none⟩ (.int .i64 z)).putObj (w.heap.size + 3) (.deferred none)) := Kept.putObj _ _ _ _ rfl
    have k1 := (boxed_kept x1 hp (by omega)).cell
    refine ⟨by simp, .inl ⟨_, _, rfl, run_takeDeferred hD2, ?_⟩⟩
    exact ⟨.int .i64 z, by simp [results, Try.results47, go_sem, k1], rfl, below_kept (hbel.setCell (p := ⟨w.heap.size, 0, none⟩) (Nat.le_refl _) _) hp (Nat.le_refl _) (fun k (h : k = _) => by omega)⟩
  case stop =>
    rintro c pre W hpre ⟨rfl, h0, hbel⟩ hD
    gi_wp2
    have hp : Kept (· = W3.heap.size) W (W.putObj W3.heap.size (.deferred none)) := Kept.putObj _ _ _ _ rfl
    have k1 := (boxed_kept h0 hp (by omega)).cell
    refine ⟨by simp, .inl ⟨_, _, rfl, run_takeDeferred hD, ?_⟩⟩
    exact ⟨.int .i64 z, by simp [results, Try.results47, go_sem, k1], rfl, below_kept hbel hp (Nat.le_refl _) (fun k (h : k = _) => by omega)⟩
end Go.Proofs.Ytbgfeonlnhlbfaa
