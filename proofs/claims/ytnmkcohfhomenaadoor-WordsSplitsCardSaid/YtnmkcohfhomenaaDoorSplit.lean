/- Split: the fields of a line. -/
import Derived.Test.YtnmkcohfhomenaaDoorLong
namespace Go.Proofs.YtnmkcohfhomenaaDoor
open Go.RowKit
attribute [local go_sem] Oper.semAt_some

def fldP (x : Fld) : ByteArray × Bool := (⟨x.s.toArray⟩, x.q)
def fldCells (xs : List Fld) : List Value := xs.flatMap fun x => [.string ⟨x.s.toArray⟩, .bool x.q]
theorem fldCells_len (xs : List Fld) : (fldCells xs).length = xs.length * 2 := by
  induction xs with
  | nil => rfl
  | cons x r ih => simp [fldCells] at *; omega
theorem fldCells_snoc (xs : List Fld) (x : Fld) : fldCells (xs ++ [x]) = fldCells xs ++ [.string ⟨x.s.toArray⟩, .bool x.q] := by simp [fldCells]

theorem Tryd.infoField : (Tryd.prog.info? 50).map (fun i => (i.zero, i.size, i.bytes)) = some (some (.agg #[.string ⟨#[]⟩, .bool false]), 2, 24) := by kernel_rfl

/-- What Split gives back: the number of the error, and the fields. -/
def splitN (l : List UInt8) : Int := if 8192 < l.length then 3 else if (seqOf l).all (·.ok) = false then 6 else if tooL ((seqOf l).map fldP) then 3 else 0
def splitF (l : List UInt8) : List Fld := if splitN l = 0 then seqOf l else []

/-- Between two rounds: the fields that have come lie in the row that the box of l leads to; the boxes of the results are untouched. -/
def SI (w : World) (pre : List Fld) (W : World) : Prop :=
  (∃ v, Boxed W (w.heap.size + 2) 32 v ∧ W.ownsRow (w.heap.size + 7) 50 2 v pre.length (fldCells pre)) ∧
  Boxed W w.heap.size 32 (.slice none 0 0) ∧ Boxed W (w.heap.size + 1) 23 (.int .i64 0) ∧ (∀ x ∈ pre, x.ok = true) ∧ Below w.heap.size w W ∧ pre.length ≤ 8193
def SX (w : World) (pre : List Fld) (W : World) : Prop :=
  (∃ x ∈ pre, x.ok = false) ∧ Boxed W w.heap.size 32 (.slice none 0 0) ∧ Boxed W (w.heap.size + 1) 23 (.int .i64 6) ∧ Below w.heap.size w W

theorem fields_len : ∀ (f : Nat), (∀ l, (fieldsL f l).length ≤ l.length + 1) ∧ (∀ l, (fieldsR f l).length ≤ l.length) := by
  intro f
  induction f with
  | zero => exact ⟨fun l => by simp [fieldsL], fun l => by simp [fieldsR]⟩
  | succ f ih =>
    refine ⟨fun l => ?_, fun l => ?_⟩
    · rw [fieldsL]
      split
      · simp
      · rename_i h
        have := cutF_len _ _ _ _ h
        have := ih.2 ‹_›
        simp; omega
    · cases l with
      | nil => simp [fieldsR]
      | cons a r =>
        rw [fieldsR]; split
        · have := ih.1 r; simp; omega
        · simp
theorem seqOf_len (l : List UInt8) : (seqOf l).length ≤ l.length + 1 := by
  unfold seqOf; split
  · simp
  · exact (fields_len _).1 l

theorem boxed_kept {X : Nat → Prop} {A B : World} {b t : Nat} {v : Value} (h : Boxed A b t v) (hk : Kept X A B) (hx : ¬ X b) : Boxed B b t v := (hk.block b h.lt hx).trans h
theorem row_kept {X : Nat → Prop} {A B : World} {base e size n : Nat} {v : Value} {xs : List Value} (h : A.ownsRow base e size v n xs) (hk : Kept X A B) (hx : ∀ g, base ≤ g → ¬ X g) : B.ownsRow base e size v n xs := by
  refine ⟨h.1, ?_⟩
  rcases h.2 with h2 | ⟨g, cap, cur, a, b, c, d⟩
  · exact .inl h2
  · exact .inr ⟨g, cap, cur, a, b, by rw [hk.block g (Array.getElem?_eq_some_iff.1 c).1 (hx g b)]; exact c, d⟩
theorem below_kept {X : Nat → Prop} {n : Nat} {A B C : World} (h : Below n A B) (hk : Kept X B C) (hn : n ≤ A.heap.size) (hx : ∀ k, X k → n ≤ k) : Below n A C :=
  h.trans (hk.toBelow (Nat.le_trans hn h.size) hx)

theorem fldCells_get : ∀ (xs : List Fld) (k : Nat) (h : k < xs.length), (fldCells xs)[k * 2]? = some (.string (fldP xs[k]).1) ∧ (fldCells xs)[k * 2 + 1]? = some (.bool (fldP xs[k]).2)
  | [], k, h => by simp at h
  | x :: r, 0, _ => by simp [fldCells, fldP]
  | x :: r, k + 1, h => by
    have := fldCells_get r k (by simpa using h)
    have e : fldCells (x :: r) = .string ⟨x.s.toArray⟩ :: .bool x.q :: fldCells r := by simp [fldCells]
    rw [e, show (k + 1) * 2 = k * 2 + 1 + 1 from by omega, show k * 2 + 1 + 1 + 1 = (k * 2 + 1) + 1 + 1 from rfl]
    simpa using this
theorem addr_add (g j : Nat) : (⟨g, 0, none⟩ : Addr).add j = ⟨g, j, none⟩ := by
  unfold Addr.add; split <;> simp_all
theorem fieldsAt_of_row {W : World} {base : Nat} {v : Value} {xs : List Fld} (h : W.ownsRow base 50 2 v xs.length (fldCells xs)) : FieldsAt W v (xs.map fldP) := by
  rcases h.2 with ⟨rfl, h0⟩ | ⟨g, cap, cur, rfl, _, hg, hn, _, _, _⟩
  · have : xs = [] := List.eq_nil_of_length_eq_zero h0
    subst this
    exact .inl ⟨none, 0, rfl, rfl⟩
  · refine .inr ⟨g, 0, cap, by rw [List.length_map], (Array.getElem?_eq_some_iff.1 hg).1, fun k hk => ?_⟩
    rw [List.length_map] at hk
    have hh := fldCells_get xs k hk
    have e0 := h.cells (g := g) rfl _ _ hh.1
    have e1 := h.cells (g := g) rfl _ _ hh.2
    rw [List.getElem_map]
    rw [addr_add] at e0 e1
    rw [Nat.zero_add]
    exact ⟨e0, e1⟩

theorem boxed_set {W : World} {b t : Nat} {v : Value} (h : Boxed W b t v) (u : Value) : Boxed (W.setCell ⟨b, 0, none⟩ u) b t u := by
  have h' : W.heap[b]? = _ := h
  simp [Boxed, World.setCell, Array.getElem?_modify, h']
theorem row_set {W : World} {base e size n b j : Nat} {v u : Value} {xs : List Value} (h : W.ownsRow base e size v n xs) (hb : b < base) : (W.setCell ⟨b, j, none⟩ u).ownsRow base e size v n xs :=
  ownsRow_setCell_below h (a := ⟨b, j, none⟩) hb u

/-- The function's end: the two results are stored, and the deferred calls' block is taken. -/
theorem split_fin (b : Nat) (W2 : World) (v0 v1 V U : Value) (g0 : Boxed W2 b 32 v0) (g1 : Boxed W2 (b + 1) 23 v1) (hD : W2.heap[b + 4]? = some (.deferred (some []))) :
    ((W2.setCell ⟨b, 0, none⟩ V).setCell ⟨b + 1, 0, none⟩ U).heap[b + 4]? = some (.deferred (some [])) ∧
    Boxed (((W2.setCell ⟨b, 0, none⟩ V).setCell ⟨b + 1, 0, none⟩ U).putObj (b + 4) (.deferred none)) b 32 V ∧
    Boxed (((W2.setCell ⟨b, 0, none⟩ V).setCell ⟨b + 1, 0, none⟩ U).putObj (b + 4) (.deferred none)) (b + 1) 23 U ∧
    Kept (fun k => k = b ∨ k = b + 1 ∨ k = b + 4) W2 (((W2.setCell ⟨b, 0, none⟩ V).setCell ⟨b + 1, 0, none⟩ U).putObj (b + 4) (.deferred none)) := by
  have k1 : Kept (fun k => k = b ∨ k = b + 1 ∨ k = b + 4) W2 ((W2.setCell ⟨b, 0, none⟩ V).setCell ⟨b + 1, 0, none⟩ U) := ((Kept.refl _ W2).setCell ⟨b, 0, none⟩ (.inl rfl) V).setCell ⟨b + 1, 0, none⟩ (.inr (.inl rfl)) U
  have hp : Kept (· = b + 4) ((W2.setCell ⟨b, 0, none⟩ V).setCell ⟨b + 1, 0, none⟩ U) (((W2.setCell ⟨b, 0, none⟩ V).setCell ⟨b + 1, 0, none⟩ U).putObj (b + 4) (.deferred none)) := Kept.putObj _ _ _ _ rfl
  have q0 : Boxed ((W2.setCell ⟨b, 0, none⟩ V).setCell ⟨b + 1, 0, none⟩ U) b 32 V := (boxed_set g0 V).other (by omega) U
  have q1 : Boxed ((W2.setCell ⟨b, 0, none⟩ V).setCell ⟨b + 1, 0, none⟩ U) (b + 1) 23 U := boxed_set (g1.other (by omega) V) U
  exact ⟨((Below.heap_setCell _ _ _ _ (by simp)).trans (Below.heap_setCell _ _ _ _ (by simp))).trans hD, boxed_kept q0 hp (by omega), boxed_kept q1 hp (by omega), k1.trans (hp.mono (fun k h => .inr (.inr h)))⟩

set_option maxHeartbeats 4000000 in
set_option maxRecDepth 100000 in
theorem split_in (n : Nat) (hn : 5 ≤ n) (line : ByteArray) (w : World) (hE : Env w) (hsz : line.size ≤ 8192) :
    CallsIn Fence.wide n Tryd.prog 23 #[.string line] w fun e w' => ∃ v, e = .returned (.tuple #[v, .int .i64 (splitN line.data.toList)]) ∧
      w'.ownsRow w.heap.size 50 2 v (splitF line.data.toList).length (fldCells (splitF line.data.toList)) ∧ Below w.heap.size w w' := by
  have h9 := hE.nine
  obtain ⟨i0, hi, hz0, hz1, hz2⟩ := info_parts Tryd.infoField
  refine callsIn_of_wp_marks Tryd.func23 rfl trivial ?_ rfl
  simp only [Tryd.ntmps23, List.size_toArray, List.length_cons, List.length_nil, Nat.reduceAdd, Nat.reduceSub, Array.replicate_succ, Array.replicate_zero, List.push_toArray, List.append_toArray, List.nil_append, List.cons_append]
  gi_wp2_with fail
  refine ⟨trivial, fun _ => by omega, (callsIn_wide.2 (fields_any _ _)).mono ?_⟩
  rintro e w' ⟨rfl, rfl⟩
  gi_wp2_with fail
  obtain ⟨W4, hW4⟩ : ∃ W4, (((w.alloc (.cells #[.slice none 0 0] 32)).alloc (.cells #[.int .i64 0] 23)).alloc (.cells #[.slice none 0 0] 32)).alloc (.cells #[.string line] 9) = W4 := ⟨_, rfl⟩
  have hs4 : W4.heap.size = w.heap.size + 4 := by rw [← hW4]; simp
  have hk4 : Kept (fun _ => False) w W4 := by rw [← hW4]; exact ((((Kept.refl _ w).alloc _).alloc _).alloc _).alloc _
  have hB4 : Below w.heap.size w W4 := hk4.toBelow (Nat.le_refl _) (fun _ h => h.elim)
  have hE4 := hE.below hB4 h9
  have b0 : Boxed W4 w.heap.size 32 (.slice none 0 0) := by rw [← hW4]; exact (((Boxed.new w _ _).alloc _).alloc _).alloc _
  have b1 : Boxed W4 (w.heap.size + 1) 23 (.int .i64 0) := by
    rw [← hW4]; have := Boxed.new (w.alloc (.cells #[.slice none 0 0] 32)) 23 (.int .i64 0); rw [World.size_alloc] at this; exact (this.alloc _).alloc _
  have b2 : Boxed W4 (w.heap.size + 2) 32 (.slice none 0 0) := by
    rw [← hW4]; have := Boxed.new ((w.alloc (.cells #[.slice none 0 0] 32)).alloc (.cells #[.int .i64 0] 23)) 32 (.slice none 0 0); rw [World.size_alloc, World.size_alloc] at this; exact this.alloc _
  have b3 : Boxed W4 (w.heap.size + 3) 9 (.string line) := by
    rw [← hW4]; have := Boxed.new (((w.alloc (.cells #[.slice none 0 0] 32)).alloc (.cells #[.int .i64 0] 23)).alloc (.cells #[.slice none 0 0] 32)) 9 (.string line); rw [World.size_alloc, World.size_alloc, World.size_alloc] at this; exact this
  rw [hW4]
  clear hW4 hk4
  have hI : Stays (fun k => k = W4.heap.size ∨ k = W4.heap.size + 1 ∨ k = W4.heap.size + 2) (SI w) := by
    rintro s A B ⟨⟨v, hv, hrow⟩, h0, h1, hall, hbel, hl⟩ hk
    rw [hs4] at hk
    exact ⟨⟨v, boxed_kept hv hk (by omega), row_kept hrow hk (fun g hg => by omega)⟩, boxed_kept h0 hk (by omega), boxed_kept h1 hk (by omega), hall, below_kept hbel hk (Nat.le_refl _) (fun k hx => by omega), hl⟩
  have hIx : Stays (fun k => k = W4.heap.size ∨ k = W4.heap.size + 1 ∨ k = W4.heap.size + 2) (SX w) := by
    rintro s A B ⟨hx, h0, h1, hbel⟩ hk
    rw [hs4] at hk
    exact ⟨hx, boxed_kept h0 hk (by omega), boxed_kept h1 hk (by omega), below_kept hbel hk (Nat.le_refl _) (fun k hx => by omega)⟩
  refine range_law (n := n) rfl (by omega) (gf := 73) (lb := #[.pointer (some ⟨w.heap.size + 1 + 1 + 1, 0, none⟩)]) rfl trivial (enters_of Tryd.func73 (by kernel_rfl) rfl) (by omega)
    (C := fun xs => xs <+: seqOf line.data.toList) (S := fun xs => xs = seqOf line.data.toList) (Sp := fun pre => pre <+: seqOf line.data.toList) (encs := Fld.encs)
    (fun W1 hb1 hs1 => ?_) (fun _ => rfl) (SI w) (SX w) hI hIx ⟨⟨_, b2, World.ownsRow_nil _ _ _ _⟩, b0, b1, (fun x hx => by cases hx), hB4, Nat.zero_le _⟩ ?round ?done ?stop
  · have hbx : Boxed W1 (w.heap.size + 3) 9 (.string line) := (hb1.block _ (by omega)).trans b3
    have := fields1_seq (n - 1) (by omega) line (w.heap.size + 3) W1 hsz hbx.lt (hE4.below hb1 (by omega)) hbx.cell
    rw [hs1] at this
    exact this
  case round =>
    rintro pre ⟨xs, xq, xok⟩ W hSI hbf hC K hK
    unfold Fld.encs
    gi_wp2
    refine hK _ _ ((Kept.refl _ _).alloc _) ?_
    intro W2 hk2
    have hkk : Kept (fun k => k = W4.heap.size ∨ k = W4.heap.size + 1 ∨ k = W4.heap.size + 2) W W2 := ((Kept.refl _ _).alloc _).trans (hk2.mono (fun k h => .inr (.inl h)))
    obtain ⟨⟨v, hv, hrow⟩, h0, h1, hall, hbel, hl⟩ := hI _ _ _ hSI hkk
    have hf := World.alloc_heap_new W (.cells #[.string ⟨xs.toArray⟩, .bool xq] 50)
    have hf2 : W2.heap[W.heap.size]? = some (.cells #[.string ⟨xs.toArray⟩, .bool xq] 50 (0, 0)) := (hk2.block _ (bf_lt hf) (by omega)).trans hf
    have hsz2 : W.heap.size < W2.heap.size := bf_lt hf2
    have c0 := cell0 hf2
    have c1 := cell1 hf2
    have hpl : pre.length + 1 ≤ 8193 := by
      have := seqOf_len line.data.toList; rw [size_len] at this
      have := hC.length_le
      rw [List.length_append, List.length_singleton] at this; omega
    clear hf hk2 hkk hSI hf2
    cases xok with
    | false =>
      have q0 := h0.cell; have f0 := h0.frozen; have q1 := h1.cell; have f1 := h1.frozen
      have hlt0 := h0.lt; have hlt1 := h1.lt
      gi_wp2
      refine ⟨?_, ⟨_, List.mem_append_right _ (List.mem_singleton.2 rfl), rfl⟩, ?_, ?_, ?_⟩
      · exact ((Kept.refl _ _).setCell ⟨w.heap.size, 0, none⟩ (by unfold Free2; simp; omega) _).setCell ⟨w.heap.size + 1, 0, none⟩ (by unfold Free2; simp; omega) _
      · exact (boxed_set h0 _).other (by omega) _
      · exact boxed_set (h1.other (by omega) _) _
      · exact (hbel.setCell (p := ⟨w.heap.size, 0, none⟩) (Nat.le_refl _) _).setCell (p := ⟨w.heap.size + 1, 0, none⟩) (by simp) _
    | true =>
      have hcv := hv.cell; have hfv := hv.frozen; have hltv := hv.lt
      have hm1 : pre.length + 1 ≤ maxLen := by unfold maxLen; omega
      gi_wp2_with (gi_at_builtin; refine wpListIn_append_own _ rfl _ _ 32 rfl (w.heap.size + 7) 50 i0 (.agg #[.string ⟨#[]⟩, .bool false]) 2 24 Tryd.underlying32 hi hz0 hz1 hz2 rfl (by decide) _ _ _ rfl (hrow.alloc _) ⟨W2.heap.size, 0, none⟩ 1 1 [.string ⟨xs.toArray⟩, .bool xq] rfl rfl (cell_two_new _ _ _ _) (by simp [Value.oneCell']) hm1 (by omega) (by simp; omega) ?_; intro v' w1 hown' hgrow _; obtain ⟨g', cap', rfl⟩ := ownsRow_succ hown'; have hkw : Kept (fun k => w.heap.size + 7 ≤ k) W2 w1 := (Kept.alloc (Kept.refl _ W2) _).grown hgrow (fun k e => .inl (hrow.lt k e).1); have hv1 := boxed_kept hv hkw (by omega); have hcv1 := hv1.cell; have hfv1 := hv1.frozen; have hlt1 := hv1.lt)
      have hb0 := boxed_kept h0 hkw (by omega)
      have hb1 := boxed_kept h1 hkw (by omega)
      have hkr : Kept (Free2 W4.heap.size (W4.heap.size + 2)) W2 w1 := hkw.mono (fun k (h : w.heap.size + 7 ≤ k) => by unfold Free2; omega)
      refine ⟨hkr.setCell ⟨w.heap.size + 2, 0, none⟩ (by unfold Free2; simp; omega) _, ⟨_, boxed_set hv1 _, ?_⟩, hb0.other (by omega) _, hb1.other (by omega) _, ?_, ?_, ?_⟩
      · rw [fldCells_snoc, List.length_append]
        exact row_set hown' (by omega)
      · intro y hy
        rcases List.mem_append.1 hy with hy | hy
        · exact hall y hy
        · rw [List.mem_singleton.1 hy]
      · exact (below_kept hbel hkw (Nat.le_refl _) (fun k (h : w.heap.size + 7 ≤ k) => by omega)).setCell (p := ⟨w.heap.size + 2, 0, none⟩) (by simp) _
      · rw [List.length_append, List.length_singleton]; omega
  case done =>
    rintro xs W rfl ⟨⟨v, hv, hrow⟩, h0, h1, hall, hbel, hl⟩ hD
    have hfa := fieldsAt_of_row hrow
    have hcv := hv.cell
    have hT := tooLong_any v _ W hfa (by rw [List.length_map]; omega)
    gi_wp2_with fail
    refine ⟨trivial, fun _ => by omega, (callsIn_wide.2 hT).mono ?_⟩
    rintro e W2 ⟨rfl, hb2⟩
    have hkb : Kept (fun _ => False) W W2 := (Kept.refl _ W).below hb2
    have hszW := hbel.size
    have g0 := boxed_kept h0 hkb (fun h => h)
    have g1 := boxed_kept h1 hkb (fun h => h)
    have g2 := boxed_kept hv hkb (fun h => h)
    have gr := row_kept hrow hkb (fun _ _ h => h)
    have hbel2 := below_kept hbel hkb (Nat.le_refl _) (fun k h => h.elim)
    have hD2 : W2.heap[W4.heap.size]? = some (.deferred (some [])) := (hb2.block _ (bf_lt hD)).trans hD
    have c0 := g0.cell; have f0 := g0.frozen; have c1 := g1.cell; have f1 := g1.frozen; have c2 := g2.cell
    have l0 := g0.lt; have l1 := g1.lt
    have hA : (seqOf line.data.toList).all (·.ok) = true := by rw [List.all_eq_true]; exact hall
    cases hTL : tooL ((seqOf line.data.toList).map fldP) with
    | true =>
      have hN : splitN line.data.toList = 3 := by
        unfold splitN
        rw [if_neg (by rw [size_len]; omega), if_neg (by rw [hA]; decide), if_pos hTL]
      have hF : splitF line.data.toList = [] := by unfold splitF; rw [hN]; rfl
      have HN := Lib.hid hN; have HF := Lib.hid hF
      clear hall hA hN hF
      gi_wp2
      rw [hs4] at hD2
      obtain ⟨x0, x1, x2, x3⟩ := split_fin _ _ _ _ (.slice none 0 0) (.int .i64 3) g0 g1 hD2
      have k0 := x1.cell; have k1 := x2.cell
      refine ⟨by simp, .inl ⟨_, _, rfl, run_takeDeferred x0, ?_⟩⟩
      refine ⟨.tuple #[.slice none 0 0, .int .i64 3], by simp [results, Tryd.results23, go_sem, k0, k1], _, by rw [HN.out], by rw [HF.out]; exact World.ownsRow_nil _ _ _ _, ?_⟩
      exact below_kept hbel2 x3 (Nat.le_refl _) (fun k h => by omega)
    | false =>
      have hN : splitN line.data.toList = 0 := by
        unfold splitN
        rw [if_neg (by rw [size_len]; omega), if_neg (by rw [hA]; decide), if_neg (by rw [hTL]; decide)]
      have hF : splitF line.data.toList = seqOf line.data.toList := by unfold splitF; rw [if_pos hN]
      have HN := Lib.hid hN; have HF := Lib.hid hF
      clear hall hA hN hF
      rw [hs4] at hD2
      obtain ⟨x0, x1, x2, x3⟩ := split_fin _ _ _ _ v (.int .i64 0) g0 g1 hD2
      have hrw := row_kept gr x3 (fun g hg => by omega)
      have hrw' : ((W2.setCell ⟨w.heap.size, 0, none⟩ v).setCell ⟨w.heap.size + 1, 0, none⟩ (.int .i64 0) |>.putObj (w.heap.size + 4) (.deferred none)).ownsRow w.heap.size 50 2 v (seqOf line.data.toList).length (fldCells (seqOf line.data.toList)) := by
        refine ⟨hrw.1, ?_⟩
        rcases hrw.2 with h2 | ⟨g, cap, cur, a, b, c, d⟩
        · exact .inl h2
        · exact .inr ⟨g, cap, cur, a, by omega, c, d⟩
      have hbl := below_kept hbel2 x3 (Nat.le_refl _) (fun k h => by omega)
      have k0 := x1.cell; have k1 := x2.cell
      have Hrw := Lib.hid hrw'; have Hbl := Lib.hid hbl
      clear hrw hrw' hbl x1 x2 x3
      rcases gr.2 with ⟨rfl, _⟩ | ⟨g, cap, cur, rfl, _⟩
      · gi_wp2
        refine ⟨by simp, .inl ⟨_, _, rfl, run_takeDeferred x0, ?_⟩⟩
        exact ⟨.tuple #[.slice none 0 0, .int .i64 0], by simp [results, Tryd.results23, go_sem, k0, k1], _, by rw [HN.out], by rw [HF.out]; exact Hrw.out, Hbl.out⟩
      · gi_wp2
        refine ⟨by simp, .inl ⟨_, _, rfl, run_takeDeferred x0, ?_⟩⟩
        exact ⟨.tuple #[.slice (some ⟨g, 0, none⟩) (seqOf line.data.toList).length cap, .int .i64 0], by simp [results, Tryd.results23, go_sem, k0, k1], _, by rw [HN.out], by rw [HF.out]; exact Hrw.out, Hbl.out⟩
  case stop =>
    rintro pre W hpre ⟨⟨x, hx, hbad⟩, h0, h1, hbel⟩ hD
    have q0 := h0.cell; have q1 := h1.cell
    gi_wp2
    refine ⟨by simp, .inl ⟨_, _, rfl, run_takeDeferred hD, ?_⟩⟩
    have hp : Kept (· = W4.heap.size) W (W.putObj W4.heap.size (.deferred none)) := Kept.putObj _ _ _ _ rfl
    have g0 := boxed_kept h0 hp (by omega)
    have g1 := boxed_kept h1 hp (by omega)
    have hN : splitN line.data.toList = 6 := by
      unfold splitN
      rw [if_neg (by rw [size_len]; omega), if_pos]
      rw [List.all_eq_false]
      exact ⟨x, hpre.subset hx, by simp [hbad]⟩
    have hF : splitF line.data.toList = [] := by unfold splitF; rw [hN]; rfl
    rw [hN, hF]
    have k0 := g0.cell; have k1 := g1.cell
    refine ⟨.tuple #[.slice none 0 0, .int .i64 6], by simp [results, Tryd.results23, go_sem, k0, k1], _, rfl, World.ownsRow_nil _ _ _ _, ?_⟩
    exact below_kept hbel hp (Nat.le_refl _) (fun k (h : k = _) => by omega)
end Go.Proofs.YtnmkcohfhomenaaDoor
