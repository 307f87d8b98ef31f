/- A map by letters: kindsByLetter, kindsOf. -/
import Derived.Test.YtnocmkjaifjgfaaDoorREncD
import Derived.MapKept
import Derived.Maps.OwnOps
namespace Go.Proofs.YtnocmkjaifjgfaaDoor.R
open Go.RowKit Go.MapKept

/-- The block b is a map from letters that reads as f. -/
def MapIs (w : World) (b : Nat) (f : Nat → Option Value) : Prop :=
  ∃ es clock, w.heap[b]? = some (.map es clock) ∧ ∀ c : Nat, ∃ r, Instr.findNow (.int .u8) (.int .u8 c) es.toList 0 = some r ∧ r.map (·.2) = f c
def updF (f : Nat → Option Value) (c : Nat) (v : Value) (x : Nat) : Option Value := if x = c then some v else f x
theorem sameNow_u8 (a b : Nat) : Instr.sameNow (.int .u8) (.int .u8 a) (.int .u8 b) = some (decide (a = b)) := by
  by_cases h : a = b
  · subst h; simp [Instr.sameNow]
  · have h2 : ¬ ((a : Int) = b) := by omega
    simp [Instr.sameNow, h, h2]
theorem findNow_push (a c : Nat) (v : Value) (bn : Nat) : ∀ (l : List MapEntry) (i : Nat) (r : Option (Nat × Value)), Instr.findNow (.int .u8) (.int .u8 a) l i = some r →
    ∃ r', Instr.findNow (.int .u8) (.int .u8 a) (l ++ [{ key := .int .u8 c, val := v, born := bn }]) i = some r' ∧ r'.map (·.2) = (if r.isSome then r.map (·.2) else if a = c then some v else none)
  | [], i, r, h => by
    simp [Instr.findNow] at h; subst h
    by_cases e : a = c
    · subst e; exact ⟨some (i, v), by simp [Instr.findNow, sameNow_u8], by simp⟩
    · exact ⟨none, by simp [Instr.findNow, sameNow_u8, e], by simp [e]⟩
  | x :: l, i, r, h => by
    simp only [Instr.findNow, List.cons_append] at h ⊢
    cases hs : Instr.sameNow (.int .u8) (.int .u8 (a : Int)) x.key with
    | none => rw [hs] at h; cases h
    | some q =>
      rw [hs] at h
      cases q with
      | true => simp at h; subst h; exact ⟨_, rfl, by simp⟩
      | false => exact findNow_push a c v bn l (i + 1) r h
theorem mapIs_new (w : World) : MapIs (w.alloc (.map #[] 0)) w.heap.size (fun _ => none) := ⟨#[], 0, heap_alloc_new w _, fun c => ⟨none, rfl, rfl⟩⟩
theorem MapIs.lt {w : World} {b : Nat} {f : Nat → Option Value} (h : MapIs w b f) : b < w.heap.size := by
  obtain ⟨es, cl, hb, _⟩ := h; exact (Array.getElem?_eq_some_iff.1 hb).1
theorem MapIs.kept {X : Nat → Prop} {w w' : World} {b : Nat} {f : Nat → Option Value} (h : MapIs w b f) (hk : Kept X w w') (hx : ¬ X b) : MapIs w' b f := by
  obtain ⟨es, cl, hb, hf⟩ := h; exact ⟨es, cl, (hk.block b (Array.getElem?_eq_some_iff.1 hb).1 hx).trans hb, hf⟩
theorem run_insert {w : World} {b c : Nat} {f : Nat → Option Value} {val : Value} (h : MapIs w b f) (hn : f c = none) :
    ∃ w', (Instr.mapUpdate 73 (.map (some b)) (.int .u8 c) val).run Tryd.prog w = .ok () w' ∧ MapIs w' b (updF f c val) ∧ Kept (fun k => k = b) w w' := by
  obtain ⟨es, cl, hb, hf⟩ := h
  obtain ⟨r, hr, hrf⟩ := hf c
  have hr0 : r = none := by
    rw [hn] at hrf; cases r with
    | none => rfl
    | some q => simp at hrf
  subst hr0
  refine ⟨{ w with heap := w.heap.setIfInBounds b (.map (es.push { key := .int .u8 c, val := val, born := cl }) (cl + 1)) }, ?_, ?_, ?_⟩
  · unfold Instr.mapUpdate
    have hck := run_checkKey (P := Tryd.prog) (w := w) (kt := 5) (d := .int .u8) (k := .int .u8 c) Tryd.underlying5 (by simp [IsKey]) false 9999
    have hfk := run_findKey (P := Tryd.prog) (w := w) (kt := 5) Tryd.underlying5 hr
    have hso := run_setObj_map (P := Tryd.prog) (.map (es.push { key := .int .u8 c, val := val, born := cl }) (cl + 1)) hb
    have hgo : (getObj b).run Tryd.prog w = .ok (.map es cl) w := by simp [getObj, Sem.run, hb]
    simp [run_underlying Tryd.underlying73, hgo, hck, hfk, hso, Result.andThen]
  · refine ⟨_, _, (heap_set hb).1, fun a => ?_⟩
    obtain ⟨ra, hra, hraf⟩ := hf a
    obtain ⟨r', h1, h2⟩ := findNow_push a c val cl es.toList 0 ra hra
    refine ⟨r', by rw [Array.toList_push]; exact h1, ?_⟩
    rw [h2]
    unfold updF
    by_cases e : a = c
    · subst e
      rw [hra] at hr; cases hr
      simp
    · rw [if_neg e, if_neg e, ← hraf]
      cases ra <;> simp
  · exact ⟨rfl, rfl, rfl, by simp, fun k hk hx => (heap_set hb).2 k hx⟩
theorem wpList_insert_own {w : World} {ops : Array Oper} {rest : List Oper} {o : Oper} {a : Act} {Q : Exit → Act → World → Prop} (hgd : o.guard = none) (m k x : Operand)
    (ho : o.op = .insert 73 m k x) (b c : Nat) (f : Nat → Option Value) (val : Value) (hm : a.eval m = .map (some b)) (hk : a.eval k = .int .u8 c) (hx : a.eval x = val) (h : MapIs w b f) (hn : f c = none)
    (hK : ∀ w', MapIs w' b (updF f c val) → Kept (fun k => k = b) w w' → wpList Tryd.prog ops Q rest (a.put o.dst undef) w') : wpList Tryd.prog ops Q (o :: rest) a w := by
  refine wpList_plain hgd fun K hK' => ?_
  obtain ⟨w', hr, h1, h2⟩ := run_insert (val := val) h hn
  unfold Oper.wp
  simp [execOp, ho, hm, hk, hx, hr, Result.andThen]
  exact hK' _ _ (hK w' h1 h2)
def kindF (sz wf rf : Nat) : Value := .agg #[.int .i64 sz, .func (.func wf) #[] #[], .func (.func rf) #[] #[]]
def letF : Nat → Option Value :=
  updF (updF (updF (updF (updF (updF (updF (fun _ => none) 98 (kindF 1 44 45)) 119 (kindF 2 44 45)) 100 (kindF 4 44 45)) 113 (kindF 8 44 45)) 118 (kindF 0 46 47)) 115 (kindF 400 48 49)) 108 (kindF 60 50 51)

set_option maxHeartbeats 1000000 in
theorem byLetter_any (w : World) :
    Calls Tryd.prog 35 #[] w fun e w' => e = .returned (.map (some w.heap.size)) ∧ MapIs w' w.heap.size letF ∧ Below w.heap.size w w' := by
  have hmm := @run_makeMap Tryd.prog
  have HK0 := Lib.hid ((Kept.refl (fun k => k = w.heap.size) w).alloc (.map #[] 0))
  have H0 := Lib.hid (mapIs_new w)
  go_enter Tryd.func35, Tryd.ntmps35
  go_wp2_with (first
    | (refine wpList_insert_own (by rfl) _ _ _ (by rfl) w.heap.size 98 _ (kindF 1 44 45) (by rfl) (by rfl) (by rfl) H0.out (by rfl) ?_; intro w1 h1 k1; have H1 := Lib.hid h1; have HK1 := Lib.hid (HK0.out.trans k1); clear h1 k1)
    | (refine wpList_insert_own (by rfl) _ _ _ (by rfl) w.heap.size 119 _ (kindF 2 44 45) (by rfl) (by rfl) (by rfl) H1.out (by rfl) ?_; intro w2 h2 k2; have H2 := Lib.hid h2; have HK2 := Lib.hid (HK1.out.trans k2); clear h2 k2)
    | (refine wpList_insert_own (by rfl) _ _ _ (by rfl) w.heap.size 100 _ (kindF 4 44 45) (by rfl) (by rfl) (by rfl) H2.out (by rfl) ?_; intro w3 h3 k3; have H3 := Lib.hid h3; have HK3 := Lib.hid (HK2.out.trans k3); clear h3 k3)
    | (refine wpList_insert_own (by rfl) _ _ _ (by rfl) w.heap.size 113 _ (kindF 8 44 45) (by rfl) (by rfl) (by rfl) H3.out (by rfl) ?_; intro w4 h4 k4; have H4 := Lib.hid h4; have HK4 := Lib.hid (HK3.out.trans k4); clear h4 k4)
    | (refine wpList_insert_own (by rfl) _ _ _ (by rfl) w.heap.size 118 _ (kindF 0 46 47) (by rfl) (by rfl) (by rfl) H4.out (by rfl) ?_; intro w5 h5 k5; have H5 := Lib.hid h5; have HK5 := Lib.hid (HK4.out.trans k5); clear h5 k5)
    | (refine wpList_insert_own (by rfl) _ _ _ (by rfl) w.heap.size 115 _ (kindF 400 48 49) (by rfl) (by rfl) (by rfl) H5.out (by rfl) ?_; intro w6 h6 k6; have H6 := Lib.hid h6; have HK6 := Lib.hid (HK5.out.trans k6); clear h6 k6)
    | (refine wpList_insert_own (by rfl) _ _ _ (by rfl) w.heap.size 108 _ (kindF 60 50 51) (by rfl) (by rfl) (by rfl) H6.out (by rfl) ?_; intro w7 h7 k7; have H7 := Lib.hid h7; have HK7 := Lib.hid (HK6.out.trans k7); clear h7 k7))
  go_ret
  exact ⟨rfl, H7.out, HK7.out.toBelow (Nat.le_refl _) (fun k hk e => by omega)⟩

/-! ### the look-up -/
theorem zeroKind (w : World) : (zeroValue 58).run Tryd.prog w = .ok (.agg #[.int .i64 0, .nilFunc, .nilFunc]) w := by kernel_rfl
theorem run_look {w : World} {b c : Nat} {f : Nat → Option Value} (h : MapIs w b f) :
    (Instr.lookup 73 (.map (some b)) (.int .u8 c) true).run Tryd.prog w = .ok (.tuple #[(f c).getD (.agg #[.int .i64 0, .nilFunc, .nilFunc]), .bool (f c).isSome]) w := by
  obtain ⟨es, cl, hb, hf⟩ := h
  obtain ⟨r, hr, hrf⟩ := hf c
  unfold Instr.lookup
  have hck := run_checkKey (P := Tryd.prog) (w := w) (kt := 5) (d := .int .u8) (k := .int .u8 c) Tryd.underlying5 (by simp [IsKey]) es.isEmpty 9999
  have hfk := run_findKey (P := Tryd.prog) (w := w) (kt := 5) Tryd.underlying5 hr
  have hgo : (getObj b).run Tryd.prog w = .ok (.map es cl) w := by simp [getObj, Sem.run, hb]
  simp only [Sem.run_bind, run_underlying Tryd.underlying73, Result.andThen_ok, hgo, Sem.run_pure, hck, hfk]
  rw [← hrf]
  cases r with
  | none => simp [zeroKind]
  | some q => simp
theorem wpList_look {w : World} {ops : Array Oper} {rest : List Oper} {o : Oper} {a : Act} {Q : Exit → Act → World → Prop} (hgd : o.guard = none) (m x : Operand)
    (ho : o.op = .lookup 73 m x true) (b c : Nat) (f : Nat → Option Value) (u : Value) (ok : Bool) (hm : a.eval m = .map (some b)) (hx : a.eval x = .int .u8 c) (h : MapIs w b f) (hu : (f c).getD (.agg #[.int .i64 0, .nilFunc, .nilFunc]) = u) (hok : (f c).isSome = ok)
    (hK : wpList Tryd.prog ops Q rest (a.put o.dst (.tuple #[u, .bool ok])) w) : wpList Tryd.prog ops Q (o :: rest) a w := by
  refine wpList_plain hgd fun K hK' => ?_
  have hr := run_look (c := c) h
  rw [hu, hok] at hr
  unfold Oper.wp
  simp [execOp, ho, hm, hx, hr, Result.andThen]
  exact hK' _ _ hK

/-! ### the kinds of a form -/
def szV (c : Nat) : Nat := if c = 118 then 0 else if c = 115 then 400 else if c = 108 then 60 else widV c
def wfV (c : Nat) : Nat := if c = 118 then 46 else if c = 115 then 48 else if c = 108 then 50 else 44
def rfV (c : Nat) : Nat := if c = 118 then 47 else if c = 115 then 49 else if c = 108 then 51 else 45
theorem letF_yes (c : Nat) (h : kindB c = true) : letF c = some (kindF (szV c) (wfV c) (rfV c)) := by
  unfold kindB at h
  simp at h
  rcases h with rfl | rfl | rfl | rfl | rfl | rfl | rfl <;> rfl
theorem letF_no (c : Nat) (h : kindB c = false) : letF c = none := by
  unfold kindB at h
  simp at h
  unfold letF updF
  simp [h]
def Blk (w : World) (g : Nat) (t : TypeId) (cs : Array Value) : Prop := w.heap[g]? = some (.cells cs t (0, 0))
theorem Blk.lt {w : World} {g : Nat} {t : TypeId} {cs : Array Value} (h : Blk w g t cs) : g < w.heap.size := (Array.getElem?_eq_some_iff.1 h).1
theorem Blk.cell {w : World} {g : Nat} {t : TypeId} {cs : Array Value} (h : Blk w g t cs) (i : Nat) : w.cell? ⟨g, i, none⟩ = cs[i]? := cell_of_row w g i cs t (0, 0) h
theorem Blk.frozen {w : World} {g : Nat} {t : TypeId} {cs : Array Value} (h : Blk w g t cs) (i : Nat) : w.frozen? ⟨g, i, none⟩ = false := by
  unfold Blk at h; simp [World.frozen?, h]
theorem Blk.set_ {w : World} {g : Nat} {t : TypeId} {cs : Array Value} (h : Blk w g t cs) (i : Nat) (u : Value) : Blk (w.setCell ⟨g, i, none⟩ u) g t (cs.setIfInBounds i u) := by
  unfold Blk at h ⊢
  simp [World.setCell, Array.getElem?_modify, h]
theorem Blk.far {w : World} {g : Nat} {t : TypeId} {cs : Array Value} (h : Blk w g t cs) {p : Addr} (hp : g ≠ p.block) (u : Value) : Blk (w.setCell p u) g t cs := (Below.heap_setCell w p u g hp).trans h
theorem Blk.alloc {w : World} {g : Nat} {t : TypeId} {cs : Array Value} (h : Blk w g t cs) (o : Obj) : Blk (w.alloc o) g t cs := (Below.heap_alloc w o g h.lt).trans h
theorem Blk.below {w w' : World} {g B : Nat} {t : TypeId} {cs : Array Value} (h : Blk w g t cs) (hb : Below B w w') (hg : g < B) : Blk w' g t cs := (hb.block g hg).trans h
/-- Block g holds the kinds of the form l, k of them. -/
def KindsIn (w : World) (g : Nat) (l : List UInt8) (k : Nat) : Prop :=
  ∃ cs, Blk w g 58 cs ∧ cs.size = l.length * 3 ∧ ∀ j (h : j < l.length), j < k → cs[j * 3]? = some (.int .i64 (szV l[j].toNat)) ∧ cs[j * 3 + 1]? = some (.func (.func (wfV l[j].toNat)) #[] #[]) ∧ cs[j * 3 + 2]? = some (.func (.func (rfV l[j].toNat)) #[] #[])
theorem KindsIn.lt {w : World} {g k : Nat} {l : List UInt8} (h : KindsIn w g l k) : g < w.heap.size := by obtain ⟨cs, h, _⟩ := h; exact h.lt
theorem KindsIn.below {w w' : World} {g k B : Nat} {l : List UInt8} (h : KindsIn w g l k) (hb : Below B w w') (hg : g < B) : KindsIn w' g l k := by
  obtain ⟨cs, h1, h2, h3⟩ := h; exact ⟨cs, h1.below hb hg, h2, h3⟩
theorem KindsIn.step {w : World} {g k : Nat} {l : List UInt8} (h : KindsIn w g l k) (hk : k < l.length) :
    KindsIn (((w.setCell ⟨g, k * 3, none⟩ (.int .i64 (szV l[k].toNat))).setCell ⟨g, k * 3 + 1, none⟩ (.func (.func (wfV l[k].toNat)) #[] #[])).setCell ⟨g, k * 3 + 2, none⟩ (.func (.func (rfV l[k].toNat)) #[] #[])) g l (k + 1) := by
  obtain ⟨cs, h1, h2, h3⟩ := h
  refine ⟨_, ((h1.set_ _ _).set_ _ _).set_ _ _, by simpa using h2, fun j hj hjk => ?_⟩
  simp only [Array.getElem?_setIfInBounds]
  by_cases e : j = k
  · subst e
    simp [h2]
    omega
  · have hjk2 : j < k := by omega
    obtain ⟨a0, a1, a2⟩ := h3 j hj hjk2
    refine ⟨?_, ?_, ?_⟩
    · rw [if_neg (by omega), if_neg (by omega), if_neg (by omega)]; exact a0
    · rw [if_neg (by omega), if_neg (by omega), if_neg (by omega)]; exact a1
    · rw [if_neg (by omega), if_neg (by omega), if_neg (by omega)]; exact a2
end Go.Proofs.YtnocmkjaifjgfaaDoor.R
