/- The map from a sector to the index of the newest write. -/
import Derived.Test.YtbaibmndmcdfdaaDoorDBase
namespace Go.Proofs.YtbaibmndmcdfdaaDoor.D
open Go.RowKit Go.MapKept

/-- The block b is a map of integers that reads as f. -/
def MapIs (w : World) (b : Nat) (f : Int → Option Nat) : Prop :=
  ∃ es clock, w.heap[b]? = some (.map es clock) ∧ ∀ k : Int, ∃ r, Instr.findNow (.int .i64) (.int .i64 k) es.toList 0 = some r ∧ r.map (·.2) = (f k).map fun n => Value.int .i64 (n : Int)
theorem sameNow_i64 (a b : Int) : Instr.sameNow (.int .i64) (.int .i64 a) (.int .i64 b) = some (decide (a = b)) := by
  by_cases h : a = b
  · subst h; simp [Instr.sameNow]
  · simp [Instr.sameNow, h]
theorem findNow_push (a c : Int) (v : Value) (bn : Nat) : ∀ (l : List MapEntry) (i : Nat) (r : Option (Nat × Value)), Instr.findNow (.int .i64) (.int .i64 a) l i = some r →
    ∃ r', Instr.findNow (.int .i64) (.int .i64 a) (l ++ [{ key := .int .i64 c, val := v, born := bn }]) i = some r' ∧ r'.map (·.2) = (if r.isSome then r.map (·.2) else if a = c then some v else none)
  | [], i, r, h => by
    simp [Instr.findNow] at h; subst h
    by_cases e : a = c
    · subst e; exact ⟨some (i, v), by simp [Instr.findNow, sameNow_i64], by simp⟩
    · exact ⟨none, by simp [Instr.findNow, sameNow_i64, e], by simp [e]⟩
  | x :: l, i, r, h => by
    simp only [Instr.findNow, List.cons_append] at h ⊢
    cases hs : Instr.sameNow (.int .i64) (.int .i64 a) x.key with
    | none => rw [hs] at h; cases h
    | some q =>
      rw [hs] at h
      cases q with
      | true => simp at h; subst h; exact ⟨_, rfl, by simp⟩
      | false => exact findNow_push a c v bn l (i + 1) r h
/-- What is found lies where it is said, under a key of its own. -/
theorem findNow_at (a : Int) : ∀ (l : List MapEntry) (i j : Nat) (v : Value), Instr.findNow (.int .i64) (.int .i64 a) l i = some (some (j, v)) → i ≤ j ∧ ∃ e, l[j - i]? = some e ∧ e.key = .int .i64 a ∧ e.val = v
  | [], i, j, v, h => by simp [Instr.findNow] at h
  | x :: l, i, j, v, h => by
    simp only [Instr.findNow] at h
    cases hs : Instr.sameNow (.int .i64) (.int .i64 a) x.key with
    | none => rw [hs] at h; cases h
    | some q =>
      rw [hs] at h
      cases q with
      | true =>
        simp at h; obtain ⟨rfl, rfl⟩ := h
        refine ⟨Nat.le_refl _, x, by simp, ?_, rfl⟩
        cases hk : x.key <;> rw [hk] at hs <;> simp [Instr.sameNow] at hs
        rename_i kd n
        obtain ⟨rfl, h2⟩ := hs
        rw [h2]
      | false =>
        obtain ⟨h1, e, h2, h3, h4⟩ := findNow_at a l (i + 1) j v h
        refine ⟨by omega, e, ?_, h3, h4⟩
        rw [show j - i = (j - (i + 1)) + 1 from by omega, List.getElem?_cons_succ]; exact h2
/-- The entry that is found gets another value. -/
theorem findNow_modify (a c : Int) (v : Value) : ∀ (l : List MapEntry) (i j : Nat) (v0 : Value) (r : Option (Nat × Value)), Instr.findNow (.int .i64) (.int .i64 c) l i = some (some (j, v0)) → Instr.findNow (.int .i64) (.int .i64 a) l i = some r →
    ∃ r', Instr.findNow (.int .i64) (.int .i64 a) (l.modify (j - i) fun e => { e with key := .int .i64 c, val := v }) i = some r' ∧ r'.map (·.2) = (if a = c then some v else r.map (·.2))
  | [], i, j, v0, r, h, _ => by simp [Instr.findNow] at h
  | x :: l, i, j, v0, r, h, ha => by
    simp only [Instr.findNow] at h ha
    cases hs : Instr.sameNow (.int .i64) (.int .i64 c) x.key with
    | none => rw [hs] at h; cases h
    | some q =>
      rw [hs] at h
      cases q with
      | true =>
        simp at h; obtain ⟨rfl, rfl⟩ := h
        simp only [Nat.sub_self, List.modify_zero_cons]
        have hk : x.key = .int .i64 c := by
          cases hk : x.key <;> rw [hk] at hs <;> simp [Instr.sameNow] at hs
          rename_i kd n
          obtain ⟨rfl, h2⟩ := hs
          rw [h2]
        rw [hk, sameNow_i64] at ha
        by_cases e : a = c
        · subst e
          exact ⟨some (i, v), by simp [Instr.findNow, sameNow_i64], by simp⟩
        · refine ⟨r, ?_, by simp [e]⟩
          simp only [Instr.findNow, sameNow_i64, e, decide_false] at ha ⊢
          exact ha
      | false =>
        have hj := (findNow_at c l (i + 1) j v0 h).1
        rw [show j - i = (j - (i + 1)) + 1 from by omega]
        simp only [List.modify_succ_cons, Instr.findNow]
        cases hs2 : Instr.sameNow (.int .i64) (.int .i64 a) x.key with
        | none => rw [hs2] at ha; cases ha
        | some q2 =>
          rw [hs2] at ha
          cases q2 with
          | true =>
            have e : ¬ a = c := by
              rintro rfl; rw [hs] at hs2; cases hs2
            simp at ha; subst ha
            exact ⟨_, rfl, by simp [e]⟩
          | false => exact findNow_modify a c v l (i + 1) j v0 r h ha
theorem mapIs_new (w : World) : MapIs (w.alloc (.map #[] 0)) w.heap.size (fun _ => none) := ⟨#[], 0, heap_alloc_new w _, fun c => ⟨none, rfl, rfl⟩⟩
theorem MapIs.lt {w : World} {b : Nat} {f : Int → Option Nat} (h : MapIs w b f) : b < w.heap.size := by
  obtain ⟨es, cl, hb, _⟩ := h; exact (Array.getElem?_eq_some_iff.1 hb).1
theorem MapIs.block {w w' : World} {b : Nat} {f : Int → Option Nat} (h : MapIs w b f) (hk : w'.heap[b]? = w.heap[b]?) : MapIs w' b f := by
  obtain ⟨es, cl, hb, hf⟩ := h; exact ⟨es, cl, hk.trans hb, hf⟩
theorem MapIs.kept {X : Nat → Prop} {w w' : World} {b : Nat} {f : Int → Option Nat} (h : MapIs w b f) (hk : Kept X w w') (hx : ¬ X b) : MapIs w' b f := h.block (hk.block b h.lt hx)

theorem run_update {w : World} {b : Nat} {c : Int} {f : Int → Option Nat} {n : Nat} (h : MapIs w b f) :
    ∃ w', (Instr.mapUpdate 87 (.map (some b)) (.int .i64 c) (.int .i64 (n : Int))).run Tryd.prog w = .ok () w' ∧ MapIs w' b (updM f c n) ∧ Kept (fun k => k = b) w w' ∧ w'.heap.size = w.heap.size := by
  obtain ⟨es, cl, hb, hf⟩ := h
  obtain ⟨r, hr, hrf⟩ := hf c
  have hck := run_checkKey (P := Tryd.prog) (w := w) (kt := 3) (d := .int .i64) (k := .int .i64 c) Tryd.underlying3 (by simp [IsKey]) false 9999
  have hfk := run_findKey (P := Tryd.prog) (w := w) (kt := 3) Tryd.underlying3 hr
  have hgo : (getObj b).run Tryd.prog w = .ok (.map es cl) w := by simp [getObj, Sem.run, hb]
  cases r with
  | none =>
    refine ⟨{ w with heap := w.heap.setIfInBounds b (.map (es.push { key := .int .i64 c, val := .int .i64 (n : Int), born := cl }) (cl + 1)) }, ?_, ?_, ?_, by simp⟩
    · unfold Instr.mapUpdate
      have hso := run_setObj_map (P := Tryd.prog) (.map (es.push { key := .int .i64 c, val := .int .i64 (n : Int), born := cl }) (cl + 1)) hb
      simp [run_underlying Tryd.underlying87, hgo, hck, hfk, hso, Result.andThen]
    · refine ⟨_, _, (heap_set hb).1, fun a => ?_⟩
      obtain ⟨ra, hra, hraf⟩ := hf a
      obtain ⟨r', h1, h2⟩ := findNow_push a c (.int .i64 (n : Int)) cl es.toList 0 ra hra
      refine ⟨r', by rw [Array.toList_push]; exact h1, ?_⟩
      rw [h2]
      unfold updM
      by_cases e : a = c
      · subst e
        rw [hra] at hr; cases hr
        simp
      · rw [if_neg e, if_neg e, ← hraf]
        cases ra <;> simp
    · exact ⟨rfl, rfl, rfl, by simp, fun k hk hx => (heap_set hb).2 k hx⟩
  | some q =>
    obtain ⟨j, v0⟩ := q
    obtain ⟨_, e0, he0, hke, _⟩ := findNow_at c es.toList 0 j v0 hr
    rw [Nat.sub_zero] at he0
    have hje : es[j]? = some e0 := by simpa using he0
    refine ⟨{ w with heap := w.heap.setIfInBounds b (.map (es.modify j fun e => { e with key := .int .i64 c, val := .int .i64 (n : Int) }) cl) }, ?_, ?_, ?_, by simp⟩
    · unfold Instr.mapUpdate
      have hso := run_setObj_map (P := Tryd.prog) (.map (es.modify j fun e => { e with key := .int .i64 c, val := .int .i64 (n : Int) }) cl) hb
      have hst : (Instr.keyThatStays (((es[j]?).map (·.key)).getD (.int .i64 c)) (.int .i64 c)).run Tryd.prog w = .ok (.int .i64 c) w := by
        rw [hje]; simp [hke, Instr.keyThatStays, Instr.sameBits]
      simp [run_underlying Tryd.underlying87, hgo, hck, hfk, hst, hso, Result.andThen]
    · refine ⟨_, _, (heap_set hb).1, fun a => ?_⟩
      obtain ⟨ra, hra, hraf⟩ := hf a
      obtain ⟨r', h1, h2⟩ := findNow_modify a c (.int .i64 (n : Int)) es.toList 0 j v0 ra hr hra
      refine ⟨r', by rw [Array.toList_modify]; simpa using h1, ?_⟩
      rw [h2]
      unfold updM
      by_cases e : a = c
      · rw [if_pos e, if_pos e]; rfl
      · rw [if_neg e, if_neg e, hraf]
    · exact ⟨rfl, rfl, rfl, by simp, fun k hk hx => (heap_set hb).2 k hx⟩
theorem run_look {w : World} {b : Nat} {c : Int} {f : Int → Option Nat} (h : MapIs w b f) :
    (Instr.lookup 87 (.map (some b)) (.int .i64 c) true).run Tryd.prog w = .ok (.tuple #[.int .i64 (((f c).getD 0 : Nat) : Int), .bool (f c).isSome]) w := by
  obtain ⟨es, cl, hb, hf⟩ := h
  obtain ⟨r, hr, hrf⟩ := hf c
  unfold Instr.lookup
  have hck := run_checkKey (P := Tryd.prog) (w := w) (kt := 3) (d := .int .i64) (k := .int .i64 c) Tryd.underlying3 (by simp [IsKey]) es.isEmpty 9999
  have hfk := run_findKey (P := Tryd.prog) (w := w) (kt := 3) Tryd.underlying3 hr
  have hgo : (getObj b).run Tryd.prog w = .ok (.map es cl) w := by simp [getObj, Sem.run, hb]
  have hz : (zeroValue 3).run Tryd.prog w = .ok (.int .i64 0) w := by kernel_rfl
  simp only [Sem.run_bind, run_underlying Tryd.underlying87, Result.andThen_ok, hgo, Sem.run_pure, hck, hfk]
  cases hfc : f c with
  | none =>
    rw [hfc] at hrf
    cases r with
    | none => simp [hz]
    | some q => simp at hrf
  | some m =>
    rw [hfc] at hrf
    cases r with
    | none => simp at hrf
    | some q => simp at hrf; simp [hrf]
noncomputable def lookM (x k : Value) (ok : Bool) : Sem Value := Instr.lookup 87 x k ok
theorem lookM_eq (x k : Value) (ok : Bool) : Instr.lookup 87 x k ok = lookM x k ok := rfl
theorem run_lookM {w : World} {b : Nat} {c : Int} {f : Int → Option Nat} (h : MapIs w b f) :
    (lookM (.map (some b)) (.int .i64 c) true).run Tryd.prog w = .ok (.tuple #[.int .i64 (((f c).getD 0 : Nat) : Int), .bool (f c).isSome]) w := run_look h
theorem run_clear {w : World} {b : Nat} {f : Int → Option Nat} {ty : TypeId} (h : MapIs w b f) :
    ∃ w', (Builtin.clear_ #[87] ty #[.map (some b)]).run Tryd.prog w = .ok (.tuple #[]) w' ∧ MapIs w' b (fun _ => none) ∧ Kept (fun k => k = b) w w' ∧ w'.heap.size = w.heap.size := by
  obtain ⟨es, cl, hb, hf⟩ := h
  refine ⟨{ w with heap := w.heap.setIfInBounds b (.map #[] cl) }, ?_, ⟨#[], cl, (heap_set hb).1, fun c => ⟨none, rfl, rfl⟩⟩, ⟨rfl, rfl, rfl, by simp, fun k hk hx => (heap_set hb).2 k hx⟩, by simp⟩
  have hgo : (getObj b).run Tryd.prog w = .ok (.map es cl) w := by simp [getObj, Sem.run, hb]
  have hso := run_setObj_map (P := Tryd.prog) (.map #[] cl) hb
  unfold Builtin.clear_
  simp [run_underlying Tryd.underlying87, hgo, hso, Result.andThen]
end Go.Proofs.YtbaibmndmcdfdaaDoor.D
