/- A region that draws its order, holds no call and writes nothing, inside a fence with a round (where the kit's merging walk does not reach): one way, whatever the guards are. -/
import Derived.Test.YtkknelcolbdphaaRange
import Derived.OrdersIn
namespace Go.Proofs.Ytkknelcolbdphaa
open Go.RowKit

/-- The frame when the operations that are listed have yielded: operation i writes slot d + i. -/
structure Slots (a0 : Act) (d m : Nat) (V : Nat → Value) (listed : Array Bool) (a : Act) : Prop where
  defers : a.defers = a0.defers
  size : a.tmps.size = a0.tmps.size
  at_ : ∀ s, a.tmps[s]? = if d ≤ s ∧ s < d + m ∧ listed.getD (s - d) false = true then some (V (s - d)) else a0.tmps[s]?
theorem Slots.put {a0 : Act} {d m : Nat} {V : Nat → Value} {listed : Array Bool} {a : Act} (h : Slots a0 d m V listed a) (hl : listed.size = m) (hr : d + m ≤ a0.tmps.size) (i : Nat) (hi : i < m) :
    Slots a0 d m V (listed.setIfInBounds i true) (a.put (some (d + i)) (V i)) := by
  refine ⟨h.defers, by show (a.tmps.setIfInBounds _ _).size = _; rw [Array.size_setIfInBounds]; exact h.size, fun s => ?_⟩
  show (a.tmps.setIfInBounds (d + i) (V i))[s]? = _
  rw [Array.getElem?_setIfInBounds]
  by_cases e : d + i = s
  · subst e
    have hg : (listed.setIfInBounds i true).getD (d + i - d) false = true := by
      rw [Nat.add_sub_cancel_left, Array.getD_eq_getD_getElem?, Array.getElem?_setIfInBounds, if_pos rfl, if_pos (by omega)]; rfl
    rw [if_pos rfl, if_pos (by rw [h.size]; omega), if_pos ⟨by omega, by omega, hg⟩, Nat.add_sub_cancel_left]
  · rw [if_neg e, h.at_ s]
    by_cases hs : d ≤ s ∧ s < d + m
    · have hne : i ≠ s - d := by omega
      have : (listed.setIfInBounds i true).getD (s - d) false = listed.getD (s - d) false := by
        rw [Array.getD_eq_getD_getElem?, Array.getD_eq_getD_getElem?, Array.getElem?_setIfInBounds, if_neg hne]
      rw [this]
    · rw [if_neg (fun h => hs ⟨h.1, h.2.1⟩), if_neg (fun h => hs ⟨h.1, h.2.1⟩)]
theorem cnt_down (p p' : Nat → Bool) (i : Nat) (h : p i = true) (h' : p' i = false) (he : ∀ j, j ≠ i → p' j = p j) : ∀ m, i < m → (List.range m).countP p' + 1 = (List.range m).countP p
  | 0, hi => by omega
  | m + 1, hi => by
    rw [List.range_succ, List.countP_append, List.countP_append]
    by_cases e : i = m
    · subst e
      have : (List.range i).countP p' = (List.range i).countP p := List.countP_congr (fun x hx => by rw [he x (by have := List.mem_range.1 hx; omega)])
      rw [this]
      simp [h, h']
    · have := cnt_down p p' i h h' he m (by omega)
      have e2 : [m].countP p' = [m].countP p := by simp [he m (fun x => e x.symm)]
      rw [e2]
      omega
/-- How many are not yet listed. -/
def left (m : Nat) (listed : Array Bool) : Nat := (List.range m).countP fun i => !listed.getD i true
theorem left_zero {m : Nat} {listed : Array Bool} (h : left m listed = 0) : ∀ i, i < m → listed.getD i true = true := by
  intro i hi
  unfold left at h
  rw [List.countP_eq_zero] at h
  have := h i (List.mem_range.2 hi)
  simpa using this
theorem getD_both {listed : Array Bool} {i : Nat} (h : i < listed.size) : listed.getD i true = listed.getD i false := by
  rw [Array.getD_eq_getD_getElem?, Array.getD_eq_getD_getElem?, Array.getElem?_eq_getElem h]; rfl
theorem region_reads {F : Fence} {n : Nat} {P : Program} {ops : Array Oper} {Q : Exit → Act → World → Prop} {a0 : Act} {w : World} {d m : Nat} {V : Nat → Value} (hm : ops.size = m) (hroom : d + m ≤ a0.tmps.size)
    (hdst : ∀ i (o : Oper), ops[i]? = some o → o.dst = some (d + i)) (hback : ∀ i (o : Oper), ops[i]? = some o → (o.after.all fun e => decide (e.on < i)) = true)
    (hstep : ∀ i (o : Oper) (listed : Array Bool) (a : Act), ops[i]? = some o → (o.after.all fun e => !Region.binds .any e || listed.getD e.on false) = true → Slots a0 d m V listed a →
      (∀ f, o.about P w a.eval = some f → F.fn f) ∧ (if Region.wanted o (yielded ops a.tmps) = true then (o.semAt F.round a.eval).run P w = .ok (.value (V i)) w else V i = undef))
    (hQ : ∀ a, a.defers = a0.defers → a.tmps.size = a0.tmps.size → (∀ s, a.tmps[s]? = if d ≤ s ∧ s < d + m then some (V (s - d)) else a0.tmps[s]?) → Q .normal a w) :
    ∀ (fuel : Nat) (listed : Array Bool) (a : Act), listed.size = m → left m listed = fuel → Slots a0 d m V listed a → wpAnyIn F n P .any ops Q fuel listed a w := by
  have fin : ∀ (listed : Array Bool) (a : Act), listed.size = m → left m listed = 0 → Slots a0 d m V listed a → Q .normal a w := fun listed a hl h0 hs => by
    refine hQ a hs.defers hs.size (fun s => ?_)
    rw [hs.at_ s]
    by_cases h : d ≤ s ∧ s < d + m
    · rw [if_pos h, if_pos ⟨h.1, h.2, by rw [← getD_both (by omega)]; exact left_zero h0 _ (by omega)⟩]
    · rw [if_neg h, if_neg (fun x => h ⟨x.1, x.2.1⟩)]
  intro fuel
  induction fuel with
  | zero =>
    intro listed a hl h0 hs
    refine ⟨?_, fin listed a hl h0 hs⟩
    unfold Region.ready
    rw [List.filter_eq_nil_iff]
    intro i hi
    rw [hm] at hi
    rw [left_zero h0 i (List.mem_range.1 hi)]
    simp
  | succ fuel ih =>
    intro listed a hl hf hs
    refine ⟨fun hr => ?_, fun i hi => ?_⟩
    · exfalso
      -- the least that is not listed may come up
      have hex : ∃ i, i < m ∧ listed.getD i true = false := by
        by_cases h : ∃ i, i < m ∧ listed.getD i true = false
        · exact h
        · exfalso
          have : left m listed = 0 := by
            unfold left
            rw [List.countP_eq_zero]
            intro i hi
            have := List.mem_range.1 hi
            cases hg : listed.getD i true with
            | true => simp
            | false => exact absurd ⟨i, this, hg⟩ h
          omega
      have hmin : ∀ k, (∃ i, i < m ∧ i ≤ k ∧ listed.getD i true = false) → ∃ i, i < m ∧ listed.getD i true = false ∧ ∀ j, j < i → listed.getD j true = true := by
        intro k
        induction k with
        | zero =>
          rintro ⟨i, h1, h2, h3⟩
          exact ⟨i, h1, h3, fun j hj => by omega⟩
        | succ k ihk =>
          rintro ⟨i, h1, h2, h3⟩
          by_cases hh : ∃ i, i < m ∧ i ≤ k ∧ listed.getD i true = false
          · exact ihk hh
          · refine ⟨i, h1, h3, fun j hj => ?_⟩
            cases hg : listed.getD j true with
            | true => rfl
            | false => exact absurd ⟨j, by omega, by omega, hg⟩ hh
      obtain ⟨i0, h1, h2⟩ := hex
      obtain ⟨i, hi, hg, hlow⟩ := hmin i0 ⟨i0, h1, Nat.le_refl _, h2⟩
      have hmem : i ∈ Region.ready .any ops listed := by
        unfold Region.ready
        rw [List.mem_filter, List.mem_range]
        have hi' : i < ops.size := by omega
        refine ⟨hi', ?_⟩
        rw [hg, Array.getElem?_eq_getElem hi']
        simp only [Option.map_some, Option.getD_some, Bool.not_false, Bool.true_and]
        have hb := hback i _ (Array.getElem?_eq_getElem hi')
        rw [Array.all_eq_true] at hb ⊢
        intro j hj
        have := hb j hj
        rw [decide_eq_true_eq] at this
        rw [Bool.or_eq_true]
        right
        rw [← getD_both (by omega)]
        exact hlow _ this
      rw [hr] at hmem
      cases hmem
    · unfold Region.ready at hi
      rw [List.mem_filter, List.mem_range] at hi
      obtain ⟨h1, h2⟩ := hi
      rw [Bool.and_eq_true] at h2
      obtain ⟨h2, h3⟩ := h2
      have hio : ops[i]? = some ops[i] := Array.getElem?_eq_getElem h1
      rw [hio] at h3
      have hst := hstep i ops[i] listed a hio h3 hs
      have hlg : listed.getD i true = false := by simpa using h2
      have hnext : wpAnyIn F n P .any ops Q fuel (listed.setIfInBounds i true) (a.put ops[i].dst (V i)) w := by
        refine ih _ _ (by rw [Array.size_setIfInBounds]; exact hl) ?_ ?_
        · have := cnt_down (fun j => !listed.getD j true) (fun j => !(listed.setIfInBounds i true).getD j true) i (by simp [hlg]) (by
            simp only [Bool.not_eq_false']
            rw [Array.getD_eq_getD_getElem?, Array.getElem?_setIfInBounds, if_pos rfl, if_pos (by omega)]; rfl) (fun j hj => by
            show (!(listed.setIfInBounds i true).getD j true) = !listed.getD j true
            rw [Array.getD_eq_getD_getElem?, Array.getD_eq_getD_getElem?, Array.getElem?_setIfInBounds, if_neg (fun e => hj e.symm)]) m (by omega)
          unfold left at hf ⊢
          omega
        · rw [hdst i _ hio]
          exact hs.put hl hroom i (by omega)
      unfold wpOpIn
      rw [hio]
      simp only
      by_cases hw : Region.wanted ops[i] (yielded ops a.tmps) = true
      · rw [if_pos hw]
        refine ⟨hst.1, ?_⟩
        have h4 := hst.2
        rw [if_pos hw] at h4
        rw [h4]
        exact hnext
      · rw [if_neg hw]
        have h4 := hst.2
        rw [if_neg hw] at h4
        rw [← h4]
        exact ⟨hst.1, hnext⟩
/-- The frame a with the values V 0 .. V (m - 1) in the slots from d on. -/
def puts (a : Act) (d : Nat) (V : Nat → Value) : Nat → Act
  | 0 => a
  | m + 1 => (puts a d V m).put (some (d + m)) (V m)
theorem puts_at (a : Act) (d : Nat) (V : Nat → Value) : ∀ m, d + m ≤ a.tmps.size → (puts a d V m).defers = a.defers ∧ (puts a d V m).tmps.size = a.tmps.size ∧ ∀ s : Nat, (puts a d V m).tmps[s]? = if d ≤ s ∧ s < d + m then some (V (s - d)) else a.tmps[s]?
  | 0, _ => ⟨rfl, rfl, fun s => by rw [if_neg (by omega)]; rfl⟩
  | m + 1, h => by
    obtain ⟨h1, h2, h3⟩ := puts_at a d V m (by omega)
    refine ⟨h1, ?_, fun s => ?_⟩
    · show ((puts a d V m).tmps.setIfInBounds _ _).size = _
      rw [Array.size_setIfInBounds]; exact h2
    · show ((puts a d V m).tmps.setIfInBounds (d + m) (V m))[s]? = _
      rw [Array.getElem?_setIfInBounds]
      by_cases e : d + m = s
      · subst e
        rw [if_pos rfl, if_pos (by omega), if_pos (by omega), Nat.add_sub_cancel_left]
      · rw [if_neg e, h3 s]
        by_cases hs : d ≤ s ∧ s < d + m
        · rw [if_pos hs, if_pos (by omega)]
        · rw [if_neg hs, if_neg (by omega)]
theorem Slots.val {a0 : Act} {d m : Nat} {V : Nat → Value} {listed : Array Bool} {a : Act} (h : Slots a0 d m V listed a) (s : Nat) : a.tmps.getD s undef = if d ≤ s ∧ s < d + m ∧ listed.getD (s - d) false = true then V (s - d) else a0.tmps.getD s undef := by
  rw [Array.getD_eq_getD_getElem?, h.at_ s]
  split
  · rfl
  · rw [Array.getD_eq_getD_getElem?]
theorem region_reads_in {F : Fence} {n : Nat} {P : Program} {id : Nat} {ops : Array Oper} {Q : Exit → Act → World → Prop} {a0 : Act} {w : World} (d m : Nat) (V : Nat → Value) (hmix : P.follows .mixedOrders = true) (hm : ops.size = m) (hroom : d + m ≤ a0.tmps.size)
    (hdst : ∀ i (o : Oper), ops[i]? = some o → o.dst = some (d + i)) (hback : ∀ i (o : Oper), ops[i]? = some o → (o.after.all fun e => decide (e.on < i)) = true)
    (hstep : ∀ i (o : Oper) (listed : Array Bool) (a : Act), ops[i]? = some o → (o.after.all fun e => !Region.binds .any e || listed.getD e.on false) = true → Slots a0 d m V listed a →
      (∀ f, o.about P w.drew a.eval = some f → F.fn f) ∧ (if Region.wanted o (yielded ops a.tmps) = true then (o.semAt F.round a.eval).run P w.drew = .ok (.value (V i)) w.drew else V i = undef))
    (hQ : Q .normal (puts a0 d V m) w.drew) :
    (Code.region id ops true).wpIn F n P Q a0 w := by
  refine wpIn_region_any hmix ?_
  rw [hm]
  refine region_reads hm hroom hdst hback hstep (fun a h1 h2 h3 => ?_) m _ a0 (by simp) ?_ ⟨rfl, rfl, fun s => ?_⟩
  · obtain ⟨p1, p2, p3⟩ := puts_at a0 d V m hroom
    have e : a = puts a0 d V m := by
      obtain ⟨at', ad⟩ := a
      generalize puts a0 d V m = B at *
      obtain ⟨bt, bd⟩ := B
      have e1 : at' = bt := Array.ext_getElem? (fun s => by rw [p3 s]; exact h3 s)
      have e2 : ad = bd := by rw [show bd = a0.defers from p1]; exact h1
      rw [e1, e2]
    rw [e]; exact hQ
  · unfold left
    have : ((List.range m).countP fun i => !(Array.replicate m false).getD i true) = (List.range m).length := List.countP_eq_length.2 (fun i hi => by
      have := List.mem_range.1 hi
      rw [Array.getD_eq_getD_getElem?, Array.getElem?_replicate, if_pos this]; rfl)
    rw [this, List.length_range]
  · rw [if_neg]
    rintro ⟨h1, h2, h3⟩
    rw [Array.getD_eq_getD_getElem?, Array.getElem?_replicate, if_pos (by omega)] at h3
    cases h3
def dstsB (ops : Array Oper) (d m : Nat) : Bool := (List.range m).all fun i => match ops[i]? with | some o => (match o.dst with | some t => t == d + i | none => false) && o.after.all fun (e : Edge) => decide (e.on < i) | none => false
theorem dstsB_out {ops : Array Oper} {d m : Nat} (hm : ops.size = m) (h : dstsB ops d m = true) {i : Nat} {o : Oper} (ho : ops[i]? = some o) : o.dst = some (d + i) ∧ (o.after.all fun e => decide (e.on < i)) = true := by
  have hi : i < ops.size := (Array.getElem?_eq_some_iff.1 ho).1
  unfold dstsB at h
  rw [List.all_eq_true] at h
  have := h i (List.mem_range.2 (by omega))
  rw [ho] at this
  simp only [Bool.and_eq_true] at this
  refine ⟨?_, this.2⟩
  cases hd : o.dst with
  | none => rw [hd] at this; simp at this
  | some t =>
    rw [hd] at this
    have := this.1
    simp at this
    rw [this]
theorem region_reads_in' {F : Fence} {n : Nat} {P : Program} {id : Nat} {ops : Array Oper} {Q : Exit → Act → World → Prop} {a0 : Act} {w : World} (d m : Nat) (V : Nat → Value) (hmix : P.follows .mixedOrders = true) (hm : ops.size = m) (hd : dstsB ops d m = true) (hroom : d + m ≤ a0.tmps.size)
    (hstep : ∀ i (o : Oper) (listed : Array Bool) (a : Act), ops[i]? = some o → (o.after.all fun e => !Region.binds .any e || listed.getD e.on false) = true → Slots a0 d m V listed a →
      (∀ f, o.about P w.drew a.eval = some f → F.fn f) ∧ (if Region.wanted o (yielded ops a.tmps) = true then (o.semAt F.round a.eval).run P w.drew = .ok (.value (V i)) w.drew else V i = undef))
    (hQ : Q .normal (puts a0 d V m) w.drew) :
    (Code.region id ops true).wpIn F n P Q a0 w :=
  region_reads_in d m V hmix hm hroom (fun _ _ h => (dstsB_out hm hd h).1) (fun _ _ h => (dstsB_out hm hd h).2) hstep hQ
/-- Whether the guard of an operation holds, by the values V. -/
def onV (o : Oper) (V : Nat → Value) : Bool := match o.guard with | none => true | some (j, b) => match V j with | .bool c => c == b | _ => false
/-- What the rule below asks of the operations' form: the slots run from d, edges lead back, and a guard's operation binds. -/
def formB (ops : Array Oper) (d m : Nat) : Bool := dstsB ops d m && (List.range m).all fun i => match ops[i]? with | some o => (match o.guard with | none => true | some (j, _) => o.after.any fun e => e.on == j && Region.binds .any e) | none => false
def asB : Value → Option Bool
  | .bool b => some b
  | _ => none
theorem yielded_of {ops : Array Oper} {tmps : Array Value} {j t : Nat} {o : Oper} {v : Value} (ho : ops[j]? = some o) (hd : o.dst = some t) (hv : tmps[t]? = some v) : yielded ops tmps j = asB v := by
  unfold yielded
  rw [ho]
  simp only [Option.bind_some]
  rw [hd]
  simp only [Option.bind_some]
  rw [hv]
  cases v <;> rfl
theorem region_reads_by {F : Fence} {n : Nat} {P : Program} {id : Nat} {ops : Array Oper} {Q : Exit → Act → World → Prop} {a0 : Act} {w : World} (d m : Nat) (V : Nat → Value) (hmix : P.follows .mixedOrders = true) (hm : ops.size = m) (hd : formB ops d m = true) (hroom : d + m ≤ a0.tmps.size)
    (hstep : ∀ i (o : Oper) (ρ : Operand → Value), ops[i]? = some o → (∀ v, ρ (.const v) = v) → (∀ f, ρ (.func f) = .func (.func f) #[] #[]) → (∀ s, s < d → ρ (.tmp s) = a0.tmps.getD s undef) → (∀ e ∈ o.after.toList, Region.binds .any e = true → ρ (.tmp (d + e.on)) = V e.on) →
      (∀ f, o.about P w.drew ρ = some f → F.fn f) ∧ (if onV o V = true then (o.semAt F.round ρ).run P w.drew = .ok (.value (V i)) w.drew else V i = undef))
    (hQ : Q .normal (puts a0 d V m) w.drew) :
    (Code.region id ops true).wpIn F n P Q a0 w := by
  unfold formB at hd
  rw [Bool.and_eq_true] at hd
  obtain ⟨hd, hg⟩ := hd
  refine region_reads_in' d m V hmix hm hd hroom (fun i o listed a ho haft hs => ?_) hQ
  have hi : i < ops.size := (Array.getElem?_eq_some_iff.1 ho).1
  have hback := (dstsB_out hm hd ho).2
  have hdst := (dstsB_out hm hd ho).1
  have hedge : ∀ e ∈ o.after.toList, Region.binds .any e = true → e.on < m ∧ listed.getD e.on false = true := fun e he hb => by
    rw [← Array.all_toList, List.all_eq_true] at haft hback
    have h1 := haft e he
    have h2 := hback e he
    rw [decide_eq_true_eq] at h2
    rw [hb] at h1
    exact ⟨by omega, by simpa using h1⟩
  have hval : ∀ e ∈ o.after.toList, Region.binds .any e = true → a.tmps.getD (d + e.on) undef = V e.on := fun e he hb => by
    obtain ⟨h1, h2⟩ := hedge e he hb
    rw [hs.val, if_pos ⟨by omega, by omega, by rw [Nat.add_sub_cancel_left]; exact h2⟩, Nat.add_sub_cancel_left]
  have H := hstep i o a.eval ho (fun _ => rfl) (fun _ => rfl) (fun s h => by
    show a.tmps.getD s undef = _
    rw [hs.val, if_neg (by omega)]) hval
  refine ⟨H.1, ?_⟩
  have hwant : Region.wanted o (yielded ops a.tmps) = onV o V := by
    unfold Region.wanted onV
    rw [List.all_eq_true] at hg
    have hgi := hg i (List.mem_range.2 (by omega))
    rw [ho] at hgi
    simp only at hgi
    cases hgu : o.guard with
    | none => rfl
    | some p =>
      obtain ⟨j, b⟩ := p
      rw [hgu] at hgi
      simp only at hgi ⊢
      rw [← Array.any_toList, List.any_eq_true] at hgi
      obtain ⟨e, he, hb⟩ := hgi
      rw [Bool.and_eq_true] at hb
      obtain ⟨h1, h2⟩ := hedge e he hb.2
      have hj : e.on = j := by simpa using hb.1
      subst hj
      have hv := hval e he hb.2
      have hjs : e.on < ops.size := by omega
      have hdj := (dstsB_out hm hd (Array.getElem?_eq_getElem hjs)).1
      have hsz : d + e.on < a.tmps.size := by rw [hs.size]; omega
      have hv' : a.tmps[d + e.on]? = some (V e.on) := by
        rw [Array.getD_eq_getD_getElem?, Array.getElem?_eq_getElem hsz] at hv
        rw [Array.getElem?_eq_getElem hsz]
        exact congrArg some hv
      rw [yielded_of (Array.getElem?_eq_getElem hjs) hdj hv']
      clear hv hv'
      cases V e.on <;> simp [asB]
  rw [hwant]
  exact H.2
theorem on_yes {o : Oper} {V : Nat → Value} {A B : Prop} (h : onV o V = true) (ha : A) : if onV o V = true then A else B := by rw [if_pos h]; exact ha
theorem on_no {o : Oper} {V : Nat → Value} {A B : Prop} (h : onV o V = false) (hb : B) : if onV o V = true then A else B := by rw [if_neg (by rw [h]; exact Bool.false_ne_true)]; exact hb
end Go.Proofs.Ytkknelcolbdphaa
