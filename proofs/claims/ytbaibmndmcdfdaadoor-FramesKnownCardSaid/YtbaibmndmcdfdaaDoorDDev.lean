/- A device in memory; the methods that only look at it; Limit. -/
import Derived.Test.YtbaibmndmcdfdaaDoorDMap
namespace Go.Proofs.YtbaibmndmcdfdaaDoor.D
open Go.RowKit Go.MapKept

/-! ### Rows of elements -/
theorem flat_len {sz : Nat} : ∀ (L : List (List Value)), (∀ e ∈ L, e.length = sz) → L.flatten.length = L.length * sz
  | [], _ => by simp
  | x :: L, h => by
    rw [List.flatten_cons, List.length_append, flat_len L (fun e he => h e (by simp [he])), h x (by simp), List.length_cons, Nat.add_mul]; omega
theorem flat_get {sz : Nat} : ∀ (L : List (List Value)), (∀ e ∈ L, e.length = sz) → ∀ (k : Nat) (e : List Value), L[k]? = some e → ∀ j u, e[j]? = some u → L.flatten[k * sz + j]? = some u
  | [], _, k, e, hk, _, _, _ => by simp at hk
  | x :: L, h, 0, e, hk, j, u, hj => by
    simp at hk; subst hk
    have hjl : j < x.length := by
      rcases Nat.lt_or_ge j x.length with hh | hh
      · exact hh
      · rw [List.getElem?_eq_none hh] at hj; cases hj
    rw [Nat.zero_mul, Nat.zero_add, List.flatten_cons, List.getElem?_append_left hjl]; exact hj
  | x :: L, h, k + 1, e, hk, j, u, hj => by
    have hx : x.length = sz := h x (by simp)
    rw [List.flatten_cons, List.getElem?_append_right (by rw [hx, Nat.add_mul]; omega), hx, show (k + 1) * sz + j - sz = k * sz + j from by rw [Nat.add_mul]; omega]
    exact flat_get L (fun e he => h e (by simp [he])) k e (by simpa using hk) j u hj
theorem flat_set {sz : Nat} : ∀ (L : List (List Value)), (∀ e ∈ L, e.length = sz) → ∀ (k : Nat) (e : List Value), k < L.length → (L.set k e).flatten = L.flatten.take (k * sz) ++ e ++ L.flatten.drop (k * sz + sz)
  | [], _, k, e, hk => by simp at hk
  | x :: L, h, 0, e, hk => by
    have hx : x.length = sz := h x (by simp)
    subst hx
    simp
  | x :: L, h, k + 1, e, hk => by
    have hx : x.length = sz := h x (by simp)
    have ih := flat_set L (fun e he => h e (by simp [he])) k e (by simpa using hk)
    subst hx
    rw [List.set_cons_succ, List.flatten_cons, ih, List.flatten_cons, show (k + 1) * x.length = x.length + k * x.length from by rw [Nat.add_mul]; omega, Nat.add_assoc, List.take_length_add_append, List.drop_length_add_append]
    simp only [List.append_assoc]
def secC (L : List Sec) : List Value := (L.map Sec.cs).flatten
def wrC (L : List Wr) : List Value := (L.map Wr.cs).flatten
theorem secs_len (L : List Sec) : ∀ e ∈ L.map Sec.cs, e.length = 128 := by
  intro e he; obtain ⟨s, _, rfl⟩ := List.mem_map.1 he; exact s.cs_len
theorem wrs_len (L : List Wr) : ∀ e ∈ L.map Wr.cs, e.length = 129 := by
  intro e he; obtain ⟨s, _, rfl⟩ := List.mem_map.1 he; exact s.cs_len
theorem secC_len (L : List Sec) : (secC L).length = L.length * 128 := by unfold secC; rw [flat_len _ (secs_len L), List.length_map]
theorem wrC_len (L : List Wr) : (wrC L).length = L.length * 129 := by unfold wrC; rw [flat_len _ (wrs_len L), List.length_map]
theorem elems_of_row {w : World} {base : Nat} {e : TypeId} {sz : Nat} {v : Value} {L : List (List Value)} (hl : ∀ x ∈ L, x.length = sz) (h : w.ownsRow base e sz v L.length L.flatten) : ElemsAt sz w v L := by
  rcases h.2 with ⟨rfl, h0⟩ | ⟨g, cap, cur, rfl, _, hg, _⟩
  · have : L = [] := List.eq_nil_of_length_eq_zero h0
    subst this
    exact .inl ⟨none, 0, rfl, rfl⟩
  · refine .inr ⟨g, 0, cap, rfl, (Array.getElem?_eq_some_iff.1 hg).1, fun k x hx j u hj => ?_⟩
    have := h.cells (g := g) rfl (k * sz + j) u (flat_get L hl k x hx j u hj)
    rw [addr_add0] at this
    rw [Nat.zero_add]; rwa [Nat.zero_add] at this
theorem secs_of_row {w : World} {base : Nat} {v : Value} {L : List Sec} (h : w.ownsRow base 27 128 v L.length (secC L)) : SecsAt w v L :=
  elems_of_row (secs_len L) (by rw [List.length_map]; exact h)
theorem wrs_of_row {w : World} {base : Nat} {v : Value} {L : List Wr} (h : w.ownsRow base 95 129 v L.length (wrC L)) : WrsAt w v L :=
  elems_of_row (wrs_len L) (by rw [List.length_map]; exact h)

/-! ### A device -/
/-- The block b is a device of the state D; its map, its two slices. -/
structure DevP (w : World) (b m : Nat) (vs vc : Value) (D : Dv) : Prop where
  dev : w.heap[b]? = some (.cells #[.pointer (some ⟨b, 0, none⟩), vs, vc, .map (some m), .int .i64 D.tk, .int .i64 D.pw, .bool D.off] 89 (0, 0))
  sts : w.ownsRow 0 27 128 vs D.st.length (secC D.st)
  cas : w.ownsRow 0 95 129 vc D.ca.length (wrC D.ca)
  map : MapIs w m (newestF D.ca)
  ok : D.ok
/-- .. all of whose blocks are in X. -/
structure DevAt (w : World) (b : Nat) (X : Nat → Prop) (D : Dv) : Prop where
  parts : ∃ m vs vc, DevP w b m vs vc D ∧ X b ∧ X m ∧ (∀ g, vs.ownBlock = some g → X g) ∧ ∀ g, vc.ownBlock = some g → X g
  lt : ∀ k, X k → k < w.heap.size
theorem DevP.lt {w : World} {b m : Nat} {vs vc : Value} {D : Dv} (h : DevP w b m vs vc D) : b < w.heap.size := (Array.getElem?_eq_some_iff.1 h.dev).1
theorem DevP.cells {w : World} {b m : Nat} {vs vc : Value} {D : Dv} (h : DevP w b m vs vc D) :
    w.cell? ⟨b, 0, none⟩ = some (.pointer (some ⟨b, 0, none⟩)) ∧ w.cell? ⟨b, 1, none⟩ = some vs ∧ w.cell? ⟨b, 2, none⟩ = some vc ∧ w.cell? ⟨b, 3, none⟩ = some (.map (some m)) ∧ w.cell? ⟨b, 4, none⟩ = some (.int .i64 D.tk) ∧ w.cell? ⟨b, 5, none⟩ = some (.int .i64 D.pw) ∧ w.cell? ⟨b, 6, none⟩ = some (.bool D.off) := by
  refine ⟨?_, ?_, ?_, ?_, ?_, ?_, ?_⟩ <;> simp [World.cell?, h.dev]
theorem DevP.frozen {w : World} {b m : Nat} {vs vc : Value} {D : Dv} (h : DevP w b m vs vc D) (k : Nat) : w.frozen? ⟨b, k, none⟩ = false := by
  simp [World.frozen?, h.dev]
theorem DevP.stv {w : World} {b m : Nat} {vs vc : Value} {D : Dv} (h : DevP w b m vs vc D) : ∃ g c cur, vs = .slice (some ⟨g, 0, none⟩) D.st.length c ∧ w.heap[g]? = some (.cells cur 27 (0, 0)) ∧ cur.size = c * 128 ∧ D.st.length ≤ c ∧ cur.toList.take (D.st.length * 128) = secC D.st := by
  rcases h.sts.2 with ⟨_, h0⟩ | ⟨g, cap, cur, rfl, _, hg, hn, _, hs, ht⟩
  · have := h.ok.s0; omega
  · exact ⟨g, cap, cur, rfl, hg, hs, hn, ht⟩
theorem DevP.cav {w : World} {b m : Nat} {vs vc : Value} {D : Dv} (h : DevP w b m vs vc D) : ∃ a c, vc = .slice a D.ca.length c ∧ (a = none → D.ca = []) ∧ ∀ p, a = some p → ∃ g, p = ⟨g, 0, none⟩ := by
  rcases h.cas.2 with ⟨rfl, h0⟩ | ⟨g, cap, cur, rfl, _, hg, _⟩
  · rw [h0]; exact ⟨none, 0, rfl, (fun _ => List.eq_nil_of_length_eq_zero h0), (fun _ h => by cases h)⟩
  · exact ⟨_, cap, rfl, (fun h => by cases h), (fun p h => by cases h; exact ⟨g, rfl⟩)⟩
/-- The blocks of a device's slices are other ones than its own. -/
theorem DevP.stb {w : World} {b m : Nat} {vs vc : Value} {D : Dv} (h : DevP w b m vs vc D) : vs.ownBlock ≠ some b := by
  obtain ⟨g, c, cur, rfl, hg, _⟩ := h.stv
  intro e
  simp [Value.ownBlock] at e
  subst e
  rw [h.dev] at hg; simp at hg
theorem DevP.cab {w : World} {b m : Nat} {vs vc : Value} {D : Dv} (h : DevP w b m vs vc D) : vc.ownBlock ≠ some b := by
  rcases h.cas.2 with ⟨rfl, _⟩ | ⟨g, cap, cur, rfl, _, hg, _⟩
  · simp [Value.ownBlock]
  · intro e
    simp [Value.ownBlock] at e
    subst e
    rw [h.dev] at hg; simp at hg
theorem DevP.mb {w : World} {b m : Nat} {vs vc : Value} {D : Dv} (h : DevP w b m vs vc D) : m ≠ b := by
  rintro rfl
  obtain ⟨es, cl, hm, _⟩ := h.map
  rw [h.dev] at hm; cases hm
theorem DevP.ms {w : World} {b m : Nat} {vs vc : Value} {D : Dv} (h : DevP w b m vs vc D) : vs.ownBlock ≠ some m := by
  obtain ⟨g, c, cur, rfl, hg, _⟩ := h.stv
  intro e
  simp [Value.ownBlock] at e
  subst e
  obtain ⟨es, cl, hm, _⟩ := h.map
  rw [hm] at hg; cases hg
theorem DevP.mc {w : World} {b m : Nat} {vs vc : Value} {D : Dv} (h : DevP w b m vs vc D) : vc.ownBlock ≠ some m := by
  rcases h.cas.2 with ⟨rfl, _⟩ | ⟨g, cap, cur, rfl, _, hg, _⟩
  · simp [Value.ownBlock]
  · intro e
    simp [Value.ownBlock] at e
    subst e
    obtain ⟨es, cl, hm, _⟩ := h.map
    rw [hm] at hg; cases hg
theorem DevP.sc {w : World} {b m : Nat} {vs vc : Value} {D : Dv} (h : DevP w b m vs vc D) : ∀ g, vs.ownBlock = some g → vc.ownBlock ≠ some g := by
  obtain ⟨g, c, cur, rfl, hg, _⟩ := h.stv
  intro g' e
  simp [Value.ownBlock] at e
  subst e
  rcases h.cas.2 with ⟨rfl, _⟩ | ⟨g2, cap, cur2, rfl, _, hg2, _⟩
  · simp [Value.ownBlock]
  · intro e
    simp [Value.ownBlock] at e
    subst e
    rw [hg] at hg2; simp at hg2
theorem row_kept {X : Nat → Prop} {w w' : World} {base : Nat} {e : TypeId} {sz n : Nat} {v : Value} {xs : List Value} (h : w.ownsRow base e sz v n xs) (hk : Kept X w w') (hx : ∀ g, v.ownBlock = some g → ¬ X g) : w'.ownsRow base e sz v n xs := by
  refine ⟨h.1, ?_⟩
  rcases h.2 with hn | ⟨g, cap, cur, rfl, hb, hg, rest⟩
  · exact .inl hn
  · exact .inr ⟨g, cap, cur, rfl, hb, (hk.block g (Array.getElem?_eq_some_iff.1 hg).1 (hx g rfl)).trans hg, rest⟩
theorem DevP.kept {X : Nat → Prop} {w w' : World} {b m : Nat} {vs vc : Value} {D : Dv} (h : DevP w b m vs vc D) (hk : Kept X w w') (hb : ¬ X b) (hm : ¬ X m) (hs : ∀ g, vs.ownBlock = some g → ¬ X g) (hc : ∀ g, vc.ownBlock = some g → ¬ X g) : DevP w' b m vs vc D :=
  ⟨(hk.block b h.lt hb).trans h.dev, row_kept h.sts hk hs, row_kept h.cas hk hc, h.map.kept hk hm, h.ok⟩
theorem DevAt.kept {X Y : Nat → Prop} {w w' : World} {b : Nat} {D : Dv} (h : DevAt w b Y D) (hk : Kept X w w') (hx : ∀ k, Y k → ¬ X k) : DevAt w' b Y D := by
  obtain ⟨m, vs, vc, hp, h1, h2, h3, h4⟩ := h.parts
  exact ⟨⟨m, vs, vc, hp.kept hk (hx _ h1) (hx _ h2) (fun g hg => hx _ (h3 g hg)) (fun g hg => hx _ (h4 g hg)), h1, h2, h3, h4⟩, fun k hk' => Nat.lt_of_lt_of_le (h.lt k hk') hk.size⟩
theorem DevAt.below {n : Nat} {Y : Nat → Prop} {w w' : World} {b : Nat} {D : Dv} (h : DevAt w b Y D) (hk : Below n w w') (hn : w.heap.size ≤ n) : DevAt w' b Y D :=
  h.kept (Below.kept hk (fun k => n ≤ k) (fun k _ h => by omega)) (fun k hy hx => by have := h.lt k hy; omega)
theorem DevAt.ok {Y : Nat → Prop} {w : World} {b : Nat} {D : Dv} (h : DevAt w b Y D) : D.ok := by obtain ⟨m, vs, vc, hp, _⟩ := h.parts; exact hp.ok
/-- What a call on a device leaves. -/
structure Step (b : Nat) (X : Nat → Prop) (D : Dv) (w w' : World) : Prop where
  dev : ∃ X', DevAt w' b X' D ∧ ∀ k, X' k → X k ∨ w.heap.size ≤ k
  kept : Kept X w w'
theorem Step.same {b : Nat} {X : Nat → Prop} {D : Dv} {w w' : World} (h : DevAt w b X D) (hb : Below w.heap.size w w') : Step b X D w w' :=
  ⟨⟨X, h.below hb (Nat.le_refl _), fun k hk => .inl hk⟩, Below.kept hb X (fun k hk _ => hk)⟩
theorem Step.refl {b : Nat} {X : Nat → Prop} {D : Dv} {w : World} (h : DevAt w b X D) : Step b X D w w := Step.same h (Below.refl _ _)
/-- The state of a device turned by a store into its own block. -/
theorem DevP.turn {w w' : World} {b m : Nat} {vs vc : Value} {D E : Dv} (h : DevP w b m vs vc D) (hk : Kept (fun k => k = b) w w')
    (hd : w'.heap[b]? = some (.cells #[.pointer (some ⟨b, 0, none⟩), vs, vc, .map (some m), .int .i64 E.tk, .int .i64 E.pw, .bool E.off] 89 (0, 0))) (e1 : E.st = D.st) (e2 : E.ca = D.ca) (ok : E.ok) : DevP w' b m vs vc E :=
  ⟨hd, by rw [e1]; exact row_kept h.sts hk (fun g hg e => h.stb (e ▸ hg)), by rw [e2]; exact row_kept h.cas hk (fun g hg e => h.cab (e ▸ hg)), by rw [e2]; exact h.map.kept hk h.mb, ok⟩
theorem DevP.set4 {w : World} {b m : Nat} {vs vc : Value} {D : Dv} (h : DevP w b m vs vc D) (n : Int) (ok : ({ D with tk := n } : Dv).ok) : DevP (w.setCell ⟨b, 4, none⟩ (.int .i64 n)) b m vs vc { D with tk := n } :=
  h.turn (Kept.setCell (X := fun k => k = b) (Kept.refl _ w) ⟨b, 4, none⟩ rfl _) (by rw [heap_setCell_same w b 4 _ _ _ h.dev]; simp) rfl rfl ok
theorem DevP.set5 {w : World} {b m : Nat} {vs vc : Value} {D : Dv} (h : DevP w b m vs vc D) (n : Int) (ok : ({ D with pw := n } : Dv).ok) : DevP (w.setCell ⟨b, 5, none⟩ (.int .i64 n)) b m vs vc { D with pw := n } :=
  h.turn (Kept.setCell (X := fun k => k = b) (Kept.refl _ w) ⟨b, 5, none⟩ rfl _) (by rw [heap_setCell_same w b 5 _ _ _ h.dev]; simp) rfl rfl ok
theorem DevP.set6 {w : World} {b m : Nat} {vs vc : Value} {D : Dv} (h : DevP w b m vs vc D) (o : Bool) : DevP (w.setCell ⟨b, 6, none⟩ (.bool o)) b m vs vc { D with off := o } :=
  h.turn (Kept.setCell (X := fun k => k = b) (Kept.refl _ w) ⟨b, 6, none⟩ rfl _) (by rw [heap_setCell_same w b 6 _ _ _ h.dev]; simp) rfl rfl ⟨h.ok.s0, h.ok.s1, h.ok.ca, h.ok.ats, h.ok.t0, h.ok.t1, h.ok.p0, h.ok.p1⟩
/-- A device that turned in place. -/
theorem Step.of {w w' : World} {b : Nat} {X : Nat → Prop} {D E : Dv} (h : DevAt w b X D) (f : ∀ m vs vc, DevP w b m vs vc D → DevP w' b m vs vc E) (hk : Kept X w w') : Step b X E w w' := by
  obtain ⟨m, vs, vc, hp, h1, h2, h3, h4⟩ := h.parts
  exact ⟨⟨X, ⟨⟨m, vs, vc, f m vs vc hp, h1, h2, h3, h4⟩, fun k hk' => Nat.lt_of_lt_of_le (h.lt k hk') hk.size⟩, fun k hk => .inl hk⟩, hk⟩

/-! ### isMade -/
theorem infoDev : ∃ j, Tryd.prog.info? 89 = some j := by
  have h : (Tryd.prog.info? 89).isSome = true := by kernel_rfl
  exact Option.isSome_iff_exists.1 h
theorem ptr_same (w : World) (a : Addr) : (binOp .eql 45 (.pointer (some a)) (.pointer (some a))).run Tryd.prog w = .ok (.bool true) w := by
  obtain ⟨j, hj⟩ := infoDev
  exact run_eql_ptr_same w a Tryd.underlying45 hj
theorem ptr_nil_left (w : World) (a : Addr) : (binOp .eql 45 (.pointer none) (.pointer (some a))).run Tryd.prog w = .ok (.bool false) w := by
  have h : ∀ d : Nat, (Op.equalIn (d + 1) 45 (.pointer none) (.pointer (some a))).run Tryd.prog w = .ok false w := fun d => by
    simp [Op.equalIn, run_underlying Tryd.underlying45]
  simp only [binOp]
  simp [Op.equal, Op.maxDepth, h 9999]
abbrev dptr (b : Nat) : Value := .pointer (some ⟨b, 0, none⟩)
theorem isMade_any {w : World} {b : Nat} {X : Nat → Prop} {D : Dv} (h : DevAt w b X D) :
    Calls Tryd.prog 37 #[.pointer (some ⟨b, 0, none⟩)] w fun e w' => e = .returned (.bool true) ∧ w = w' := by
  obtain ⟨m, vs, vc, hp, _⟩ := h.parts
  have h0 := hp.cells.1
  have hq := ptr_same w ⟨b, 0, none⟩
  clear h hp
  go_enter Tryd.func37, Tryd.ntmps37
  go_wp2
  go_ret
  exact ⟨rfl, rfl⟩
theorem isMade_nil (w : World) :
    Calls Tryd.prog 37 #[.pointer none] w fun e w' => e = .returned (.bool false) ∧ w = w' := by
  go_enter Tryd.func37, Tryd.ntmps37
  go_wp2
  go_ret
  exact ⟨rfl, rfl⟩
theorem isMade_zero (b : Nat) (w : World) (h : w.cell? ⟨b, 0, none⟩ = some (.pointer none)) :
    Calls Tryd.prog 37 #[.pointer (some ⟨b, 0, none⟩)] w fun e w' => e = .returned (.bool false) ∧ w = w' := by
  have hq := ptr_nil_left w ⟨b, 0, none⟩
  go_enter Tryd.func37, Tryd.ntmps37
  go_wp2
  go_ret
  exact ⟨rfl, rfl⟩

/-! ### ready, reach -/
theorem ready_any {w : World} {b : Nat} {X : Nat → Prop} {D : Dv} (h : DevAt w b X D) :
    Calls Tryd.prog 59 #[.pointer (some ⟨b, 0, none⟩)] w fun e w' => e = .returned (.int .i64 (readyE D)) ∧ w = w' := by
  have HC := Lib.hid (isMade_any h)
  obtain ⟨m, vs, vc, hp, _⟩ := h.parts
  have h6 := hp.cells.2.2.2.2.2.2
  cases ho : D.off with
  | true =>
    have HE : Hid (readyE D = 13) := Lib.hid (by unfold readyE; rw [ho]; rfl)
    rw [ho] at h6
    clear h hp ho
    go_enter Tryd.func59, Tryd.ntmps59
    go_wp2_with fail
    refine HC.out.mono ?_
    rintro e w' ⟨rfl, rfl⟩
    go_wp2_with fail
    go_ret
    exact ⟨ret_int HE.out.symm, rfl⟩
  | false =>
    have HE : Hid (readyE D = 0) := Lib.hid (by unfold readyE; rw [ho]; rfl)
    rw [ho] at h6
    clear h hp ho
    go_enter Tryd.func59, Tryd.ntmps59
    go_wp2_with fail
    refine HC.out.mono ?_
    rintro e w' ⟨rfl, rfl⟩
    go_wp2_with fail
    go_ret
    exact ⟨ret_int HE.out.symm, rfl⟩
theorem ready_none {w : World} {v : Value} (hc : Calls Tryd.prog 37 #[v] w fun e w' => e = .returned (.bool false) ∧ w = w') :
    Calls Tryd.prog 59 #[v] w fun e w' => e = .returned (.int .i64 1) ∧ w = w' := by
  have HC := Lib.hid hc
  clear hc
  go_enter Tryd.func59, Tryd.ntmps59
  go_wp2_with fail
  refine HC.out.mono ?_
  rintro e w' ⟨rfl, rfl⟩
  go_wp2_with fail
  go_ret
  exact ⟨rfl, rfl⟩
theorem reach_none {w : World} {v : Value} (n : Int) (hc : Calls Tryd.prog 37 #[v] w fun e w' => e = .returned (.bool false) ∧ w = w') :
    Calls Tryd.prog 50 #[v, .int .i64 n] w fun e w' => e = .returned (.int .i64 1) ∧ w = w' := by
  have HC := Lib.hid (ready_none hc)
  clear hc
  go_enter Tryd.func50, Tryd.ntmps50
  go_wp2_with fail
  refine HC.out.mono ?_
  rintro e w' ⟨rfl, rfl⟩
  go_wp2_with fail
  go_ret
  exact ⟨rfl, rfl⟩
theorem reach_any {w : World} {b : Nat} {X : Nat → Prop} {D : Dv} (h : DevAt w b X D) (n : Int) :
    Calls Tryd.prog 50 #[.pointer (some ⟨b, 0, none⟩), .int .i64 n] w fun e w' => e = .returned (.int .i64 (readE D n)) ∧ w = w' := by
  have HC := Lib.hid (ready_any h)
  obtain ⟨m, vs, vc, hp, _⟩ := h.parts
  have h1 := hp.cells.2.1
  obtain ⟨g, c, _, rfl, _⟩ := hp.stv
  have hl := hp.ok.s1
  cases ho : D.off with
  | true =>
    have HE : Hid (readE D n = 13) := Lib.hid (by unfold readE; rw [ho]; rfl)
    rw [show readyE D = 13 from by unfold readyE; rw [ho]; rfl] at HC
    clear h hp ho
    go_enter Tryd.func50, Tryd.ntmps50
    go_wp2_with fail
    refine HC.out.mono ?_
    rintro e w' ⟨rfl, rfl⟩
    go_wp2_with fail
    go_ret
    exact ⟨ret_int HE.out.symm, rfl⟩
  | false =>
    rw [show readyE D = 0 from by unfold readyE; rw [ho]; rfl] at HC
    have HE : Hid (readE D n = if inS D.st.length n then 0 else 7) := Lib.hid (by unfold readE; rw [ho]; rfl)
    by_cases c1 : n < 0
    · have d1 : decide (n < 0) = true := by simpa using c1
      have HI := Lib.hid (inS_no (n := D.st.length) (i := n) (by omega))
      clear h hp ho
      go_enter Tryd.func50, Tryd.ntmps50
      go_wp2_with fail
      refine HC.out.mono ?_
      rintro e w' ⟨rfl, rfl⟩
      go_wp2_with fail
      go_ret
      exact ⟨ret_int (by rw [HE.out, HI.out]; rfl), rfl⟩
    · have d1 : decide (n < 0) = false := by simpa using c1
      by_cases c2 : (D.st.length : Int) ≤ n
      · have HI := Lib.hid (inS_no (n := D.st.length) (i := n) (by omega))
        clear h hp ho
        go_enter Tryd.func50, Tryd.ntmps50
        go_wp2_with fail
        refine HC.out.mono ?_
        rintro e w' ⟨rfl, rfl⟩
        go_wp2_with fail
        go_ret
        exact ⟨ret_int (by rw [HE.out, HI.out]; rfl), rfl⟩
      · have HI := Lib.hid (inS_mk (n := D.st.length) (i := n) (by omega) (by omega))
        clear h hp ho
        go_enter Tryd.func50, Tryd.ntmps50
        go_wp2_with fail
        refine HC.out.mono ?_
        rintro e w' ⟨rfl, rfl⟩
        go_wp2_with fail
        go_ret
        exact ⟨ret_int (by rw [HE.out, HI.out]; rfl), rfl⟩
end Go.Proofs.YtbaibmndmcdfdaaDoor.D
