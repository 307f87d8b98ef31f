/- 'append' of bytes onto a row of the call's own; a copy of a string of bytes. -/
import Derived.Test.YtadaohjphgpdnaaDoorShown
import Derived.Deep.Upon
import Derived.Deep.AppendSrc
namespace Go.Proofs.YtadaohjphgpdnaaDoor
open Go.RowKit

theorem Tryd.infoByte : (Tryd.prog.info? 5).map (fun i => (i.zero, i.size, i.bytes)) = some (some (.int .u8 0), 1, 1) := by kernel_rfl
theorem bytesAt_of_row {w : World} {base : Nat} {v : Value} {l : List UInt8} (h : w.ownsRow base 5 1 v l.length (Lib.byteCells l)) : BytesAt w v l := by
  rcases h.2 with ⟨rfl, h0⟩ | ⟨g, cap, cur, rfl, _, hg, _⟩
  · have : l = [] := List.eq_nil_of_length_eq_zero h0
    subst this
    exact .inl ⟨none, 0, rfl, rfl⟩
  · refine .inr ⟨g, 0, cap, rfl, (Array.getElem?_eq_some_iff.1 hg).1, fun j hj => ?_⟩
    have := h.cells (g := g) rfl j (.int .u8 (l[j].toNat : Int)) (by simp [Lib.byteCells, List.getElem?_map, List.getElem?_eq_getElem hj])
    rw [addr_add] at this
    exact this

/-- 'append(v, x...)', v of the call's own, x bytes, nil too. -/
theorem run_append_bytes {W : World} {ty : TypeId} {base : Nat} {v x : Value} {n : Nat} {xs : List Value} {l : List UInt8} (hown : W.ownsRow base 5 1 v n xs) (hv : ∃ g cap, v = .slice (some ⟨g, 0, none⟩) n cap) (hx : BytesAt W x l)
    (hl : n + l.length ≤ 100000) (hb : base ≤ W.heap.size) :
    ∃ g cap w', (Builtin.append_ #[23, 23] ty #[v, x]).run Tryd.prog W = .ok (.slice (some ⟨g, 0, none⟩) (n + l.length) cap) w' ∧ w'.ownsRow base 5 1 (.slice (some ⟨g, 0, none⟩) (n + l.length) cap) (n + l.length) (xs ++ Lib.byteCells l) ∧ W.grownBy w' v.ownBlock := by
  obtain ⟨i0, hi, hz0, hz1, hz2⟩ := info_parts Tryd.infoByte
  obtain ⟨g, cap, rfl⟩ := hv
  rcases hx with ⟨a, c, rfl, rfl⟩ | ⟨b, o, c, rfl, hlt, hcell⟩
  · have hnc : n ≤ cap := by
      rcases hown.2 with ⟨h, _⟩ | ⟨g', cap', cur, h, _, _, hn, _⟩
      · cases h
      · cases h; exact hn
    have hs : Src Tryd.prog i0.size 23 (.slice a 0 c) 0 [] W := by
      cases a with
      | none => exact Src.ofNil W Tryd.underlying23 c
      | some ad => exact Src.ofSlice W Tryd.underlying23 ad 0 c [] (by simp) (fun j u h => by simp at h) (fun u h => by cases h)
    exact ⟨g, cap, W, run_append_nothing W _ _ ty _ i0 Tryd.underlying23 hi _ n cap hnc _ hs, by simpa [Lib.byteCells] using hown, World.grownBy.refl _ _⟩
  · obtain ⟨v', w', hr, h1, h2, h3⟩ := run_append_own (P := Tryd.prog) (w := W) base 23 ty 5 i0 (.int .u8 0) 1 1 Tryd.underlying23 hi hz0 hz1 hz2 rfl (by decide) _ n xs hown ⟨b, o, none⟩ l.length c (Lib.byteCells l) (by simp [Lib.byteCells])
      (fun j u hj => by
        unfold Lib.byteCells at hj
        rw [List.getElem?_map] at hj
        have hjl : j < l.length := by
          rcases Nat.lt_or_ge j l.length with h | h
          · exact h
          · rw [List.getElem?_eq_none h] at hj; simp at hj
        rw [List.getElem?_eq_getElem hjl] at hj
        simp at hj; subst hj
        rw [addr_add]; exact hcell j hjl)
      (by intro u hu; obtain ⟨s, _, rfl⟩ := List.mem_map.1 hu; rfl) (by unfold maxLen; omega) (by omega) hb
    rcases h1.2 with ⟨h, h0⟩ | ⟨g', cap', cur, h, _⟩
    · have := h3.1 h
      cases this.1
    · subst h
      exact ⟨g', cap', w', hr, h1, h2⟩

/-- An append whose run is known, for the walk. -/
theorem wpList_append_run {P : Program} {w : World} {ops : Array Oper} {rest : List Oper} {o : Oper} {a : Act} {Q : Exit → Act → World → Prop} (hgd : o.guard = none) (s x : Operand) (t : TypeId)
    (ho : o.op = .call { callee := .builtin .append, args := #[s, x], argTypes := #[t, t] }) (v xv v' : Value) (w' : World) (hs : a.eval s = v) (hx : a.eval x = xv)
    (hrun : (Builtin.append_ #[t, t] o.type #[v, xv]).run P w = .ok v' w') (h : wpList P ops Q rest (a.put o.dst v') w') : wpList P ops Q (o :: rest) a w := by
  refine wpList_plain hgd fun K hK => ?_
  unfold Oper.wp
  simp [execOp, ho, resolve, invoke, builtin, hs, hx, hrun, Result.andThen]
  exact hK _ _ h
theorem wpList_append_bytes {w : World} {ops : Array Oper} {rest : List Oper} {o : Oper} {a : Act} {Q : Exit → Act → World → Prop} (hgd : o.guard = none) (s x : Operand)
    (ho : o.op = .call { callee := .builtin .append, args := #[s, x], argTypes := #[23, 23] })
    (base : Nat) (v xv : Value) (n : Nat) (xs : List Value) (l : List UInt8) (hs : a.eval s = v) (hx : a.eval x = xv)
    (hown : w.ownsRow base 5 1 v n xs) (hv : ∃ g cap, v = .slice (some ⟨g, 0, none⟩) n cap) (hxs : BytesAt w xv l) (hl : n + l.length ≤ 100000) (hb : base ≤ w.heap.size)
    (h : ∀ g cap w', w'.ownsRow base 5 1 (.slice (some ⟨g, 0, none⟩) (n + l.length) cap) (n + l.length) (xs ++ Lib.byteCells l) → w.grownBy w' v.ownBlock → wpList Tryd.prog ops Q rest (a.put o.dst (.slice (some ⟨g, 0, none⟩) (n + l.length) cap)) w') :
    wpList Tryd.prog ops Q (o :: rest) a w := by
  obtain ⟨g, cap, w', hr, h1, h2⟩ := run_append_bytes (ty := o.type) hown hv hxs hl hb
  exact wpList_append_run hgd s x 23 ho v xv _ w' hs hx hr (h g cap w' h1 h2)
theorem made0 (w : World) (base : Nat) (hb : base ≤ w.heap.size) : (w.alloc (.cells #[] 5)).ownsRow base 5 1 (.slice (some ⟨w.heap.size, 0, none⟩) 0 0) 0 [] :=
  World.ownsRow_made (base := base) (e := 5) (size := 1) w #[] 0 hb (by unfold maxLen; omega) rfl

/-- A row of the call's own that reads as bytes. -/
def OwnBytes (w : World) (base g : Nat) (cap : Nat) (l : List UInt8) : Prop := w.ownsRow base 5 1 (.slice (some ⟨g, 0, none⟩) l.length cap) l.length (Lib.byteCells l)
theorem OwnBytes.at_ {w : World} {base g cap : Nat} {l : List UInt8} (h : OwnBytes w base g cap l) : BytesAt w (.slice (some ⟨g, 0, none⟩) l.length cap) l := bytesAt_of_row h
theorem OwnBytes.ge {w : World} {base g cap : Nat} {l : List UInt8} (h : OwnBytes w base g cap l) : base ≤ g ∧ g < w.heap.size := by
  have := h.lt g rfl
  exact this
theorem OwnBytes.below {w w' : World} {base g cap : Nat} {l : List UInt8} (h : OwnBytes w base g cap l) (hb : Below w.heap.size w w') : OwnBytes w' base g cap l :=
  World.ownsRow.kept h (row := none) ⟨hb.os, hb.tape, hb.output, hb.size, fun k hk _ => hb.block k hk⟩ (.inr (by simp [Value.ownBlock]))
theorem OwnBytes.set {w : World} {base g cap : Nat} {l : List UInt8} (h : OwnBytes w base g cap l) (k : Nat) (c : UInt8) : OwnBytes (w.setCell ⟨g, k, none⟩ (.int .u8 c.toNat)) base g cap (l.set k c) := by
  have := (World.ownsRow.stored h k (.int .u8 c.toNat)).1
  unfold OwnBytes
  rw [List.length_set]
  have e : (Lib.byteCells l).set k (.int .u8 c.toNat) = Lib.byteCells (l.set k c) := by simp [Lib.byteCells, List.map_set]
  rw [← e]
  exact this
theorem OwnBytes.cell {w : World} {base g cap : Nat} {l : List UInt8} (h : OwnBytes w base g cap l) (k : Nat) (hk : k < l.length) : w.cell? ⟨g, k, none⟩ = some (.int .u8 l[k].toNat) := by
  have := World.ownsRow.cellAt h k (by omega)
  rw [this]
  simp [Lib.byteCells, hk]
theorem OwnBytes.frozen {w : World} {base g cap : Nat} {l : List UInt8} (h : OwnBytes w base g cap l) (k : Nat) : w.frozen? ⟨g, k, none⟩ = false := World.ownsRow.frozenAt h k
end Go.Proofs.YtadaohjphgpdnaaDoor
