/- What comes in: a slice of calls. -/
import Derived.Test.YtaiaibpcpcndgaaPlays
import Derived.Test.YtaiaibpcpcndgaaArgs
import Derived.Deep.Slices
namespace Go.Proofs.Ytaiaibpcpcndgaa
open Go.ChangeShapes Go.WideShapes Go.ChangeAt Go.RowKit

theorem cellsCall : Try.prog.cellsOf 33 = 4 := by kernel_rfl
theorem cellsOf3 : Try.prog.cellsOf 3 = 1 := by kernel_rfl
theorem cellsBool : Try.prog.cellsOf 4 = 1 := by kernel_rfl

theorem four_cells {α : Type} (l : List α) (h : l.length = 4) : ∃ a b c d, l = [a, b, c, d] := by
  match l, h with
  | [a, b, c, d], _ => exact ⟨a, b, c, d, rfl⟩

/-- One call, as its four cells. -/
theorem call_trod {H : Type} {enc : TypeId × Value → H} {W : World} {base fuel : Nat} {sp : Nat → Bool} {held : Bool} {cs : List Value} {x : DataW H × List MemPlace}
    (h : DataW.trod enc Try.prog W base sp held fuel 33 cs = some x) : ∃ c : Ca, c.ok ∧ cs = [.int .u8 c.wh, .int .i64 c.i, .int .i64 c.n, .bool c.v] := by
  obtain ⟨xs, n, _, ex, hl, hn, hel⟩ := DataW.trod_struct Try.underlying33 h
  rw [cellsCall] at hl
  obtain ⟨a, b, c, d, rfl⟩ := four_cells cs hl
  obtain ⟨x0, x1, x2, x3, rfl⟩ := four_cells xs hn
  have h0 : DataW.trod enc Try.prog W base sp held n 5 (([a, b, c, d].drop 0).take (Try.prog.cellsOf 5)) = some x0 := hel 0 _ rfl
  have h1 : DataW.trod enc Try.prog W base sp held n 3 (([a, b, c, d].drop 1).take (Try.prog.cellsOf 3)) = some x1 := hel 1 _ rfl
  have h2 : DataW.trod enc Try.prog W base sp held n 3 (([a, b, c, d].drop 2).take (Try.prog.cellsOf 3)) = some x2 := hel 2 _ rfl
  have h3 : DataW.trod enc Try.prog W base sp held n 4 (([a, b, c, d].drop 3).take (Try.prog.cellsOf 4)) = some x3 := hel 3 _ rfl
  rw [cellsByte] at h0
  rw [cellsOf3] at h1 h2
  rw [cellsBool] at h3
  obtain ⟨z0, e0, _, w0⟩ := DataW.trod_int Try.underlying5 h0
  obtain ⟨z1, e1, _, w1⟩ := DataW.trod_int Try.underlying3 h1
  obtain ⟨z2, e2, _, w2⟩ := DataW.trod_int Try.underlying3 h2
  obtain ⟨z3, e3, _⟩ := DataW.trod_bool Try.underlying4 h3
  simp at e0 e1 e2 e3
  subst e0 e1 e2 e3
  have b0 : 0 ≤ z0 ∧ z0 ≤ 255 := by
    simp [Lit.wf, IntKind.min, IntKind.max, IntKind.signed, IntKind.bits] at w0; omega
  have b1 : -9223372036854775808 ≤ z1 ∧ z1 ≤ 9223372036854775807 := by
    simp [Lit.wf, IntKind.min, IntKind.max, IntKind.signed, IntKind.bits] at w1; omega
  have b2 : -9223372036854775808 ≤ z2 ∧ z2 ≤ 9223372036854775807 := by
    simp [Lit.wf, IntKind.min, IntKind.max, IntKind.signed, IntKind.bits] at w2; omega
  obtain ⟨m, rfl⟩ := Int.eq_ofNat_of_zero_le b0.1
  exact ⟨⟨m, z1, z2, z3⟩, ⟨by show m ≤ 255; omega, b1.1, b1.2, b2.1, b2.2⟩, rfl⟩

theorem add_of (g o i j : Nat) : ((⟨g, o, none⟩ : Addr).add i).add j = ⟨g, o + i + j, none⟩ := by rw [addr_add, addr_add]

theorem calls_open {H : Type} {enc : TypeId × Value → H} {W : World} {base : Nat} {v : Value} {d : DataW H} {p : List MemPlace} (hval : Value.okWide Try.prog W .any base 24 v) (h : DataW.Trod enc Try.prog W 0 (fun _ => true) true 24 v d p) :
    ∃ cl : List Ca, CallsAt W v cl ∧ cl.length ≤ maxLen := by
  obtain ⟨a1, len, cap, rfl⟩ := okWide_slice Try.underlying24 hval
  obtain ⟨fuel, hf⟩ := h
  rcases Go.Deep.open_slice Try.underlying24 hf with ⟨hcs, hx⟩ | ⟨a, len', cap', m, n, D, Pl, hcs, _, hl, hm, hmm, hx, hi⟩
  · simp [Value.cells] at hcs
    obtain ⟨rfl, rfl, rfl⟩ := hcs
    exact ⟨[], .inl ⟨_, _, rfl, rfl⟩, Nat.zero_le _⟩
  · simp [Value.cells] at hcs
    obtain ⟨rfl, rfl, rfl⟩ := hcs
    simp only [if_true] at hmm
    by_cases h0 : len = 0
    · subst h0
      exact ⟨[], .inl ⟨_, _, rfl, rfl⟩, Nat.zero_le _⟩
    · rw [cellsCall] at hi
      have hone : ∀ i, i < len → ∃ c : Ca, c.ok ∧ W.cell? ((a.add (i * 4)).add 0) = some (.int .u8 c.wh) ∧ W.cell? ((a.add (i * 4)).add 1) = some (.int .i64 c.i) ∧ W.cell? ((a.add (i * 4)).add 2) = some (.int .i64 c.n) ∧ W.cell? ((a.add (i * 4)).add 3) = some (.bool c.v) := by
        intro i hil
        obtain ⟨cs', hc, ht⟩ := hi i (by omega)
        obtain ⟨c, hok, rfl⟩ := call_trod ht
        obtain ⟨_, _, hat⟩ := World.cells?_some hc
        exact ⟨c, hok, (hat 0 (by omega)).trans rfl, (hat 1 (by omega)).trans rfl, (hat 2 (by omega)).trans rfl, (hat 3 (by omega)).trans rfl⟩
      obtain ⟨ab, ao, spot⟩ := a
      have hspot : spot = none := by
        obtain ⟨c, _, hc, _⟩ := hone 0 (by omega)
        simpa [Addr.add] using World.cell?_spot hc
      subst hspot
      have hb : ab < W.heap.size := by
        obtain ⟨c, _, hc, _⟩ := hone 0 (by omega)
        rw [add_of] at hc
        unfold World.cell? at hc
        rcases Nat.lt_or_ge ab W.heap.size with hh | hh
        · exact hh
        · simp [Array.getElem?_eq_none hh] at hc
      let f : Nat → Ca := fun i => if h : i < len then Classical.choose (hone i h) else ⟨0, 0, 0, false⟩
      have hlen : ((List.range len).map f).length = len := by simp
      refine ⟨(List.range len).map f, .inr ⟨ab, ao, cap, by rw [hlen], hb, fun k hk => ?_⟩, by rw [hlen]; omega⟩
      rw [hlen] at hk
      have hfk : ((List.range len).map f)[k]'(by rw [hlen]; exact hk) = Classical.choose (hone k hk) := by
        simp only [List.getElem_map, List.getElem_range]
        show (if h : k < len then Classical.choose (hone k h) else _) = _
        rw [dif_pos hk]
      have hsp := Classical.choose_spec (hone k hk)
      rw [← hfk] at hsp
      obtain ⟨h1, h2, h3, h4, h5⟩ := hsp
      rw [add_of] at h2 h3 h4 h5
      exact ⟨h2, h3, h4, h5, h1⟩
end Go.Proofs.Ytaiaibpcpcndgaa
