/- What comes in: lists of strings, three of them, strings; that they read afterwards as they did. -/
import Derived.Test.YtbgfeonlnhlbfaaPieces
import Derived.Test.YtbgfeonlnhlbfaaRows
import Derived.ProofKit
import Derived.OpenShut
import Derived.ShapedOpen
import Derived.HandedShaped
import Derived.Carry
import Derived.SliceStrings
import Derived.Shelf.LaysM
namespace Go.Proofs.Ytbgfeonlnhlbfaa
open Go.ChangeShapes Go.WideShapes Go.ChangeAt Go.RowKit

theorem own : ownKnob Try.prog.godebug = none := by kernel_rfl
theorem laidOut : laidOutB Try.prog = true := by kernel_rfl
theorem cellsStr : Try.prog.cellsOf 9 = 1 := by kernel_rfl
theorem cellsList : Try.prog.cellsOf 22 = 1 := by kernel_rfl
theorem cellsThree : Try.prog.cellsOf 51 = 3 := by kernel_rfl
theorem env_of_shaped {W : World} (h : W.ShapedOpen Try.prog) : EnvM W :=
  Go.Proofs.cell_of_shapedOpen_int (zero := #[.int .i64 0]) (t := 3) h (of_decide_eq_true (by kernel_rfl)) (by kernel_rfl) rfl (by kernel_rfl) (by kernel_rfl) Try.underlying3

/-- A list of strings that came in. -/
structure ListIn (W : World) (v : Value) (ss : List ByteArray) : Prop where
  at_ : StrsAt W v ss
  len : ss.length ≤ 9223372036854775807
  each : ∀ s ∈ ss, s.size ≤ maxLen
theorem cells_open {H : Type} {enc : TypeId × Value → H} {W : World} {base fuel : Nat} {sp : Nat → Bool} {held : Bool} {cs : List Value} {x : DataW H × List MemPlace}
    (h : DataW.trod enc Try.prog W base sp held fuel 22 cs = some x) (hsp : ∀ b, sp b = true) : ∃ v ss, cs = [v] ∧ ListIn W v ss := by
  rcases open_strings Try.underlying22 Try.underlying9 cellsStr h with ⟨hcs, hx⟩ | ⟨a, len', cap', zs, hcs, _, hl, hm, hz, hx, hcell, hwz⟩
  · exact ⟨_, [], hcs, ⟨.inl ⟨_, _, rfl, rfl⟩, Nat.zero_le _, fun s hs => by cases hs⟩⟩
  · rw [hsp] at hz
    simp only [if_true] at hz
    unfold maxLen at hm
    by_cases h0 : len' = 0
    · subst h0
      exact ⟨_, [], hcs, ⟨.inl ⟨_, _, rfl, rfl⟩, Nat.zero_le _, fun s hs => by cases hs⟩⟩
    · obtain ⟨ab, ao, spot⟩ := a
      have hspot : spot = none := by simpa [Addr.add] using World.cell?_spot (hcell 0 (by omega))
      subst hspot
      have hlen : (zs.take len').length = len' := by simp; omega
      have hb : ab < W.heap.size := by
        have hc := hcell 0 (by omega)
        rw [addr_add] at hc
        exact lt_of_cell hc
      refine ⟨_, zs.take len', hcs, ⟨.inr ⟨ab, ao, cap', by rw [hlen], by rw [hlen]; exact hl, hb, fun k hk => ?_⟩, by rw [hlen]; omega, fun s hs => hwz s (List.mem_of_mem_take hs)⟩⟩
      rw [hlen] at hk
      have hc := hcell k (by omega)
      rw [addr_add] at hc
      rw [hc, List.getElem_take, List.getD_eq_getElem?_getD, List.getElem?_eq_getElem (by omega)]
      rfl
set_option maxRecDepth 100000 in
theorem list_open {H : Type} {enc : TypeId × Value → H} {W : World} {base : Nat} {v : Value} {d : DataW H} {p : List MemPlace} (hval : Value.okWide Try.prog W .any base 22 v) (h : DataW.Trod enc Try.prog W 0 (fun _ => true) true 22 v d p) : ∃ ss, ListIn W v ss := by
  obtain ⟨a, len, cap, rfl⟩ := okWide_slice Try.underlying22 hval
  obtain ⟨fuel, hf⟩ := h
  obtain ⟨u, ss, hcs, hl⟩ := cells_open hf (fun _ => rfl)
  simp [Value.cells] at hcs
  subst hcs
  exact ⟨ss, hl⟩
theorem three_cells {α : Type} (l : List α) (h : l.length = 3) : ∃ a b c, l = [a, b, c] := by
  match l, h with
  | [a, b, c], _ => exact ⟨a, b, c, rfl⟩
set_option maxRecDepth 100000 in
theorem three_open {H : Type} {enc : TypeId × Value → H} {W : World} {base : Nat} {v : Value} {d : DataW H} {p : List MemPlace} (hval : Value.okWide Try.prog W .any base 51 v) (h : DataW.Trod enc Try.prog W 0 (fun _ => true) true 51 v d p) :
    ∃ a b c A B C, v = .agg #[a, b, c] ∧ ListIn W a A ∧ ListIn W b B ∧ ListIn W c C := by
  obtain ⟨cs, rfl, hsz⟩ := okWide_struct Try.underlying51 hval
  obtain ⟨fuel, hf⟩ := h
  obtain ⟨xs, n, _, ex, hl, hn, hel⟩ := DataW.trod_struct Try.underlying51 hf
  rw [cellsThree] at hl
  simp only [Value.cells] at hl hel
  obtain ⟨a, b, c, hcs⟩ := three_cells cs.toList hl
  rw [hcs] at hel
  obtain ⟨x0, x1, x2, rfl⟩ := three_cells xs hn
  have h0 : DataW.trod enc Try.prog W 0 (fun _ => true) true n 22 (([a, b, c].drop 0).take (Try.prog.cellsOf 22)) = some x0 := hel 0 _ rfl
  have h1 : DataW.trod enc Try.prog W 0 (fun _ => true) true n 22 (([a, b, c].drop 1).take (Try.prog.cellsOf 22)) = some x1 := hel 1 _ rfl
  have h2 : DataW.trod enc Try.prog W 0 (fun _ => true) true n 22 (([a, b, c].drop 2).take (Try.prog.cellsOf 22)) = some x2 := hel 2 _ rfl
  rw [cellsList] at h0 h1 h2
  obtain ⟨u0, A, e0, l0⟩ := cells_open h0 (fun _ => rfl)
  obtain ⟨u1, B, e1, l1⟩ := cells_open h1 (fun _ => rfl)
  obtain ⟨u2, C, e2, l2⟩ := cells_open h2 (fun _ => rfl)
  simp at e0 e1 e2
  subst e0 e1 e2
  have : cs = #[a, b, c] := by apply Array.ext'; rw [hcs]
  subst this
  exact ⟨a, b, c, A, B, C, rfl, l0, l1, l2⟩

/-- The arguments read behind the call as they did before it. -/
theorem trodAll_kept {H : Type} {enc : TypeId × Value → H} {W W' : World} (hb : Below W.heap.size W W') : ∀ (ts : List TypeId) (vs : List Value) (ds : List (DataW H)) (ps : List MemPlace),
    (∀ t ∈ ts, Try.prog.readableRec t = true ∧ t < Try.prog.types.size) → DataW.TrodAll enc Try.prog W 0 (fun _ => true) true ts vs ds ps → (∀ x ∈ ps, x.block < W.heap.size) →
    DataW.TrodAll enc Try.prog W' 0 (fun b => decide (b < W.heap.size)) true ts vs ds ps
  | [], vs, ds, ps, _, h, _ => by
    obtain ⟨rfl, rfl, rfl⟩ := trodAll_nil h
    exact trodAll_mk0
  | t :: ts, vs, ds, ps, hr, h, hlt => by
    obtain ⟨v, vs', d, ds', p, q, rfl, rfl, rfl, hd, hrest⟩ := trodAll_cons h
    exact trodAll_cons_mk (Below.trod laidOut (hr t (by simp)).1 (hr t (by simp)).2 hd hb (fun x hx => hlt x (List.mem_append_left _ hx)))
      (trodAll_kept hb ts vs' ds' q (fun u hu => hr u (List.mem_cons_of_mem _ hu)) hrest (fun x hx => hlt x (List.mem_append_right _ hx)))

/-- The row's end, for a law. -/
theorem post_law {H : Type} {enc : TypeId × Value → H} {s : ChangeSpec} {f : Func} {W W' : World} {args : Array Value} {ds : List (DataW H)} {p : List MemPlace} (hv : s.vars = [])
    (hW : DataW.Whole enc Try.prog f.params.toList s.vars false W args.toList ds [] p) (hA : DataW.TrodAll enc Try.prog W 0 (fun _ => true) true f.params.toList args.toList ds p)
    (hr : ∀ t ∈ f.params.toList, Try.prog.readableRec t = true ∧ t < Try.prog.types.size) (hft : f.resultTypes.toList = [4]) (hfn : s.fn H ds = { results := [.lit (.bool true)], args := ds }) (hB : Below W.heap.size W W') :
    s.post enc Try.prog f false true false false W args (.bool true) W' := by
  have hfn' : s.fn H (ds ++ []) = { results := [.lit (.bool true)], args := ds } := by rw [List.append_nil]; exact hfn
  have hsz : f.resultTypes.size = 1 := by rw [← Array.length_toList, hft]; rfl
  have hlt : ∀ x ∈ p, x.block < W.heap.size := fun x hx => hW.lt x hx
  refine ⟨ds, [], p, [], p, [], hW, ?_, ?_, ?_, hB.frame _, fun h => by cases h⟩
  · rw [hfn', hft, hsz]
    exact trodAll_mk1 (shut_bool Try.underlying4 _)
  · rw [hfn']
    exact trodAll_kept hB _ _ _ _ hr hA hlt
  · rw [hfn', hv]
    rfl
end Go.Proofs.Ytbgfeonlnhlbfaa
