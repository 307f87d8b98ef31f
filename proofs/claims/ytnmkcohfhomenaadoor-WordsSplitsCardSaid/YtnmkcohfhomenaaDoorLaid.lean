/- Proved: where the package variables that a row of this stage lists hold what the program's text lays in them, the walks' conditions hold. -/
import Derived.Test.YtnmkcohfhomenaaDoorShown
import Derived.Test.YtnmkcohfhomenaaDoorCards
import Derived.Test.YtnmkcohfhomenaaDoorTie
import Derived.WalkKit
import Derived.ProofKit
import Derived.OpenShut
import Derived.Deep.DeepHandedRow
import Derived.Lib.LaidTab
import Derived.LaidMore
import Derived.Lay
import Derived.SevenTiedAt
import Derived.Stop.Joined
import Derived.Stop.LaidErr
import Derived.ChangeMaps5
namespace Go.Proofs.YtnmkcohfhomenaaDoor
open Go.ChangeShapes Go.WideShapes Go.ChangeAt Go.RowKit

theorem own : ownKnob Tryd.prog.godebug = none := by kernel_rfl

theorem len2 {α : Type} : ∀ (l : List α), l.length = 2 → ∃ u v, l = [u, v]
  | [_, _], _ => ⟨_, _, rfl⟩
theorem len5 {α : Type} : ∀ (l : List α), l.length = 5 → ∃ a b c d e, l = [a, b, c, d, e]
  | [_, _, _, _, _], _ => ⟨_, _, _, _, _, rfl⟩
theorem len10 {α : Type} (l : List α) (h : l.length = 10) : ∃ a b c d e f g i j k, l = [a, b, c, d, e, f, g, i, j, k] := by
  obtain ⟨a, b, c, d, e, h1⟩ := len5 (l.take 5) (by simp [h])
  obtain ⟨f, g, i, j, k, h2⟩ := len5 (l.drop 5) (by simp [h])
  exact ⟨a, b, c, d, e, f, g, i, j, k, by rw [← List.take_append_drop 5 l, h1, h2]; rfl⟩
theorem pair_trod {H : Type} {enc : TypeId × Value → H} {W : World} {base : Nat} {sp : Nat → Bool} {held : Bool} {m : Nat} {cs : List Value} {a b : Int} {p : List MemPlace}
    (h : DataW.trod enc Tryd.prog W base sp held m 92 cs = some (.agg [.lit (.int .u8 a), .lit (.int .u8 b)], p)) : cs = [.int .u8 a, .int .u8 b] := by
  obtain ⟨xs, n, _, ex, hl, hn, hel⟩ := DataW.trod_struct Tryd.underlying92 h
  have c92 : Tryd.prog.cellsOf 92 = 2 := by kernel_rfl
  have c5 : Tryd.prog.cellsOf 5 = 1 := by kernel_rfl
  rw [c92] at hl
  obtain ⟨u, v, rfl⟩ := len2 cs hl
  obtain ⟨x0, x1, rfl⟩ := len2 xs hn
  have h0 : DataW.trod enc Tryd.prog W base sp held n 5 (([u, v].drop 0).take (Tryd.prog.cellsOf 5)) = some x0 := hel 0 _ rfl
  have h1 : DataW.trod enc Tryd.prog W base sp held n 5 (([u, v].drop 1).take (Tryd.prog.cellsOf 5)) = some x1 := hel 1 _ rfl
  obtain ⟨z0, e0, f0, _⟩ := DataW.trod_int Tryd.underlying5 h0
  obtain ⟨z1, e1, f1, _⟩ := DataW.trod_int Tryd.underlying5 h1
  rw [c5] at e0 e1
  simp only [List.drop_zero, List.take_succ_cons, List.take_zero, List.drop_succ_cons, List.cons.injEq, and_true] at e0 e1
  subst f0 f1 e0 e1
  simp only [List.map_cons, List.map_nil, Prod.mk.injEq, DataW.agg.injEq, List.cons.injEq, DataW.lit.injEq, Lit.int.injEq, true_and, and_true] at ex
  obtain ⟨⟨e1, e2⟩, _⟩ := ex
  rw [e1, e2]

theorem esc_of_laid {W : World} {rest : List (String × DataW Unit)} (h : laidMet Tryd.prog (("limewash/words.escapes", Rows.laid_limewash_words_escapes) :: rest) W) : W.var? Tryd.prog "limewash/words.escapes" = some escCells := by
  obtain ⟨ps, ⟨g, t, cs, fuel, p, q, hg, ht, hv, hd, _, _⟩, _, _⟩ := h
  obtain rfl := Option.some.inj (gEsc.symm.trans hg)
  obtain rfl := Option.some.inj ((show (Tryd.prog.globals[0]?).map (·.type) = some 93 by kernel_rfl).symm.trans ht)
  rw [hv]
  obtain ⟨xs, m, _, ex, hl, hn, hel⟩ := DataW.trod_array Tryd.underlying93 hd
  have c93 : Tryd.prog.cellsOf 93 = 10 := by kernel_rfl
  have c92 : Tryd.prog.cellsOf 92 = 2 := by kernel_rfl
  rw [c93] at hl
  rw [c92] at hel
  obtain ⟨y0, y1, y2, y3, y4, y5, y6, y7, y8, y9, hcs⟩ : ∃ y0 y1 y2 y3 y4 y5 y6 y7 y8 y9, cs.toList = [y0, y1, y2, y3, y4, y5, y6, y7, y8, y9] := len10 _ hl
  obtain ⟨x0, x1, x2, x3, x4, rfl⟩ := len5 xs hn
  rw [hcs] at hel
  have h0 := hel 0 (by omega)
  have h1 := hel 1 (by omega)
  have h2 := hel 2 (by omega)
  have h3 := hel 3 (by omega)
  have h4 := hel 4 (by omega)
  have ex' := (Prod.mk.inj ex).1
  unfold Rows.laid_limewash_words_escapes at ex'
  simp only [List.map_cons, List.map_nil, DataW.agg.injEq, List.cons.injEq, and_true] at ex'
  obtain ⟨k0, k1, k2, k3, k4⟩ := ex'
  obtain ⟨a0, b0⟩ := x0
  obtain ⟨a1, b1⟩ := x1
  obtain ⟨a2, b2⟩ := x2
  obtain ⟨a3, b3⟩ := x3
  obtain ⟨a4, b4⟩ := x4
  simp only at k0 k1 k2 k3 k4
  subst k0 k1 k2 k3 k4
  have e0 := pair_trod h0
  have e1 := pair_trod h1
  have e2 := pair_trod h2
  have e3 := pair_trod h3
  have e4 := pair_trod h4
  simp at e0 e1 e2 e3 e4
  obtain ⟨rfl, rfl⟩ := e0
  obtain ⟨rfl, rfl⟩ := e1
  obtain ⟨rfl, rfl⟩ := e2
  obtain ⟨rfl, rfl⟩ := e3
  obtain ⟨rfl, rfl⟩ := e4
  have : cs = escCells := by
    apply Array.ext'; rw [hcs]; rfl
  rw [this]

theorem star : "*" ++ "errors.errorString" = "*errors.errorString" := by decide
theorem only_errorString (u : TypeId) (h : Tryd.prog.typeName? 3 u = some "*errors.errorString") : u = 142 :=
  typeName_ptr_named (nm := "errors.errorString") (by rw [star]; kernel_rfl) (by kernel_rfl) (by decide) u (by rw [star]; exact h)

theorem row8 : (((begin Tryd.prog (fun _ _ => 0) default).world.heap[8]?).bind Obj.row?).isSome = true := by kernel_rfl
theorem nine_of_shaped {W : World} (h : W.ShapedOpen Tryd.prog) : 9 ≤ W.heap.size := by
  obtain ⟨⟨zero, t⟩, hz⟩ := Option.isSome_iff_exists.1 row8
  obtain ⟨cs, hcs, _⟩ := h.1 8 zero t (by have : Tryd.prog.globals.size = 9 := by kernel_rfl
                                          omega) hz
  have := (Array.getElem?_eq_some_iff.1 hcs).1
  omega

/-- What the row's list gives. -/
theorem env_of_laid {W : World} (h : laidMetH Tryd.prog Rows.wordsNamesRow.laid W) (hs : W.ShapedOpen Tryd.prog) : EnvD W := by
  rw [MakeChecks.laidMetH_plain _ _ _ (by kernel_rfl)] at h
  have h2 := h.tail.tail
  have h3 := h2.tail
  have h4 := h3.tail
  have h5 := h4.tail
  obtain ⟨a, s, hr, _⟩ := laid_sentinel h3 gRng (ti := 53) (by kernel_rfl) Tryd.underlying53 only_errorString Tryd.underlying142 Tryd.underlying144 rfl rfl Tryd.underlying9 (by kernel_rfl) (by kernel_rfl)
  obtain ⟨a', s', hy, _⟩ := laid_sentinel h4 gSyn (ti := 53) (by kernel_rfl) Tryd.underlying53 only_errorString Tryd.underlying142 Tryd.underlying144 rfl rfl Tryd.underlying9 (by kernel_rfl) (by kernel_rfl)
  exact ⟨⟨esc_of_laid h5, ⟨_, _, hy⟩, ⟨_, _, hr⟩, nine_of_shaped hs⟩, Lib.tabIs_of_head gPow (by kernel_rfl) Tryd.underlying133 Tryd.underlying110 (by kernel_rfl) (by kernel_rfl) h2⟩
end Go.Proofs.YtnmkcohfhomenaaDoor
