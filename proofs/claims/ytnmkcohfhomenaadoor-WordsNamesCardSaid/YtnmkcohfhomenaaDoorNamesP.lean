/- Proved: whatever string s and whatever int64 low and high are given, the law WordsNames returns true, does not panic, and leaves what was there as it was. Conditions: those of the given tied card, namely that the package variables that it lists hold what the program's text lays in them. -/
import Derived.Test.YtnmkcohfhomenaaDoorNames
import Derived.Test.YtnmkcohfhomenaaDoorCards
import Derived.Test.YtnmkcohfhomenaaDoorTie
import Derived.WalkKit
import Derived.ProofKit
import Derived.OpenShut
import Derived.Deep.DeepHandedRow
import Derived.Lib.LaidTab
import Derived.LaidMore
import Derived.Lay
import Derived.SevenTiedAt
import Derived.Stop.Joined
import Derived.Stop.LaidErr
import Derived.ChangeMaps5
namespace Go.Proofs.YtnmkcohfhomenaaDoor
open Go.ChangeShapes Go.WideShapes Go.ChangeAt Go.RowKit

theorem own : ownKnob Tryd.prog.godebug = none := by kernel_rfl

theorem len2 {α : Type} : ∀ (l : List α), l.length = 2 → ∃ u v, l = [u, v]
  | [u, v], _ => ⟨u, v, rfl⟩
theorem len5 {α : Type} : ∀ (l : List α), l.length = 5 → ∃ a b c d e, l = [a, b, c, d, e]
  | [a, b, c, d, e], _ => ⟨_, _, _, _, _, rfl⟩
theorem len10 {α : Type} (l : List α) (h : l.length = 10) : ∃ a b c d e f g i j k, l = [a, b, c, d, e, f, g, i, j, k] := by
  obtain ⟨a, b, c, d, e, h1⟩ := len5 (l.take 5) (by simp [h])
  obtain ⟨f, g, i, j, k, h2⟩ := len5 (l.drop 5) (by simp [h])
  exact ⟨a, b, c, d, e, f, g, i, j, k, by rw [← List.take_append_drop 5 l, h1, h2]; rfl⟩
theorem pair_trod {H : Type} {enc : TypeId × Value → H} {W : World} {base : Nat} {sp : Nat → Bool} {held : Bool} {m : Nat} {cs : List Value} {a b : Int} {p : List MemPlace}
    (h : DataW.trod enc Tryd.prog W base sp held m 92 cs = some (.agg [.lit (.int .u8 a), .lit (.int .u8 b)], p)) : cs = [.int .u8 a, .int .u8 b] := by
  obtain ⟨xs, n, _, ex, hl, hn, hel⟩ := DataW.trod_struct Tryd.underlying92 h
  have c92 : Tryd.prog.cellsOf 92 = 2 := by kernel_rfl
  have c5 : Tryd.prog.cellsOf 5 = 1 := by kernel_rfl
  rw [c92] at hl
  obtain ⟨u, v, rfl⟩ := len2 cs hl
  obtain ⟨x0, x1, rfl⟩ := len2 xs hn
  have h0 : DataW.trod enc Tryd.prog W base sp held n 5 (([u, v].drop 0).take (Tryd.prog.cellsOf 5)) = some x0 := hel 0 _ rfl
  have h1 : DataW.trod enc Tryd.prog W base sp held n 5 (([u, v].drop 1).take (Tryd.prog.cellsOf 5)) = some x1 := hel 1 _ rfl
  obtain ⟨z0, e0, f0, _⟩ := DataW.trod_int Tryd.underlying5 h0
  obtain ⟨z1, e1, f1, _⟩ := DataW.trod_int Tryd.underlying5 h1
  rw [c5] at e0 e1
  simp only [List.drop_zero, List.take_succ_cons, List.take_zero, List.drop_succ_cons, List.cons.injEq, and_true] at e0 e1
  subst f0 f1 e0 e1
  simp only [List.map_cons, List.map_nil, Prod.mk.injEq, DataW.agg.injEq, List.cons.injEq, DataW.lit.injEq, Lit.int.injEq, true_and, and_true] at ex
  obtain ⟨⟨e1, e2⟩, _⟩ := ex
  rw [e1, e2]

theorem esc_of_laid {W : World} {rest : List (String × DataW Unit)} (h : laidMet Tryd.prog (("limewash/words.escapes", Rows.laid_limewash_words_escapes) :: rest) W) : W.var? Tryd.prog "limewash/words.escapes" = some escCells := by
  obtain ⟨ps, ⟨g, t, cs, fuel, p, q, hg, ht, hv, hd, _, _⟩, _, _⟩ := h
  obtain rfl := Option.some.inj (gEsc.symm.trans hg)
  obtain rfl := Option.some.inj ((show (Tryd.prog.globals[0]?).map (·.type) = some 93 by kernel_rfl).symm.trans ht)
  rw [hv]
  obtain ⟨xs, m, _, ex, hl, hn, hel⟩ := DataW.trod_array Tryd.underlying93 hd
  have c93 : Tryd.prog.cellsOf 93 = 10 := by kernel_rfl
  have c92 : Tryd.prog.cellsOf 92 = 2 := by kernel_rfl
  rw [c93] at hl
  rw [c92] at hel
  obtain ⟨y0, y1, y2, y3, y4, y5, y6, y7, y8, y9, hcs⟩ : ∃ y0 y1 y2 y3 y4 y5 y6 y7 y8 y9, cs.toList = [y0, y1, y2, y3, y4, y5, y6, y7, y8, y9] := len10 _ hl
  obtain ⟨x0, x1, x2, x3, x4, rfl⟩ := len5 xs hn
  rw [hcs] at hel
  have h0 := hel 0 (by omega)
  have h1 := hel 1 (by omega)
  have h2 := hel 2 (by omega)
  have h3 := hel 3 (by omega)
  have h4 := hel 4 (by omega)
  have ex' := (Prod.mk.inj ex).1
  unfold Rows.laid_limewash_words_escapes at ex'
  simp only [List.map_cons, List.map_nil, DataW.agg.injEq, List.cons.injEq, and_true] at ex'
  obtain ⟨k0, k1, k2, k3, k4⟩ := ex'
  obtain ⟨a0, b0⟩ := x0
  obtain ⟨a1, b1⟩ := x1
  obtain ⟨a2, b2⟩ := x2
  obtain ⟨a3, b3⟩ := x3
  obtain ⟨a4, b4⟩ := x4
  simp only at k0 k1 k2 k3 k4
  subst k0 k1 k2 k3 k4
  have e0 := pair_trod h0
  have e1 := pair_trod h1
  have e2 := pair_trod h2
  have e3 := pair_trod h3
  have e4 := pair_trod h4
  simp at e0 e1 e2 e3 e4
  obtain ⟨rfl, rfl⟩ := e0
  obtain ⟨rfl, rfl⟩ := e1
  obtain ⟨rfl, rfl⟩ := e2
  obtain ⟨rfl, rfl⟩ := e3
  obtain ⟨rfl, rfl⟩ := e4
  have : cs = escCells := by
    apply Array.ext'; rw [hcs]; rfl
  rw [this]

theorem star : "*" ++ "errors.errorString" = "*errors.errorString" := by decide
theorem only_errorString (u : TypeId) (h : Tryd.prog.typeName? 3 u = some "*errors.errorString") : u = 142 :=
  typeName_ptr_named (nm := "errors.errorString") (by rw [star]; kernel_rfl) (by kernel_rfl) (by decide) u (by rw [star]; exact h)

theorem row8 : (((begin Tryd.prog (fun _ _ => 0) default).world.heap[8]?).bind Obj.row?).isSome = true := by kernel_rfl
theorem nine_of_shaped {W : World} (h : W.ShapedOpen Tryd.prog) : 9 ≤ W.heap.size := by
  obtain ⟨⟨zero, t⟩, hz⟩ := Option.isSome_iff_exists.1 row8
  obtain ⟨cs, hcs, _⟩ := h.1 8 zero t (by have : Tryd.prog.globals.size = 9 := by kernel_rfl
                                          omega) hz
  have := (Array.getElem?_eq_some_iff.1 hcs).1
  omega

/-- What the row's list gives. -/
theorem env_of_laid {W : World} (h : laidMetH Tryd.prog Rows.wordsNamesRow.laid W) (hs : W.ShapedOpen Tryd.prog) : EnvD W := by
  rw [MakeChecks.laidMetH_plain _ _ _ (by kernel_rfl)] at h
  have h2 := h.tail.tail
  have h3 := h2.tail
  have h4 := h3.tail
  have h5 := h4.tail
  obtain ⟨a, s, hr, _⟩ := laid_sentinel h3 gRng (ti := 53) (by kernel_rfl) Tryd.underlying53 only_errorString Tryd.underlying142 Tryd.underlying144 rfl rfl Tryd.underlying9 (by kernel_rfl) (by kernel_rfl)
  obtain ⟨a', s', hy, _⟩ := laid_sentinel h4 gSyn (ti := 53) (by kernel_rfl) Tryd.underlying53 only_errorString Tryd.underlying142 Tryd.underlying144 rfl rfl Tryd.underlying9 (by kernel_rfl) (by kernel_rfl)
  exact ⟨⟨esc_of_laid h5, ⟨_, _, hy⟩, ⟨_, _, hr⟩, nine_of_shaped hs⟩, Lib.tabIs_of_head gPow (by kernel_rfl) Tryd.underlying133 Tryd.underlying110 (by kernel_rfl) (by kernel_rfl) h2⟩

set_option maxRecDepth 100000 in
/-- What the walk gives, for every argument and every world that holds the variables. -/
theorem names_contract (H : Type) (enc : TypeId × Value → H) (W : World) (base : Nat) (args : Array Value) (ds gs : List (DataW H)) (before : List MemPlace)
    (hval : ∀ (j : Nat) t v, Tryd.f3.params[j]? = some t → args[j]? = some v → Value.okWide Tryd.prog W .any base t v)
    (hW : DataW.Whole enc Tryd.prog Tryd.f3.params.toList Rows.wordsNamesSpec.vars false W args.toList ds gs before)
    (hL : laidMetH Tryd.prog Rows.wordsNamesRow.laid W) (hS : W.ShapedOpen Tryd.prog) :
    Calls Tryd.prog 3 args W fun e W' => ∃ v, e = .returned v ∧ Rows.wordsNamesSpec.post enc Tryd.prog Tryd.f3 false true false false W args v W' := by
  have hW' := hW
  obtain ⟨p, q, hA0, hV, rfl, hfz, hnd⟩ := hW
  have hA : DataW.TrodAll enc Tryd.prog W 0 (fun _ => true) true Tryd.f3.params.toList args.toList ds p := hA0
  rw [Tryd.params3] at hA hval
  obtain ⟨v0, vs0, d0, ds0, p0, q0, hargs, rfl, rfl, h0, r0⟩ := trodAll_cons hA
  obtain ⟨v1, vs1, d1, ds1, p1, q1, rfl, rfl, rfl, h1, r1⟩ := trodAll_cons r0
  obtain ⟨v2, vs2, d2, ds2, p2, q2, rfl, rfl, rfl, h2, r2⟩ := trodAll_cons r1
  obtain ⟨rfl, rfl, rfl⟩ := trodAll_nil r2
  obtain rfl : args = #[v0, v1, v2] := by cases args; simp_all
  obtain ⟨rfl, rfl⟩ := trodVars_none hV
  obtain ⟨s, rfl, rfl, rfl, hs⟩ := ChangeMaps.open_string Tryd.underlying9 (hval 0 9 v0 rfl rfl) h0
  obtain ⟨low, rfl, rfl, rfl, wl⟩ := open_int Tryd.underlying2 (hval 1 2 v1 rfl rfl) h1
  obtain ⟨high, rfl, rfl, rfl, wh⟩ := open_int Tryd.underlying2 (hval 2 2 v2 rfl rfl) h2
  have hl : -9223372036854775808 ≤ low ∧ low ≤ 9223372036854775807 := by
    simp [Lit.wf, IntKind.min, IntKind.max, IntKind.signed, IntKind.bits] at wl; omega
  have hh : -9223372036854775808 ≤ high ∧ high ≤ 9223372036854775807 := by
    simp [Lit.wf, IntKind.min, IntKind.max, IntKind.signed, IntKind.bits] at wh; omega
  refine (wordsNames_any s low high W (env_of_laid hL hS) hl.1 hl.2 hh.1 hh.2).mono fun e W' ⟨he, hB⟩ => ?_
  subst he
  refine ⟨_, rfl, _, _, _, [], [], [], hW', ?_, ?_, rfl, hB.frame _, fun h => by cases h⟩
  · exact trodAll_mk1 (shut_bool Tryd.underlying4 _)
  · exact trodAll_cons_mk (ChangeMaps.shut_string Tryd.underlying9 hs) (trodAll_cons_mk (shut_int Tryd.underlying2 wl) (trodAll_cons_mk (shut_int Tryd.underlying2 wh) trodAll_mk0))

/-- One start that fits: the variables as the row's list says. -/
noncomputable def startW (os : Os) : World := World.laidAll Tryd.prog os Rows.wordsNamesRow.laid
theorem names_laid (os : Os) (args : Array Value) : laidMetH Tryd.prog Rows.wordsNamesRow.laid ((startW os).forCall (fun _ _ => 0) ⟨#[], args, []⟩).memory := by
  rw [MakeChecks.laidMetH_plain _ _ _ (by kernel_rfl)]
  exact laidMet_laidAll _ (by kernel_rfl) (by kernel_rfl)
theorem names_reads (os : Os) {H : Type} (enc : TypeId × Value → H) : ∃ places, DataW.whole enc Tryd.prog ((startW os).forCall (fun _ _ => 0) ⟨#[], #[.string ⟨#[]⟩, .int .i64 0, .int .i64 0], []⟩).memory Tryd.f3.params.toList Rows.wordsNamesSpec.vars false #[.string ⟨#[]⟩, .int .i64 0, .int .i64 0].toList 8 = some ([.lit (.string []), .lit (.int .i64 0), .lit (.int .i64 0)], [], places) :=
  ⟨[], by kernel_rfl⟩

set_option maxRecDepth 100000 in
theorem names_lifted (os : Os) (started : os.Started) (H : Type) (enc : TypeId × Value → H) (F : Stop.Interp) :
    ReturnsInHanded {} Tryd.checked os 3 .any ((OpenSpec.ofChange Rows.wordsNamesSpec).preRow enc Tryd.prog Tryd.f3 Rows.wordsNamesRow.domain false Rows.wordsNamesRow.laid) (((OpenSpec.ofChange Rows.wordsNamesSpec).at F).post enc Tryd.prog Tryd.f3 false true false false) := by
  obtain ⟨places, hx⟩ := names_reads os enc
  have hok : Input.okWideB Tryd.prog ((startW os).forCall (fun _ _ => 0) ⟨#[], #[.string ⟨#[]⟩, .int .i64 0, .int .i64 0], []⟩) 3 ⟨#[], #[.string ⟨#[]⟩, .int .i64 0, .int .i64 0], []⟩ = true := by kernel_rfl
  refine returnsInHanded_of_row (C := Tryd.checked) (s := OpenSpec.ofChange Rows.wordsNamesSpec) own started (by kernel_rfl) Tryd.func3
    ⟨startW os, fun _ _ => 0, ⟨#[], #[.string ⟨#[]⟩, .int .i64 0, .int .i64 0], []⟩, World.laidAll_os _ _ _, World.shaped_of_ZipB (by kernel_rfl) (by kernel_rfl),
      (Input.okWide_of_okWideB (base := 0) hok).1, (Input.okWide_of_okWideB hok).2,
      OpenSpec.preRow_of_cond 8 hx (by kernel_rfl) (fun k hk => by cases hk) (by kernel_rfl) (names_laid os _), by
        simp only [Assume.holds]
        exact ⟨by simp, by simp, fun _ => Modest.zero, by simp, by simp⟩⟩ ?_
  intro W base args ds gs before hval hW _ _ _ hL hS _
  exact names_contract H enc W base args ds gs before hval hW hL hS

set_option maxRecDepth 100000 in
theorem names_said : Rows.WordsNamesSaid :=
  OpenClaim.holds_of_cond 3 Tryd.f3 rfl rfl rfl rfl rfl rfl rfl ⟨rfl, rfl, rfl, rfl, rfl⟩ rfl rfl rfl rfl rfl (by kernel_rfl) Tryd.func3 (by kernel_rfl)
    (of_decide_eq_true (by kernel_rfl)) (by unfold Func.isWrapper; first | (rw [if_pos (by decide +kernel)]; kernel_rfl) | (rw [if_neg (by decide +kernel)]; exact ⟨rfl, rfl⟩))
    (fun os started H enc _ F => by rw [OpenClaim.pre_eq_preRow]; exact names_lifted os started H enc F)

theorem names_plain (f : FuncId) (fn : Func) (hf : Tryd.pinned.checked.prog.funcNamed "limewash/limewashlaw01.WordsNames" = some f) (hfn : Tryd.pinned.checked.prog.funcs[f]? = some fn) :
    true = Tryd.pinned.checked.prog.looks [] ∧ ∀ (j : Nat) t, fn.params[j]? = some t → Tryd.pinned.checked.prog.wantsStandIn t = false := by
  obtain rfl : f = 3 := Option.some.inj ((show Tryd.prog.funcNamed "limewash/limewashlaw01.WordsNames" = some 3 by kernel_rfl).symm.trans hf) |>.symm
  obtain rfl : fn = Tryd.f3 := (Option.some.inj (Tryd.func3.symm.trans hfn)).symm
  refine ⟨by kernel_rfl, fun j t ht => ?_⟩
  rw [Tryd.params3] at ht
  have hm : t ∈ [9, 2] := by
    have := Array.mem_of_getElem? ht
    simp at this ⊢; omega
  have hall : ([9, 2].all fun u => !Tryd.prog.wantsStandIn u) = true := by kernel_rfl
  have := List.all_eq_true.1 hall t hm
  show Tryd.prog.wantsStandIn t = false
  simpa using this

/-- The card. -/
theorem names_card : Rows.WordsNamesCardSaid :=
  Claim7.holds_tied_plain_at .later [] _ _ _ _ names_said (fun _ h => by cases h) (by kernel_rfl) (fun _ h => by cases h) wordsNames_row_tie rfl ⟨rfl, rfl⟩ (by kernel_rfl) rfl names_plain (by kernel_rfl)
end Go.Proofs.YtnmkcohfhomenaaDoor
