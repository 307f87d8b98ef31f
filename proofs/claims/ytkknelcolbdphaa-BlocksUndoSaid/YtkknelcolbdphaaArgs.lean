/- What comes in: layouts, states, lists of numbers and bytes; that it reads afterwards as it did. -/
import Derived.Test.YtkknelcolbdphaaBase
import Derived.Test.YtkknelcolbdphaaEnc
import Derived.Test.YtkknelcolbdphaaRows
import Derived.ProofKit
import Derived.OpenShut
import Derived.ShapedOpen
import Derived.Carry
import Derived.Deep.Slices
namespace Go.Proofs.Ytkknelcolbdphaa
open Go.ChangeShapes Go.WideShapes Go.ChangeAt Go.RowKit

theorem own : ownKnob Try.prog.godebug = none := by kernel_rfl
theorem laidOut : laidOutB Try.prog = true := by kernel_rfl
theorem cellsByte : Try.prog.cellsOf 5 = 1 := by kernel_rfl
theorem cellsInt : Try.prog.cellsOf 3 = 1 := by kernel_rfl
theorem cellsBool : Try.prog.cellsOf 4 = 1 := by kernel_rfl
theorem cellsLay : Try.prog.cellsOf 23 = 3 := by kernel_rfl
theorem cellsSt : Try.prog.cellsOf 33 = 4 := by kernel_rfl
theorem cellsBools : Try.prog.cellsOf 31 = 1 := by kernel_rfl
theorem addr_of (g o i j : Nat) : ((⟨g, o, none⟩ : Addr).add i).add j = ⟨g, o + i + j, none⟩ := by rw [addr_add0, addr_add0]
theorem len1 {α : Type} : ∀ (l : List α), l.length = 1 → ∃ u, l = [u]
  | [_], _ => ⟨_, rfl⟩
theorem len2 {α : Type} : ∀ (l : List α), l.length = 2 → ∃ u v, l = [u, v]
  | [_, _], _ => ⟨_, _, rfl⟩
theorem len3 {α : Type} : ∀ (l : List α), l.length = 3 → ∃ u v x, l = [u, v, x]
  | [_, _, _], _ => ⟨_, _, _, rfl⟩
theorem len4 {α : Type} : ∀ (l : List α), l.length = 4 → ∃ u v x y, l = [u, v, x, y]
  | [_, _, _, _], _ => ⟨_, _, _, _, rfl⟩
/-- A slice of elements of one cell. -/
theorem row_trod {α : Type} {H : Type} {enc : TypeId × Value → H} {W : World} {fuel : Nat} {t e : TypeId} {cs : List Value} {x : DataW H × List MemPlace} (ht : Try.prog.underlying t = some (.slice e)) (hsz : Try.prog.cellsOf e = 1) (f : α → Value) (x0 : α)
    (one : ∀ {fuel : Nat} {cs : List Value} {x : DataW H × List MemPlace}, DataW.trod enc Try.prog W 0 (fun _ => true) true fuel e cs = some x → ∃ a, cs = [f a])
    (hfu : DataW.trod enc Try.prog W 0 (fun _ => true) true fuel t cs = some x) :
    ∃ (v : Value) (L : List α), cs = [v] ∧ RowAt f W v L ∧ L.length ≤ maxLen := by
  rcases Go.Deep.open_slice ht hfu with ⟨hcs, hx⟩ | ⟨a, len, cap, m, n, D, Pl, hcs, _, hl, hm, hmm, hx, hi⟩
  · exact ⟨_, [], hcs, .inl ⟨_, _, rfl, rfl⟩, Nat.zero_le _⟩
  · simp only [if_true] at hmm
    by_cases h0 : len = 0
    · subst h0
      exact ⟨_, [], hcs, .inl ⟨_, _, rfl, rfl⟩, Nat.zero_le _⟩
    · rw [hsz] at hi
      have hone : ∀ i, i < len → ∃ c : α, W.cell? ((a.add (i * 1)).add 0) = some (f c) := by
        intro i hil
        obtain ⟨cs', hc, htr⟩ := hi i (by omega)
        obtain ⟨c, rfl⟩ := one htr
        obtain ⟨_, _, hat⟩ := World.cells?_some hc
        exact ⟨c, hat 0 (by omega)⟩
      have hc0 : ∃ u, W.cell? ((a.add (0 * 1)).add 0) = some u := by
        obtain ⟨c, hc⟩ := hone 0 (by omega)
        exact ⟨_, hc⟩
      obtain ⟨ab, ao, spot⟩ := a
      have hspot : spot = none := by
        obtain ⟨u, hu⟩ := hc0
        simpa [Addr.add] using World.cell?_spot hu
      subst hspot
      have hb : ab < W.heap.size := by
        obtain ⟨u, hu⟩ := hc0
        rw [addr_of] at hu
        unfold World.cell? at hu
        rcases Nat.lt_or_ge ab W.heap.size with hh | hh
        · exact hh
        · simp [Array.getElem?_eq_none hh] at hu
      let g : Nat → α := fun i => if h : i < len then Classical.choose (hone i h) else x0
      have hlen : ((List.range len).map g).length = len := by simp
      refine ⟨_, (List.range len).map g, hcs, .inr ⟨ab, ao, cap, by rw [hlen], hb, fun k hk => ?_⟩, by rw [hlen]; omega⟩
      rw [hlen] at hk
      have hgk : g k = Classical.choose (hone k hk) := dif_pos hk
      have hsp := Classical.choose_spec (hone k hk)
      rw [← hgk] at hsp
      rw [addr_of, Nat.mul_one, Nat.add_zero] at hsp
      rw [hsp]
      simp only [List.getElem_map, List.getElem_range]
section
variable {H : Type} {enc : TypeId × Value → H} {W : World} {fuel : Nat} {cs : List Value} {x : DataW H × List MemPlace}
theorem bool_one (h : DataW.trod enc Try.prog W 0 (fun _ => true) true fuel 4 cs = some x) : ∃ b : Bool, cs = [Value.bool b] := by
  obtain ⟨b, e, _⟩ := DataW.trod_bool Try.underlying4 h
  exact ⟨b, e⟩
theorem int_one (h : DataW.trod enc Try.prog W 0 (fun _ => true) true fuel 3 cs = some x) : ∃ b : Int, cs = [intV b] := by
  obtain ⟨b, e, _⟩ := DataW.trod_int Try.underlying3 h
  exact ⟨b, e⟩
theorem byte_one (h : DataW.trod enc Try.prog W 0 (fun _ => true) true fuel 5 cs = some x) : ∃ b : UInt8, cs = [byV b] := by
  obtain ⟨z, e, _, w⟩ := DataW.trod_int Try.underlying5 h
  have b0 : 0 ≤ z ∧ z ≤ 255 := by
    simp [Lit.wf, IntKind.min, IntKind.max, IntKind.signed, IntKind.bits] at w; omega
  refine ⟨UInt8.ofNat z.toNat, ?_⟩
  rw [e]
  unfold byV
  rw [ofNat_toNat _ (by omega)]
  congr 2
  omega
theorem lay_trod (h : DataW.trod enc Try.prog W 0 (fun _ => true) true fuel 23 cs = some x) : ∃ l : Lay, cs = [.int .i64 l.s, .int .i64 l.j, .int .i64 l.n] := by
  obtain ⟨xs, n, _, ex, hl, hn, hel⟩ := DataW.trod_struct Try.underlying23 h
  rw [cellsLay] at hl
  obtain ⟨a, b, c, rfl⟩ := len3 cs hl
  obtain ⟨x0, x1, x2, rfl⟩ := len3 xs hn
  have h0 : DataW.trod enc Try.prog W 0 (fun _ => true) true n 3 (([a, b, c].drop 0).take (Try.prog.cellsOf 3)) = some x0 := hel 0 _ rfl
  have h1 : DataW.trod enc Try.prog W 0 (fun _ => true) true n 3 (([a, b, c].drop 1).take (Try.prog.cellsOf 3)) = some x1 := hel 1 _ rfl
  have h2 : DataW.trod enc Try.prog W 0 (fun _ => true) true n 3 (([a, b, c].drop 2).take (Try.prog.cellsOf 3)) = some x2 := hel 2 _ rfl
  rw [cellsInt] at h0 h1 h2
  obtain ⟨z0, e0⟩ := int_one h0
  obtain ⟨z1, e1⟩ := int_one h1
  obtain ⟨z2, e2⟩ := int_one h2
  simp [intV] at e0 e1 e2
  subst e0 e1 e2
  exact ⟨⟨z0, z1, z2⟩, rfl⟩
end
theorem lay_open {H : Type} {enc : TypeId × Value → H} {W : World} {base : Nat} {v : Value} {d : DataW H} {p : List MemPlace} (hval : Value.okWide Try.prog W .any base 23 v) (h : DataW.Trod enc Try.prog W 0 (fun _ => true) true 23 v d p) :
    ∃ l : Lay, v = .agg (layA l) := by
  obtain ⟨cs, rfl, hcs⟩ := okWide_struct Try.underlying23 hval
  obtain ⟨fuel, hf⟩ := h
  obtain ⟨l, e⟩ := lay_trod hf
  have h3 : cs = layA l := by
    apply Array.ext'; exact e
  exact ⟨l, by rw [h3]⟩
theorem st_open {H : Type} {enc : TypeId × Value → H} {W : World} {base : Nat} {v : Value} {d : DataW H} {p : List MemPlace} (hval : Value.okWide Try.prog W .any base 33 v) (h : DataW.Trod enc Try.prog W 0 (fun _ => true) true 33 v d p) :
    ∃ (l : Lay) (vu : Value) (U : List Bool), v = .agg (stA l vu) ∧ BoolsAt W vu U ∧ U.length ≤ maxLen := by
  obtain ⟨cs, rfl, hcs⟩ := okWide_struct Try.underlying33 hval
  obtain ⟨fuel, hf⟩ := h
  obtain ⟨xs, n, _, ex, hl, hn, hel⟩ := DataW.trod_struct Try.underlying33 hf
  rw [cellsSt] at hl
  obtain ⟨a, b, c, u, hl4⟩ := len4 _ hl
  obtain ⟨x0, x1, rfl⟩ := len2 xs hn
  rw [hl4] at hel
  have h0 : DataW.trod enc Try.prog W 0 (fun _ => true) true n 23 (([a, b, c, u].drop 0).take (Try.prog.cellsOf 23)) = some x0 := hel 0 _ rfl
  have h1 : DataW.trod enc Try.prog W 0 (fun _ => true) true n 31 (([a, b, c, u].drop 3).take (Try.prog.cellsOf 31)) = some x1 := hel 1 _ rfl
  rw [cellsLay] at h0
  rw [cellsBools] at h1
  obtain ⟨l, e0⟩ := lay_trod h0
  obtain ⟨vu, U, e1, hU, hL⟩ := row_trod Try.underlying31 cellsBool Value.bool false (fun h => bool_one h) h1
  simp at e0 e1
  obtain ⟨rfl, rfl, rfl⟩ := e0
  subst e1
  have h4 : cs = stA l u := by
    apply Array.ext'; exact hl4
  exact ⟨l, u, U, by rw [h4], hU, hL⟩
theorem ints_open {H : Type} {enc : TypeId × Value → H} {W : World} {base : Nat} {v : Value} {d : DataW H} {p : List MemPlace} (hval : Value.okWide Try.prog W .any base 40 v) (h : DataW.Trod enc Try.prog W 0 (fun _ => true) true 40 v d p) :
    ∃ L : List Int, IntsAt W v L ∧ L.length ≤ maxLen := by
  obtain ⟨a1, len, cap, rfl⟩ := okWide_slice Try.underlying40 hval
  obtain ⟨fuel, hf⟩ := h
  obtain ⟨v, L, e, hL, hm⟩ := row_trod Try.underlying40 cellsInt intV 0 (fun h => int_one h) hf
  simp [Value.cells] at e
  subst e
  exact ⟨L, hL, hm⟩
theorem bytes_open {H : Type} {enc : TypeId × Value → H} {W : World} {base : Nat} {v : Value} {d : DataW H} {p : List MemPlace} (hval : Value.okWide Try.prog W .any base 48 v) (h : DataW.Trod enc Try.prog W 0 (fun _ => true) true 48 v d p) :
    ∃ L : List UInt8, BytesAt W v L ∧ L.length ≤ maxLen := by
  obtain ⟨a1, len, cap, rfl⟩ := okWide_slice Try.underlying48 hval
  obtain ⟨fuel, hf⟩ := h
  obtain ⟨v, L, e, hL, hm⟩ := row_trod Try.underlying48 cellsByte byV 0 (fun h => byte_one h) hf
  simp [Value.cells] at e
  subst e
  exact ⟨L, hL, hm⟩

/-- The arguments read behind the call as they did before it. -/
theorem trodAll_kept {H : Type} {enc : TypeId × Value → H} {W W' : World} (hb : Below W.heap.size W W') : ∀ (ts : List TypeId) (vs : List Value) (ds : List (DataW H)) (ps : List MemPlace),
    (∀ t ∈ ts, Try.prog.readableRec t = true ∧ t < Try.prog.types.size) → DataW.TrodAll enc Try.prog W 0 (fun _ => true) true ts vs ds ps → (∀ x ∈ ps, x.block < W.heap.size) →
    DataW.TrodAll enc Try.prog W' 0 (fun b => decide (b < W.heap.size)) true ts vs ds ps
  | [], vs, ds, ps, _, h, _ => by
    obtain ⟨rfl, rfl, rfl⟩ := trodAll_nil h
    exact trodAll_mk0
  | t :: ts, vs, ds, ps, hr, h, hlt => by
    obtain ⟨v, vs', d, ds', p, q, rfl, rfl, rfl, hd, hrest⟩ := trodAll_cons h
    exact trodAll_cons_mk (Below.trod laidOut (hr t (by simp)).1 (hr t (by simp)).2 hd hb (fun x hx => hlt x (List.mem_append_left _ hx)))
      (trodAll_kept hb ts vs' ds' q (fun u hu => hr u (List.mem_cons_of_mem _ hu)) hrest (fun x hx => hlt x (List.mem_append_right _ hx)))

/-- The row's end, for a law. -/
theorem post_law {H : Type} {enc : TypeId × Value → H} {s : ChangeSpec} {f : Func} {W W' : World} {args : Array Value} {ds : List (DataW H)} {p : List MemPlace} (hv : s.vars = [])
    (hW : DataW.Whole enc Try.prog f.params.toList s.vars false W args.toList ds [] p) (hA : DataW.TrodAll enc Try.prog W 0 (fun _ => true) true f.params.toList args.toList ds p)
    (hr : ∀ t ∈ f.params.toList, Try.prog.readableRec t = true ∧ t < Try.prog.types.size) (hft : f.resultTypes.toList = [4]) (hfn : s.fn H ds = { results := [.lit (.bool true)], args := ds }) (hB : Below W.heap.size W W') :
    s.post enc Try.prog f false true false false W args (.bool true) W' := by
  have hfn' : s.fn H (ds ++ []) = { results := [.lit (.bool true)], args := ds } := by rw [List.append_nil]; exact hfn
  have hsz : f.resultTypes.size = 1 := by rw [← Array.length_toList, hft]; rfl
  have hlt : ∀ x ∈ p, x.block < W.heap.size := fun x hx => hW.lt x hx
  refine ⟨ds, [], p, [], p, [], hW, ?_, ?_, ?_, hB.frame _, fun h => by cases h⟩
  · rw [hfn', hft, hsz]
    exact trodAll_mk1 (shut_bool Try.underlying4 _)
  · rw [hfn']
    exact trodAll_kept hB _ _ _ _ hr hA hlt
  · rw [hfn', hv]
    rfl
end Go.Proofs.Ytkknelcolbdphaa
