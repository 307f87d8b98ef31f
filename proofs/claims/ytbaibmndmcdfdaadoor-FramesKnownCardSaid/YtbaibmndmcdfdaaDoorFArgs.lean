/- What comes in: frames, sectors with changes; that it reads afterwards as it did; the table of the row's list. -/
import Derived.Test.YtbaibmndmcdfdaaDoorFBase
import Derived.Test.YtbaibmndmcdfdaaDoorFVal
import Derived.Test.YtbaibmndmcdfdaaDoorCards
import Derived.Test.YtbaibmndmcdfdaaDoorTie
import Derived.ProofKit
import Derived.OpenShut
import Derived.ShapedOpen
import Derived.Carry
import Derived.WalkKit
import Derived.Deep.DeepHandedRow
import Derived.Deep.Slices
import Derived.Lib.LaidTab
import Derived.LaidMore
import Derived.Lay
import Derived.SevenTiedAt
import Derived.Stop.Joined
import Derived.Stop.LaidErr
import Derived.ChangeMaps5
import Derived.MakeChecks
namespace Go.Proofs.YtbaibmndmcdfdaaDoor.F
open Go.ChangeShapes Go.WideShapes Go.ChangeAt Go.RowKit
open D (ElemsAt)
set_option maxRecDepth 100000

theorem own : ownKnob Tryd.prog.godebug = none := by kernel_rfl
theorem laidOut : laidOutB Tryd.prog = true := by kernel_rfl
theorem cellsByte : Tryd.prog.cellsOf 5 = 1 := by kernel_rfl
theorem cellsInt : Tryd.prog.cellsOf 3 = 1 := by kernel_rfl
theorem cellsU32 : Tryd.prog.cellsOf 22 = 1 := by kernel_rfl
theorem cellsStr : Tryd.prog.cellsOf 9 = 1 := by kernel_rfl
theorem cellsBool : Tryd.prog.cellsOf 4 = 1 := by kernel_rfl
theorem cellsFr : Tryd.prog.cellsOf 24 = 3 := by kernel_rfl
theorem cellsCh : Tryd.prog.cellsOf 80 = 2 := by kernel_rfl
theorem cellsChs : Tryd.prog.cellsOf 32 = 1 := by kernel_rfl
theorem cellsOdd : Tryd.prog.cellsOf 34 = 6 := by kernel_rfl

theorem len2 {α : Type} : ∀ (l : List α), l.length = 2 → ∃ u v, l = [u, v]
  | [_, _], _ => ⟨_, _, rfl⟩
theorem len3 {α : Type} : ∀ (l : List α), l.length = 3 → ∃ u v x, l = [u, v, x]
  | [_, _, _], _ => ⟨_, _, _, rfl⟩
theorem len4 {α : Type} : ∀ (l : List α), l.length = 4 → ∃ u v x y, l = [u, v, x, y]
  | [_, _, _, _], _ => ⟨_, _, _, _, rfl⟩
theorem len6 {α : Type} : ∀ (l : List α), l.length = 6 → ∃ a b c d e f, l = [a, b, c, d, e, f]
  | [_, _, _, _, _, _], _ => ⟨_, _, _, _, _, _, rfl⟩
theorem u8_of {z : Int} (w : (Lit.int .u8 z).wf = true) : ∃ b : UInt8, z = (b.toNat : Int) := by
  have b0 : 0 ≤ z ∧ z ≤ 255 := by
    simp [Lit.wf, IntKind.min, IntKind.max, IntKind.signed, IntKind.bits] at w; omega
  exact ⟨UInt8.ofNat z.toNat, by simp; omega⟩

section
variable {H : Type} {enc : TypeId × Value → H} {W : World} {sp : Nat → Bool} {held : Bool} {fuel : Nat} {cs : List Value} {x : DataW H × List MemPlace}

theorem fr_trod (h : DataW.trod enc Tryd.prog W 0 sp held fuel 24 cs = some x) : ∃ f : Fr, cs = [.int .i64 f.kind, .int .u32 f.seq, .string f.data] ∧ f.seq < 4294967296 := by
  obtain ⟨xs, n, _, ex, hl, hn, hel⟩ := DataW.trod_struct Tryd.underlying24 h
  rw [cellsFr] at hl
  obtain ⟨a, b, c, rfl⟩ := len3 cs hl
  obtain ⟨x0, x1, x2, rfl⟩ := len3 xs hn
  have h0 : DataW.trod enc Tryd.prog W 0 sp held n 3 (([a, b, c].drop 0).take (Tryd.prog.cellsOf 3)) = some x0 := hel 0 _ rfl
  have h1 : DataW.trod enc Tryd.prog W 0 sp held n 22 (([a, b, c].drop 1).take (Tryd.prog.cellsOf 22)) = some x1 := hel 1 _ rfl
  have h2 : DataW.trod enc Tryd.prog W 0 sp held n 9 (([a, b, c].drop 2).take (Tryd.prog.cellsOf 9)) = some x2 := hel 2 _ rfl
  rw [cellsInt] at h0
  rw [cellsU32] at h1
  rw [cellsStr] at h2
  obtain ⟨z0, e0, _, w0⟩ := DataW.trod_int Tryd.underlying3 h0
  obtain ⟨z1, e1, _, w1⟩ := DataW.trod_int Tryd.underlying22 h1
  obtain ⟨s2, e2, _, _⟩ := DataW.trod_string Tryd.underlying9 h2
  simp at e0 e1 e2
  subst e0 e1 e2
  simp [Lit.wf, IntKind.min, IntKind.max, IntKind.signed, IntKind.bits] at w1
  obtain ⟨q, rfl⟩ := Int.eq_ofNat_of_zero_le (show 0 ≤ z1 by omega)
  exact ⟨⟨z0, q, s2⟩, rfl, by show q < _; omega⟩
def chC (c : UInt8 × UInt8) : List Value := [.int .u8 c.1.toNat, .int .u8 c.2.toNat]
theorem ch_trod (h : DataW.trod enc Tryd.prog W 0 sp held fuel 80 cs = some x) : ∃ c : UInt8 × UInt8, cs = chC c := by
  obtain ⟨xs, n, _, ex, hl, hn, hel⟩ := DataW.trod_struct Tryd.underlying80 h
  rw [cellsCh] at hl
  obtain ⟨a, b, rfl⟩ := len2 cs hl
  obtain ⟨x0, x1, rfl⟩ := len2 xs hn
  have h0 : DataW.trod enc Tryd.prog W 0 sp held n 5 (([a, b].drop 0).take (Tryd.prog.cellsOf 5)) = some x0 := hel 0 _ rfl
  have h1 : DataW.trod enc Tryd.prog W 0 sp held n 5 (([a, b].drop 1).take (Tryd.prog.cellsOf 5)) = some x1 := hel 1 _ rfl
  rw [cellsByte] at h0 h1
  obtain ⟨z0, e0, _, w0⟩ := DataW.trod_int Tryd.underlying5 h0
  obtain ⟨z1, e1, _, w1⟩ := DataW.trod_int Tryd.underlying5 h1
  simp at e0 e1
  subst e0 e1
  obtain ⟨b0, rfl⟩ := u8_of w0
  obtain ⟨b1, rfl⟩ := u8_of w1
  exact ⟨(b0, b1), rfl⟩
end
theorem addr_of (g o i j : Nat) : ((⟨g, o, none⟩ : Addr).add i).add j = ⟨g, o + i + j, none⟩ := by rw [addr_add, addr_add]
/-- A slice of structs whose cells f lays out: what its reading gives. -/
theorem elems_trod {α : Type} {H : Type} {enc : TypeId × Value → H} {W : World} {sz fuel : Nat} {t e : TypeId} {cs : List Value} {x : DataW H × List MemPlace} (ht : Tryd.prog.underlying t = some (.slice e)) (hsz : Tryd.prog.cellsOf e = sz) (f : α → List Value) (hf : ∀ x, (f x).length = sz) (x0 : α)
    (one : ∀ {fuel : Nat} {cs : List Value} {x : DataW H × List MemPlace}, DataW.trod enc Tryd.prog W 0 (fun _ => true) true fuel e cs = some x → ∃ a, cs = f a)
    (hpos : 0 < sz) (hfu : DataW.trod enc Tryd.prog W 0 (fun _ => true) true fuel t cs = some x) :
    ∃ (v : Value) (L : List α), cs = [v] ∧ ElemsAt sz W v (L.map f) ∧ L.length ≤ maxLen := by
  rcases Go.Deep.open_slice ht hfu with ⟨hcs, hx⟩ | ⟨a, len, cap, m, n, D, Pl, hcs, _, hl, hm, hmm, hx, hi⟩
  · exact ⟨_, [], hcs, .inl ⟨_, _, rfl, rfl⟩, Nat.zero_le _⟩
  · simp only [if_true] at hmm
    by_cases h0 : len = 0
    · subst h0
      exact ⟨_, [], hcs, .inl ⟨_, _, rfl, rfl⟩, Nat.zero_le _⟩
    · rw [hsz] at hi
      have hone : ∀ i, i < len → ∃ c : α, ∀ j u, (f c)[j]? = some u → W.cell? ((a.add (i * sz)).add j) = some u := by
        intro i hil
        obtain ⟨cs', hc, htr⟩ := hi i (by omega)
        obtain ⟨c, rfl⟩ := one htr
        obtain ⟨_, _, hat⟩ := World.cells?_some hc
        refine ⟨c, fun j u hj => ?_⟩
        have hjl : j < sz := by
          rcases Nat.lt_or_ge j (f c).length with hh | hh
          · rwa [hf] at hh
          · rw [List.getElem?_eq_none hh] at hj; cases hj
        exact (hat j (by omega)).trans hj
      have hc0 : ∃ u, W.cell? ((a.add (0 * sz)).add 0) = some u := by
        obtain ⟨c, hc⟩ := hone 0 (by omega)
        exact ⟨_, hc 0 _ (List.getElem?_eq_getElem (by rw [hf]; exact hpos))⟩
      obtain ⟨ab, ao, spot⟩ := a
      have hspot : spot = none := by
        obtain ⟨u, hu⟩ := hc0
        simpa [Addr.add] using World.cell?_spot hu
      subst hspot
      have hb : ab < W.heap.size := by
        obtain ⟨u, hu⟩ := hc0
        rw [addr_of] at hu
        unfold World.cell? at hu
        rcases Nat.lt_or_ge ab W.heap.size with hh | hh
        · exact hh
        · simp [Array.getElem?_eq_none hh] at hu
      let g : Nat → α := fun i => if h : i < len then Classical.choose (hone i h) else x0
      have hlen : ((List.range len).map g).length = len := by simp
      refine ⟨_, (List.range len).map g, hcs, .inr ⟨ab, ao, cap, by rw [List.length_map, hlen], hb, fun k e he j u hj => ?_⟩, by rw [hlen]; omega⟩
      have hk : k < len := by
        rcases Nat.lt_or_ge k len with hh | hh
        · exact hh
        · rw [List.getElem?_eq_none (by simp; omega)] at he; cases he
      have hgk : g k = Classical.choose (hone k hk) := dif_pos hk
      simp [hk] at he
      subst he
      rw [hgk] at hj
      have := Classical.choose_spec (hone k hk) j u hj
      rwa [addr_of] at this

theorem fr_open {H : Type} {enc : TypeId × Value → H} {W : World} {base : Nat} {v : Value} {d : DataW H} {p : List MemPlace} (hval : Value.okWide Tryd.prog W .any base 24 v) (h : DataW.Trod enc Tryd.prog W 0 (fun _ => true) true 24 v d p) :
    ∃ f : Fr, v = .agg #[.int .i64 f.kind, .int .u32 f.seq, .string f.data] ∧ f.seq < 4294967296 := by
  obtain ⟨cs, rfl, hcs⟩ := okWide_struct Tryd.underlying24 hval
  obtain ⟨fuel, hf⟩ := h
  obtain ⟨f, e, hq⟩ := fr_trod hf
  have hcs3 : cs = #[.int .i64 f.kind, .int .u32 f.seq, .string f.data] := by
    apply Array.ext'; exact e
  exact ⟨f, by rw [hcs3], hq⟩
/-- A sector with changes, as an argument. -/
structure Od where
  at_ : UInt8
  f : Fr
  ch : Value
  L : List (UInt8 × UInt8)
  fix : Bool
def odA (x : Od) : Array Value := #[.int .u8 x.at_.toNat, .int .i64 x.f.kind, .int .u32 x.f.seq, .string x.f.data, x.ch, .bool x.fix]
def OdIn (W : World) (x : Od) : Prop := x.f.seq < 4294967296 ∧ ElemsAt 2 W x.ch (x.L.map chC) ∧ x.L.length ≤ maxLen
theorem odd_open {H : Type} {enc : TypeId × Value → H} {W : World} {base : Nat} {v : Value} {d : DataW H} {p : List MemPlace} (hval : Value.okWide Tryd.prog W .any base 34 v) (h : DataW.Trod enc Tryd.prog W 0 (fun _ => true) true 34 v d p) :
    ∃ x : Od, v = .agg (odA x) ∧ OdIn W x := by
  obtain ⟨cs, rfl, hcs⟩ := okWide_struct Tryd.underlying34 hval
  obtain ⟨fuel, hf⟩ := h
  obtain ⟨xs, n, _, ex, hl, hn, hel⟩ := DataW.trod_struct Tryd.underlying34 hf
  rw [cellsOdd] at hl
  obtain ⟨a, b, c, d, e, g, hl6⟩ := len6 _ hl
  obtain ⟨x0, x1, x2, x3, rfl⟩ := len4 xs hn
  rw [hl6] at hel
  have h0 : DataW.trod enc Tryd.prog W 0 (fun _ => true) true n 5 (([a, b, c, d, e, g].drop 0).take (Tryd.prog.cellsOf 5)) = some x0 := hel 0 _ rfl
  have h1 : DataW.trod enc Tryd.prog W 0 (fun _ => true) true n 24 (([a, b, c, d, e, g].drop 1).take (Tryd.prog.cellsOf 24)) = some x1 := hel 1 _ rfl
  have h2 : DataW.trod enc Tryd.prog W 0 (fun _ => true) true n 32 (([a, b, c, d, e, g].drop 4).take (Tryd.prog.cellsOf 32)) = some x2 := hel 2 _ rfl
  have h3 : DataW.trod enc Tryd.prog W 0 (fun _ => true) true n 4 (([a, b, c, d, e, g].drop 5).take (Tryd.prog.cellsOf 4)) = some x3 := hel 3 _ rfl
  rw [cellsByte] at h0
  rw [cellsFr] at h1
  rw [cellsChs] at h2
  rw [cellsBool] at h3
  obtain ⟨z0, e0, -, w0⟩ := DataW.trod_int Tryd.underlying5 h0
  obtain ⟨f, e1, hq⟩ := fr_trod h1
  obtain ⟨v, L, e2, hE, hL⟩ := elems_trod (sz := 2) Tryd.underlying32 cellsCh chC (fun _ => rfl) (0, 0) (fun h => ch_trod h) (by decide) h2
  obtain ⟨z3, e3, -⟩ := DataW.trod_bool Tryd.underlying4 h3
  obtain ⟨b0, rfl⟩ := u8_of w0
  simp at e0 e1 e2 e3
  obtain ⟨rfl, rfl, rfl⟩ := e1
  subst e0 e2 e3
  have hcs6 : cs = odA ⟨b0, f, e, L, z3⟩ := by
    apply Array.ext'; exact hl6
  exact ⟨⟨b0, f, e, L, z3⟩, by rw [hcs6], hq, hE, hL⟩

/-- The arguments read behind the call as they did before it. -/
theorem trodAll_kept {H : Type} {enc : TypeId × Value → H} {W W' : World} (hb : Below W.heap.size W W') : ∀ (ts : List TypeId) (vs : List Value) (ds : List (DataW H)) (ps : List MemPlace),
    (∀ t ∈ ts, Tryd.prog.readableRec t = true ∧ t < Tryd.prog.types.size) → DataW.TrodAll enc Tryd.prog W 0 (fun _ => true) true ts vs ds ps → (∀ x ∈ ps, x.block < W.heap.size) →
    DataW.TrodAll enc Tryd.prog W' 0 (fun b => decide (b < W.heap.size)) true ts vs ds ps
  | [], vs, ds, ps, _, h, _ => by
    obtain ⟨rfl, rfl, rfl⟩ := trodAll_nil h
    exact trodAll_mk0
  | t :: ts, vs, ds, ps, hr, h, hlt => by
    obtain ⟨v, vs', d, ds', p, q, rfl, rfl, rfl, hd, hrest⟩ := trodAll_cons h
    exact trodAll_cons_mk (Below.trod laidOut (hr t (by simp)).1 (hr t (by simp)).2 hd hb (fun x hx => hlt x (List.mem_append_left _ hx)))
      (trodAll_kept hb ts vs' ds' q (fun u hu => hr u (List.mem_cons_of_mem _ hu)) hrest (fun x hx => hlt x (List.mem_append_right _ hx)))
/-- The row's end, for a law. -/
theorem post_law {H : Type} {enc : TypeId × Value → H} {s : ChangeSpec} {f : Func} {W W' : World} {args : Array Value} {ds : List (DataW H)} {p : List MemPlace} (hv : s.vars = [])
    (hW : DataW.Whole enc Tryd.prog f.params.toList s.vars false W args.toList ds [] p) (hA : DataW.TrodAll enc Tryd.prog W 0 (fun _ => true) true f.params.toList args.toList ds p)
    (hr : ∀ t ∈ f.params.toList, Tryd.prog.readableRec t = true ∧ t < Tryd.prog.types.size) (hft : f.resultTypes.toList = [4]) (hfn : s.fn H ds = { results := [.lit (.bool true)], args := ds }) (hB : Below W.heap.size W W') :
    s.post enc Tryd.prog f false true false false W args (.bool true) W' := by
  have hfn' : s.fn H (ds ++ []) = { results := [.lit (.bool true)], args := ds } := by rw [List.append_nil]; exact hfn
  have hsz : f.resultTypes.size = 1 := by rw [← Array.length_toList, hft]; rfl
  have hlt : ∀ x ∈ p, x.block < W.heap.size := fun x hx => hW.lt x hx
  refine ⟨ds, [], p, [], p, [], hW, ?_, ?_, ?_, hB.frame _, fun h => by cases h⟩
  · rw [hfn', hft, hsz]
    exact trodAll_mk1 (shut_bool Tryd.underlying4 _)
  · rw [hfn']
    exact trodAll_kept hB _ _ _ _ hr hA hlt
  · rw [hfn', hv]
    rfl
/-! ### the row's list -/
theorem env_of_laid {W : World} (h : laidMetH Tryd.prog [("limewash/sums.halfSteps", Rows.laid_limewash_sums_halfSteps)] W) : Env W := by
  rw [MakeChecks.laidMetH_plain _ _ _ (by kernel_rfl)] at h
  have ht : Lib.TabIs Tryd.prog W "limewash/sums.halfSteps" .u32 tabZ := Lib.tabIs_of_head gTab (by kernel_rfl) Tryd.underlying114 Tryd.underlying109 (by kernel_rfl) (by kernel_rfl) h
  refine ⟨ht, ?_⟩
  unfold Lib.TabIs World.var? at ht
  rw [gTab] at ht
  rcases Nat.lt_or_ge 0 W.heap.size with h0 | h0
  · exact h0
  · simp [Array.getElem?_eq_none h0] at ht
end Go.Proofs.YtbaibmndmcdfdaaDoor.F
