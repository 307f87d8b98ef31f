/- What comes in: bytes, writes of the law; that it reads afterwards as it did. -/
import Derived.Test.YtpboknepfjeljaaPuts
import Derived.Test.YtpboknepfjeljaaRows
import Derived.ProofKit
import Derived.OpenShut
import Derived.ShapedOpen
import Derived.Carry
import Derived.Deep.Slices
namespace Go.Proofs.Ytpboknepfjeljaa
open Go.ChangeShapes Go.WideShapes Go.ChangeAt Go.RowKit

theorem own : ownKnob Try.prog.godebug = none := by kernel_rfl
theorem laidOut : laidOutB Try.prog = true := by kernel_rfl
theorem cellsByte : Try.prog.cellsOf 5 = 1 := by kernel_rfl

theorem addr_of (g o i j : Nat) : ((⟨g, o, none⟩ : Addr).add i).add j = ⟨g, o + i + j, none⟩ := by rw [addr_add0, addr_add0]
theorem ofNat_toNat8 (n : Nat) (h : n < 256) : (UInt8.ofNat n).toNat = n := by simp; omega
/-- The slice v reads as bytes. -/
def BytesAt (w : World) (v : Value) (l : List UInt8) : Prop :=
  (∃ a c, v = .slice a 0 c ∧ l = []) ∨
  ∃ b o c, v = .slice (some ⟨b, o, none⟩) l.length c ∧ b < w.heap.size ∧ ∀ k (h : k < l.length), w.cell? ⟨b, o + k, none⟩ = some (.int .u8 (l[k].toNat : Int))
theorem bytes_open {H : Type} {enc : TypeId × Value → H} {W : World} {base : Nat} {v : Value} {d : DataW H} {p : List MemPlace} (hval : Value.okWide Try.prog W .any base 59 v) (h : DataW.Trod enc Try.prog W 0 (fun _ => true) true 59 v d p) :
    ∃ l : List UInt8, BytesAt W v l ∧ l.length ≤ maxLen := by
  obtain ⟨a1, len, cap, rfl⟩ := okWide_slice Try.underlying59 hval
  obtain ⟨fuel, hf⟩ := h
  rcases open_ints Try.underlying59 Try.underlying5 cellsByte hf with ⟨hcs, hx⟩ | ⟨a, len', cap', zs, hcs, _, hl, hm, hz, hx, hcell, hwz⟩
  · simp [Value.cells] at hcs
    obtain ⟨rfl, rfl, rfl⟩ := hcs
    exact ⟨[], .inl ⟨_, _, rfl, rfl⟩, Nat.zero_le _⟩
  · simp [Value.cells] at hcs
    obtain ⟨rfl, rfl, rfl⟩ := hcs
    simp only [if_true] at hz
    by_cases h0 : len = 0
    · subst h0
      exact ⟨[], .inl ⟨_, _, rfl, rfl⟩, Nat.zero_le _⟩
    · obtain ⟨ab, ao, spot⟩ := a
      have hspot : spot = none := by simpa [Addr.add] using World.cell?_spot (hcell 0 (by omega))
      subst hspot
      have hlen : ((zs.take len).map fun n => UInt8.ofNat n.toNat).length = len := by simp; omega
      have hb : ab < W.heap.size := by
        have hc := hcell 0 (by omega)
        rw [addr_add0] at hc
        unfold World.cell? at hc
        rcases Nat.lt_or_ge ab W.heap.size with hh | hh
        · exact hh
        · simp [Array.getElem?_eq_none hh] at hc
      refine ⟨(zs.take len).map fun n => UInt8.ofNat n.toNat, .inr ⟨ab, ao, cap, by rw [hlen], hb, fun k hk => ?_⟩, by rw [hlen]; omega⟩
      rw [hlen] at hk
      have hc := hcell k (by omega)
      rw [addr_add0] at hc
      rw [hc]
      have hw : (Lit.int .u8 (zs.getD k 0)).wf = true := hwz _ (by rw [List.getD_eq_getElem?_getD, List.getElem?_eq_getElem (by omega)]; exact List.getElem_mem _)
      have hw2 : 0 ≤ zs.getD k 0 ∧ zs.getD k 0 ≤ 255 := by
        simp [Lit.wf, IntKind.min, IntKind.max, IntKind.signed, IntKind.bits] at hw ⊢; omega
      have hg : zs.getD k 0 = zs[k]'(by omega) := by rw [List.getD_eq_getElem?_getD, List.getElem?_eq_getElem (by omega)]; rfl
      rw [hg] at hw2 ⊢
      simp only [List.getElem_map, List.getElem_take]
      congr 2
      rw [ofNat_toNat8 _ (by omega)]
      omega

/-- A slice of structs whose cells f lays out. -/
theorem elems_open {α : Type} {H : Type} {enc : TypeId × Value → H} {W : World} {base sz : Nat} {t e : TypeId} (ht : Try.prog.underlying t = some (.slice e)) (hsz : Try.prog.cellsOf e = sz) (f : α → List Value) (hf : ∀ x, (f x).length = sz) (x0 : α)
    (one : ∀ {fuel : Nat} {cs : List Value} {x : DataW H × List MemPlace}, DataW.trod enc Try.prog W 0 (fun _ => true) true fuel e cs = some x → ∃ a, cs = f a)
    {v : Value} {d : DataW H} {p : List MemPlace} (hpos : 0 < sz) (hval : Value.okWide Try.prog W .any base t v) (h : DataW.Trod enc Try.prog W 0 (fun _ => true) true t v d p) :
    ∃ L : List α, ElemsAt sz W v (L.map f) ∧ L.length ≤ maxLen := by
  obtain ⟨a1, len, cap, rfl⟩ := okWide_slice ht hval
  obtain ⟨fuel, hfu⟩ := h
  rcases Go.Deep.open_slice ht hfu with ⟨hcs, hx⟩ | ⟨a, len', cap', m, n, D, Pl, hcs, _, hl, hm, hmm, hx, hi⟩
  · simp [Value.cells] at hcs
    obtain ⟨rfl, rfl, rfl⟩ := hcs
    exact ⟨[], .inl ⟨_, _, rfl, rfl⟩, Nat.zero_le _⟩
  · simp [Value.cells] at hcs
    obtain ⟨rfl, rfl, rfl⟩ := hcs
    simp only [if_true] at hmm
    by_cases h0 : len = 0
    · subst h0
      exact ⟨[], .inl ⟨_, _, rfl, rfl⟩, Nat.zero_le _⟩
    · rw [hsz] at hi
      have hone : ∀ i, i < len → ∃ c : α, ∀ j u, (f c)[j]? = some u → W.cell? ((a.add (i * sz)).add j) = some u := by
        intro i hil
        obtain ⟨cs', hc, htr⟩ := hi i (by omega)
        obtain ⟨c, rfl⟩ := one htr
        obtain ⟨_, _, hat⟩ := World.cells?_some hc
        refine ⟨c, fun j u hj => ?_⟩
        have hjl : j < sz := by
          rcases Nat.lt_or_ge j (f c).length with hh | hh
          · rwa [hf] at hh
          · rw [List.getElem?_eq_none hh] at hj; cases hj
        exact (hat j (by omega)).trans hj
      have hc0 : ∃ u, W.cell? ((a.add (0 * sz)).add 0) = some u := by
        obtain ⟨c, hc⟩ := hone 0 (by omega)
        exact ⟨_, hc 0 _ (List.getElem?_eq_getElem (by rw [hf]; exact hpos))⟩
      obtain ⟨ab, ao, spot⟩ := a
      have hspot : spot = none := by
        obtain ⟨u, hu⟩ := hc0
        simpa [Addr.add] using World.cell?_spot hu
      subst hspot
      have hb : ab < W.heap.size := by
        obtain ⟨u, hu⟩ := hc0
        rw [addr_of] at hu
        unfold World.cell? at hu
        rcases Nat.lt_or_ge ab W.heap.size with hh | hh
        · exact hh
        · simp [Array.getElem?_eq_none hh] at hu
      let g : Nat → α := fun i => if h : i < len then Classical.choose (hone i h) else x0
      have hlen : ((List.range len).map g).length = len := by simp
      refine ⟨(List.range len).map g, .inr ⟨ab, ao, cap, by rw [List.length_map, hlen], hb, fun k e he j u hj => ?_⟩, by rw [hlen]; omega⟩
      have hk : k < len := by
        rcases Nat.lt_or_ge k len with hh | hh
        · exact hh
        · rw [List.getElem?_eq_none (by simp; omega)] at he; cases he
      have hgk : g k = Classical.choose (hone k hk) := dif_pos hk
      simp [hk] at he
      subst he
      rw [hgk] at hj
      have := Classical.choose_spec (hone k hk) j u hj
      rwa [addr_of] at this
theorem cellsPut : Try.prog.cellsOf 54 = 3 := by kernel_rfl
theorem cellsBool : Try.prog.cellsOf 4 = 1 := by kernel_rfl
theorem three_cells {α : Type} (l : List α) (h : l.length = 3) : ∃ a b c, l = [a, b, c] := by
  match l, h with
  | [a, b, c], _ => exact ⟨a, b, c, rfl⟩
theorem u8_of {z : Int} (w : (Lit.int .u8 z).wf = true) : ∃ b : UInt8, z = (b.toNat : Int) := by
  have b0 : 0 ≤ z ∧ z ≤ 255 := by
    simp [Lit.wf, IntKind.min, IntKind.max, IntKind.signed, IntKind.bits] at w; omega
  exact ⟨UInt8.ofNat z.toNat, by rw [ofNat_toNat8 _ (by omega)]; omega⟩
theorem put_trod {H : Type} {enc : TypeId × Value → H} {W : World} {base fuel : Nat} {sp : Nat → Bool} {held : Bool} {cs : List Value} {x : DataW H × List MemPlace}
    (h : DataW.trod enc Try.prog W base sp held fuel 54 cs = some x) : ∃ p : Pu, cs = p.cs := by
  obtain ⟨xs, n, _, ex, hl, hn, hel⟩ := DataW.trod_struct Try.underlying54 h
  rw [cellsPut] at hl
  obtain ⟨a, b, c, rfl⟩ := three_cells cs hl
  obtain ⟨x0, x1, x2, rfl⟩ := three_cells xs hn
  have h0 : DataW.trod enc Try.prog W base sp held n 5 (([a, b, c].drop 0).take (Try.prog.cellsOf 5)) = some x0 := hel 0 _ rfl
  have h1 : DataW.trod enc Try.prog W base sp held n 5 (([a, b, c].drop 1).take (Try.prog.cellsOf 5)) = some x1 := hel 1 _ rfl
  have h2 : DataW.trod enc Try.prog W base sp held n 4 (([a, b, c].drop 2).take (Try.prog.cellsOf 4)) = some x2 := hel 2 _ rfl
  rw [cellsByte] at h0 h1
  rw [cellsBool] at h2
  obtain ⟨z0, e0, _, w0⟩ := DataW.trod_int Try.underlying5 h0
  obtain ⟨z1, e1, _, w1⟩ := DataW.trod_int Try.underlying5 h1
  obtain ⟨z2, e2, _⟩ := DataW.trod_bool Try.underlying4 h2
  simp at e0 e1 e2
  subst e0 e1 e2
  obtain ⟨b0, rfl⟩ := u8_of w0
  obtain ⟨b1, rfl⟩ := u8_of w1
  exact ⟨⟨b0, b1, z2⟩, rfl⟩
theorem puts_open {H : Type} {enc : TypeId × Value → H} {W : World} {base : Nat} {v : Value} {d : DataW H} {p : List MemPlace} (hval : Value.okWide Try.prog W .any base 47 v) (h : DataW.Trod enc Try.prog W 0 (fun _ => true) true 47 v d p) :
    ∃ L : List Pu, PutsAt W v L ∧ L.length ≤ maxLen :=
  elems_open (sz := 3) Try.underlying47 cellsPut Pu.cs (fun _ => rfl) ⟨0, 0, false⟩ (fun h => put_trod h) (by decide) hval h

/-- The arguments read behind the call as they did before it. -/
theorem trodAll_kept {H : Type} {enc : TypeId × Value → H} {W W' : World} (hb : Below W.heap.size W W') : ∀ (ts : List TypeId) (vs : List Value) (ds : List (DataW H)) (ps : List MemPlace),
    (∀ t ∈ ts, Try.prog.readableRec t = true ∧ t < Try.prog.types.size) → DataW.TrodAll enc Try.prog W 0 (fun _ => true) true ts vs ds ps → (∀ x ∈ ps, x.block < W.heap.size) →
    DataW.TrodAll enc Try.prog W' 0 (fun b => decide (b < W.heap.size)) true ts vs ds ps
  | [], vs, ds, ps, _, h, _ => by
    obtain ⟨rfl, rfl, rfl⟩ := trodAll_nil h
    exact trodAll_mk0
  | t :: ts, vs, ds, ps, hr, h, hlt => by
    obtain ⟨v, vs', d, ds', p, q, rfl, rfl, rfl, hd, hrest⟩ := trodAll_cons h
    exact trodAll_cons_mk (Below.trod laidOut (hr t (by simp)).1 (hr t (by simp)).2 hd hb (fun x hx => hlt x (List.mem_append_left _ hx)))
      (trodAll_kept hb ts vs' ds' q (fun u hu => hr u (List.mem_cons_of_mem _ hu)) hrest (fun x hx => hlt x (List.mem_append_right _ hx)))

/-- The row's end, for a law. -/
theorem post_law {H : Type} {enc : TypeId × Value → H} {s : ChangeSpec} {f : Func} {W W' : World} {args : Array Value} {ds : List (DataW H)} {p : List MemPlace} (hv : s.vars = [])
    (hW : DataW.Whole enc Try.prog f.params.toList s.vars false W args.toList ds [] p) (hA : DataW.TrodAll enc Try.prog W 0 (fun _ => true) true f.params.toList args.toList ds p)
    (hr : ∀ t ∈ f.params.toList, Try.prog.readableRec t = true ∧ t < Try.prog.types.size) (hft : f.resultTypes.toList = [4]) (hfn : s.fn H ds = { results := [.lit (.bool true)], args := ds }) (hB : Below W.heap.size W W') :
    s.post enc Try.prog f false true false false W args (.bool true) W' := by
  have hfn' : s.fn H (ds ++ []) = { results := [.lit (.bool true)], args := ds } := by rw [List.append_nil]; exact hfn
  have hsz : f.resultTypes.size = 1 := by rw [← Array.length_toList, hft]; rfl
  have hlt : ∀ x ∈ p, x.block < W.heap.size := fun x hx => hW.lt x hx
  refine ⟨ds, [], p, [], p, [], hW, ?_, ?_, ?_, hB.frame _, fun h => by cases h⟩
  · rw [hfn', hft, hsz]
    exact trodAll_mk1 (shut_bool Try.underlying4 _)
  · rw [hfn']
    exact trodAll_kept hB _ _ _ _ hr hA hlt
  · rw [hfn', hv]
    rfl
end Go.Proofs.Ytpboknepfjeljaa
