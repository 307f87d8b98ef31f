/- What comes in: bytes, numbers, values, two lists of values, values with bytes; that they read afterwards as they did. -/
import Derived.Test.YtnocmkjaifjgfaaRLaw
import Derived.Test.YtnocmkjaifjgfaaRows
import Derived.ProofKit
import Derived.OpenShut
import Derived.ShapedOpen
import Derived.HandedShaped
import Derived.Carry
import Derived.Deep.Slices
import Derived.Deep.Fields
import Derived.ChangeSame
namespace Go.Proofs.Ytnocmkjaifjgfaa.R
open Go.ChangeShapes Go.WideShapes Go.ChangeAt Go.RowKit

theorem own : ownKnob Try.prog.godebug = none := by kernel_rfl
theorem laidOut : laidOutB Try.prog = true := by kernel_rfl
theorem cellsByte : Try.prog.cellsOf 5 = 1 := by kernel_rfl
theorem cellsU32 : Try.prog.cellsOf 50 = 1 := by kernel_rfl
theorem cellsVal : Try.prog.cellsOf 49 = 3 := by kernel_rfl
theorem lt_of_cell {W : World} {b o : Nat} {v : Value} (h : W.cell? ⟨b, o, none⟩ = some v) : b < W.heap.size := by
  unfold World.cell? at h
  rcases Nat.lt_or_ge b W.heap.size with hh | hh
  · exact hh
  · simp [Array.getElem?_eq_none hh] at h

/-- A slice of bytes that came in. -/
def BytesIn (W : World) (v : Value) (l : List UInt8) : Prop := ∃ a d, v = .slice a l.length d ∧ l.length ≤ d ∧ BytesAt W v l ∧ l.length ≤ maxLen
theorem bytes_cells {H : Type} {enc : TypeId × Value → H} {W : World} {base fuel : Nat} {held : Bool} {cs : List Value} {x : DataW H × List MemPlace}
    (h : DataW.trod enc Try.prog W base (fun _ => true) held fuel 25 cs = some x) : ∃ v l, cs = [v] ∧ BytesIn W v l := by
  rcases open_ints Try.underlying25 Try.underlying5 cellsByte h with ⟨hcs, hx⟩ | ⟨a, len, cap, zs, hcs, _, hl, hm, hz, hx, hcell, hwz⟩
  · exact ⟨_, [], hcs, _, _, rfl, Nat.zero_le _, .inl ⟨_, _, rfl, rfl⟩, Nat.zero_le _⟩
  · simp only [if_true] at hz
    by_cases h0 : len = 0
    · subst h0
      exact ⟨_, [], hcs, _, _, rfl, Nat.zero_le _, .inl ⟨_, _, rfl, rfl⟩, Nat.zero_le _⟩
    · obtain ⟨ab, ao, spot⟩ := a
      have hspot : spot = none := by simpa [Addr.add] using World.cell?_spot (hcell 0 (by omega))
      subst hspot
      have hlen : ((zs.take len).map fun n => UInt8.ofNat n.toNat).length = len := by simp; omega
      have hb : ab < W.heap.size := by
        have hc := hcell 0 (by omega)
        rw [addr_add] at hc
        exact lt_of_cell hc
      refine ⟨_, (zs.take len).map fun n => UInt8.ofNat n.toNat, hcs, some ⟨ab, ao, none⟩, cap, by rw [hlen], by rw [hlen]; exact hl, .inr ⟨ab, ao, cap, by rw [hlen], hb, fun k hk => ?_⟩, by rw [hlen]; omega⟩
      rw [hlen] at hk
      have hc := hcell k (by omega)
      rw [addr_add] at hc
      rw [hc]
      have hw : (Lit.int .u8 (zs.getD k 0)).wf = true := hwz _ (by rw [List.getD_eq_getElem?_getD, List.getElem?_eq_getElem (by omega)]; exact List.getElem_mem _)
      have hw2 : 0 ≤ zs.getD k 0 ∧ zs.getD k 0 ≤ 255 := by
        simp [Lit.wf, IntKind.min, IntKind.max, IntKind.signed, IntKind.bits] at hw ⊢; omega
      have hg : zs.getD k 0 = zs[k]'(by omega) := by rw [List.getD_eq_getElem?_getD, List.getElem?_eq_getElem (by omega)]; rfl
      rw [hg] at hw2 ⊢
      simp only [List.getElem_map, List.getElem_take]
      congr 2
      rw [UInt8.toNat_ofNat', Nat.mod_eq_of_lt (by omega)]
      omega
/-- A slice of numbers of 32 bits that came in. -/
theorem nums_cells {H : Type} {enc : TypeId × Value → H} {W : World} {base fuel : Nat} {held : Bool} {cs : List Value} {x : DataW H × List MemPlace}
    (h : DataW.trod enc Try.prog W base (fun _ => true) held fuel 47 cs = some x) : ∃ v l, cs = [v] ∧ NumsAt W v l ∧ l.length ≤ maxLen ∧ ∀ y ∈ l, y < 4294967296 := by
  rcases open_ints Try.underlying47 Try.underlying50 cellsU32 h with ⟨hcs, hx⟩ | ⟨a, len, cap, zs, hcs, _, hl, hm, hz, hx, hcell, hwz⟩
  · exact ⟨_, [], hcs, .inl ⟨_, _, rfl, rfl⟩, Nat.zero_le _, by simp⟩
  · simp only [if_true] at hz
    by_cases h0 : len = 0
    · subst h0
      exact ⟨_, [], hcs, .inl ⟨_, _, rfl, rfl⟩, Nat.zero_le _, by simp⟩
    · obtain ⟨ab, ao, spot⟩ := a
      have hspot : spot = none := by simpa [Addr.add] using World.cell?_spot (hcell 0 (by omega))
      subst hspot
      have hlen : ((zs.take len).map fun n => n.toNat).length = len := by simp; omega
      have hb : ab < W.heap.size := by
        have hc := hcell 0 (by omega)
        rw [addr_add] at hc
        exact lt_of_cell hc
      have hwf : ∀ z ∈ zs, 0 ≤ z ∧ z < 4294967296 := fun z hz => by
        have := hwz z hz
        simp [Lit.wf, IntKind.min, IntKind.max, IntKind.signed, IntKind.bits] at this; omega
      refine ⟨_, (zs.take len).map fun n => n.toNat, hcs, .inr ⟨ab, ao, cap, by rw [hlen], hb, fun k hk => ?_⟩, by rw [hlen]; omega, fun y hy => ?_⟩
      · rw [hlen] at hk
        have hc := hcell k (by omega)
        rw [addr_add] at hc
        rw [hc]
        have hg : zs.getD k 0 = zs[k]'(by omega) := by rw [List.getD_eq_getElem?_getD, List.getElem?_eq_getElem (by omega)]; rfl
        have hw2 := hwf (zs[k]'(by omega)) (List.getElem_mem _)
        rw [hg]
        simp only [List.getElem_map, List.getElem_take]
        congr 2
        omega
      · obtain ⟨z, hz, rfl⟩ := List.mem_map.1 hy
        have := hwf z (List.mem_of_mem_take hz)
        omega

/-- A list of values that came in. -/
structure ValsIn (W : World) (v : Value) (l : List Rv) : Prop where
  at_ : ValsAt W v l
  len : l.length ≤ maxLen
  ok : ∀ x ∈ l, x.Ok
  small : ∀ x ∈ l, x.str.size ≤ maxLen ∧ x.list.length ≤ maxLen
theorem list_of {p : Nat → Rv → Prop} : ∀ (n : Nat), (∀ i, i < n → ∃ r, p i r) → ∃ l : List Rv, l.length = n ∧ ∀ k (h : k < l.length), p k l[k] := by
  intro n
  induction n with
  | zero => intro _; exact ⟨[], rfl, fun k h => by simp at h⟩
  | succ n ih =>
    intro h
    obtain ⟨l, hl, hp⟩ := ih (fun i hi => h i (by omega))
    obtain ⟨r, hr⟩ := h n (by omega)
    refine ⟨l ++ [r], by simp [hl], fun k hk => ?_⟩
    by_cases e : k < l.length
    · rw [List.getElem_append_left e]; exact hp k e
    · have : k = l.length := by simp at hk; omega
      subst this
      simp [hl]; exact hr
theorem len3 {α : Type} : ∀ (l : List α), l.length = 3 → ∃ u v x, l = [u, v, x]
  | [_, _, _], _ => ⟨_, _, _, rfl⟩
set_option maxRecDepth 100000 in
theorem vals_cells_in {H : Type} {enc : TypeId × Value → H} {W : World} {base fuel : Nat} {held : Bool} {cs : List Value} {x : DataW H × List MemPlace}
    (h : DataW.trod enc Try.prog W base (fun _ => true) held fuel 22 cs = some x) : ∃ v l, cs = [v] ∧ ValsIn W v l := by
  rcases Go.Deep.open_slice Try.underlying22 h with ⟨hcs, hx⟩ | ⟨a, len, cap, m, n, D, Pl, hcs, hbase, hl, hm, hmm, hx, hi⟩
  · exact ⟨_, [], hcs, ⟨.inl ⟨_, _, rfl, rfl⟩, Nat.zero_le _, by simp, by simp⟩⟩
  · simp only [if_true] at hmm
    by_cases h0 : len = 0
    · subst h0
      exact ⟨_, [], hcs, ⟨.inl ⟨_, _, rfl, rfl⟩, Nat.zero_le _, by simp, by simp⟩⟩
    · have each : ∀ i, i < len → ∃ r : Rv, (W.cell? (a.add (i * 3)) = some (.int .u64 (r.num : Nat)) ∧ W.cell? ((a.add (i * 3)).add 1) = some (.string r.str) ∧ ∃ y, W.cell? ((a.add (i * 3)).add 2) = some y ∧ NumsAt W y r.list) ∧ r.Ok ∧ r.str.size ≤ maxLen ∧ r.list.length ≤ maxLen := by
        intro i hil
        obtain ⟨c3, hc, ht⟩ := hi i (by omega)
        rw [cellsVal] at hc
        obtain ⟨_, hcl, hat⟩ := World.cells?_some hc
        obtain ⟨ys, n', _, _, _, hyl, hf⟩ := DataW.trod_struct Try.underlying49 ht
        obtain ⟨v0, v1, v2, rfl⟩ := len3 c3 hcl
        obtain ⟨y0, y1, y2, rfl⟩ := len3 ys hyl
        have k0 : Try.prog.cellsOf 46 = 1 := by kernel_rfl
        have k1 : Try.prog.cellsOf 9 = 1 := by kernel_rfl
        have k2 : Try.prog.cellsOf 47 = 1 := by kernel_rfl
        have f0 : DataW.trod enc Try.prog W base (fun _ => true) held n' 46 (([v0, v1, v2].drop 0).take (Try.prog.cellsOf 46)) = some y0 := hf 0 _ rfl
        have f1 : DataW.trod enc Try.prog W base (fun _ => true) held n' 9 (([v0, v1, v2].drop 1).take (Try.prog.cellsOf 9)) = some y1 := hf 1 _ rfl
        have f2 : DataW.trod enc Try.prog W base (fun _ => true) held n' 47 (([v0, v1, v2].drop 2).take (Try.prog.cellsOf 47)) = some y2 := hf 2 _ rfl
        rw [k0] at f0
        rw [k1] at f1
        rw [k2] at f2
        obtain ⟨z0, e0, -, w0⟩ := DataW.trod_int Try.underlying46 f0
        obtain ⟨z1, e1, -, w1⟩ := DataW.trod_string Try.underlying9 f1
        obtain ⟨z2, q, e2, hq, hql, hqv⟩ := nums_cells f2
        simp only [List.drop_zero, List.take_succ_cons, List.take_zero, List.drop_succ_cons, List.cons.injEq, and_true] at e0 e1 e2
        subst e0 e1 e2
        simp [Lit.wf, IntKind.min, IntKind.max, IntKind.signed, IntKind.bits] at w0
        have hz0 : ((z0.toNat : Nat) : Int) = z0 := by omega
        have a0 := hat 0 (by omega)
        have a1 := hat 1 (by omega)
        have a2 := hat 2 (by omega)
        rw [show ∀ x : Addr, x.add 0 = x from fun x => by unfold Addr.add; simp] at a0
        refine ⟨⟨z0.toNat, z1, q⟩, ⟨by rw [hz0]; exact a0, a1, v2, a2, hq⟩, ⟨by show z0.toNat < _; omega, hqv⟩, w1, hql⟩
      obtain ⟨l, hll, hlp⟩ := list_of len each
      obtain ⟨ab, ao, spot⟩ := a
      have hc0 := (hlp 0 (by omega)).1.1
      have hspot : spot = none := by simpa [Addr.add] using World.cell?_spot hc0
      subst hspot
      simp only [addr_add] at hlp hc0
      refine ⟨_, l, hcs, ⟨.inr ⟨ab, ao, cap, by rw [hll], lt_of_cell hc0, fun k hk => (hlp k hk).1⟩, by rw [hll]; omega, fun x hx => ?_, fun x hx => ?_⟩⟩
      · obtain ⟨k, hk, rfl⟩ := List.mem_iff_getElem.1 hx
        exact (hlp k hk).2.1
      · obtain ⟨k, hk, rfl⟩ := List.mem_iff_getElem.1 hx
        exact (hlp k hk).2.2
theorem bytes_open {H : Type} {enc : TypeId × Value → H} {W : World} {base : Nat} {v : Value} {d : DataW H} {p : List MemPlace} (hval : Value.okWide Try.prog W .any base 25 v) (h : DataW.Trod enc Try.prog W 0 (fun _ => true) true 25 v d p) : ∃ l, BytesIn W v l := by
  obtain ⟨a, len, cap, rfl⟩ := okWide_slice Try.underlying25 hval
  obtain ⟨fuel, hf⟩ := h
  obtain ⟨u, l, hcs, hl⟩ := bytes_cells hf
  simp [Value.cells] at hcs
  subst hcs
  exact ⟨l, hl⟩
theorem vals_open {H : Type} {enc : TypeId × Value → H} {W : World} {base : Nat} {v : Value} {d : DataW H} {p : List MemPlace} (hval : Value.okWide Try.prog W .any base 22 v) (h : DataW.Trod enc Try.prog W 0 (fun _ => true) true 22 v d p) : ∃ l, ValsIn W v l := by
  obtain ⟨a, len, cap, rfl⟩ := okWide_slice Try.underlying22 hval
  obtain ⟨fuel, hf⟩ := h
  obtain ⟨u, l, hcs, hl⟩ := vals_cells_in hf
  simp [Value.cells] at hcs
  subst hcs
  exact ⟨l, hl⟩
theorem len2 {α : Type} : ∀ (l : List α), l.length = 2 → ∃ u v, l = [u, v]
  | [_, _], _ => ⟨_, _, rfl⟩
theorem behind_open {H : Type} {enc : TypeId × Value → H} {W : World} {base : Nat} {v : Value} {d : DataW H} {p : List MemPlace} (hval : Value.okWide Try.prog W .any base 40 v) (h : DataW.Trod enc Try.prog W 0 (fun _ => true) true 40 v d p) :
    ∃ (u x : Value) (l : List Rv) (b : List UInt8), v = .agg #[u, x] ∧ ValsIn W u l ∧ BytesIn W x b := by
  obtain ⟨cs, rfl, hsz⟩ := okWide_struct Try.underlying40 hval
  obtain ⟨fuel, hf⟩ := h
  obtain ⟨xs, n, _, ex, hl, hn, hel⟩ := DataW.trod_struct Try.underlying40 hf
  have c2 : Try.prog.cellsOf 40 = 2 := by kernel_rfl
  have k0 : Try.prog.cellsOf 22 = 1 := by kernel_rfl
  have k1 : Try.prog.cellsOf 25 = 1 := by kernel_rfl
  rw [c2] at hl
  simp only [Value.cells] at hl hel
  obtain ⟨a, b, hcs⟩ := len2 cs.toList hl
  rw [hcs] at hel
  obtain ⟨x0, x1, rfl⟩ := len2 xs hn
  have h0 : DataW.trod enc Try.prog W 0 (fun _ => true) true n 22 (([a, b].drop 0).take (Try.prog.cellsOf 22)) = some x0 := hel 0 _ rfl
  have h1 : DataW.trod enc Try.prog W 0 (fun _ => true) true n 25 (([a, b].drop 1).take (Try.prog.cellsOf 25)) = some x1 := hel 1 _ rfl
  rw [k0] at h0
  rw [k1] at h1
  obtain ⟨u0, A, e0, l0⟩ := vals_cells_in h0
  obtain ⟨u1, B, e1, l1⟩ := bytes_cells h1
  simp at e0 e1
  subst e0 e1
  have : cs = #[a, b] := by apply Array.ext'; rw [hcs]
  subst this
  exact ⟨a, b, A, B, rfl, l0, l1⟩
theorem two_open {H : Type} {enc : TypeId × Value → H} {W : World} {base : Nat} {v : Value} {d : DataW H} {p : List MemPlace} (hval : Value.okWide Try.prog W .any base 44 v) (h : DataW.Trod enc Try.prog W 0 (fun _ => true) true 44 v d p) :
    ∃ (u x : Value) (l m : List Rv), v = .agg #[u, x] ∧ ValsIn W u l ∧ ValsIn W x m := by
  obtain ⟨cs, rfl, hsz⟩ := okWide_struct Try.underlying44 hval
  obtain ⟨fuel, hf⟩ := h
  obtain ⟨xs, n, _, ex, hl, hn, hel⟩ := DataW.trod_struct Try.underlying44 hf
  have c2 : Try.prog.cellsOf 44 = 2 := by kernel_rfl
  have k0 : Try.prog.cellsOf 22 = 1 := by kernel_rfl
  rw [c2] at hl
  simp only [Value.cells] at hl hel
  obtain ⟨a, b, hcs⟩ := len2 cs.toList hl
  rw [hcs] at hel
  obtain ⟨x0, x1, rfl⟩ := len2 xs hn
  have h0 : DataW.trod enc Try.prog W 0 (fun _ => true) true n 22 (([a, b].drop 0).take (Try.prog.cellsOf 22)) = some x0 := hel 0 _ rfl
  have h1 : DataW.trod enc Try.prog W 0 (fun _ => true) true n 22 (([a, b].drop 1).take (Try.prog.cellsOf 22)) = some x1 := hel 1 _ rfl
  rw [k0] at h0 h1
  obtain ⟨u0, A, e0, l0⟩ := vals_cells_in h0
  obtain ⟨u1, B, e1, l1⟩ := vals_cells_in h1
  simp at e0 e1
  subst e0 e1
  have : cs = #[a, b] := by apply Array.ext'; rw [hcs]
  subst this
  exact ⟨a, b, A, B, rfl, l0, l1⟩

/-- The arguments read behind the call as they did before it. -/
theorem trodAll_kept {H : Type} {enc : TypeId × Value → H} {W W' : World} (hb : Below W.heap.size W W') : ∀ (ts : List TypeId) (vs : List Value) (ds : List (DataW H)) (ps : List MemPlace),
    (∀ t ∈ ts, Try.prog.readableRec t = true ∧ t < Try.prog.types.size) → DataW.TrodAll enc Try.prog W 0 (fun _ => true) true ts vs ds ps → (∀ x ∈ ps, x.block < W.heap.size) →
    DataW.TrodAll enc Try.prog W' 0 (fun b => decide (b < W.heap.size)) true ts vs ds ps
  | [], vs, ds, ps, _, h, _ => by
    obtain ⟨rfl, rfl, rfl⟩ := trodAll_nil h
    exact trodAll_mk0
  | t :: ts, vs, ds, ps, hr, h, hlt => by
    obtain ⟨v, vs', d, ds', p, q, rfl, rfl, rfl, hd, hrest⟩ := trodAll_cons h
    exact trodAll_cons_mk (Below.trod laidOut (hr t (by simp)).1 (hr t (by simp)).2 hd hb (fun x hx => hlt x (List.mem_append_left _ hx)))
      (trodAll_kept hb ts vs' ds' q (fun u hu => hr u (List.mem_cons_of_mem _ hu)) hrest (fun x hx => hlt x (List.mem_append_right _ hx)))

/-- The row's end, for a law. -/
theorem post_law {H : Type} {enc : TypeId × Value → H} {s : ChangeSpec} {f : Func} {W W' : World} {args : Array Value} {ds : List (DataW H)} {p : List MemPlace} (hv : s.vars = [])
    (hW : DataW.Whole enc Try.prog f.params.toList s.vars false W args.toList ds [] p) (hA : DataW.TrodAll enc Try.prog W 0 (fun _ => true) true f.params.toList args.toList ds p)
    (hr : ∀ t ∈ f.params.toList, Try.prog.readableRec t = true ∧ t < Try.prog.types.size) (hft : f.resultTypes.toList = [4]) (hfn : s.fn H ds = { results := [.lit (.bool true)], args := ds }) (hB : Below W.heap.size W W') :
    s.post enc Try.prog f false true false false W args (.bool true) W' := by
  have hfn' : s.fn H (ds ++ []) = { results := [.lit (.bool true)], args := ds } := by rw [List.append_nil]; exact hfn
  have hsz : f.resultTypes.size = 1 := by rw [← Array.length_toList, hft]; rfl
  have hlt : ∀ x ∈ p, x.block < W.heap.size := fun x hx => hW.lt x hx
  refine ⟨ds, [], p, [], p, [], hW, ?_, ?_, ?_, hB.frame _, fun h => by cases h⟩
  · rw [hfn', hft, hsz]
    exact trodAll_mk1 (shut_bool Try.underlying4 _)
  · rw [hfn']
    exact trodAll_kept hB _ _ _ _ hr hA hlt
  · rw [hfn', hv]
    rfl
end Go.Proofs.Ytnocmkjaifjgfaa.R
