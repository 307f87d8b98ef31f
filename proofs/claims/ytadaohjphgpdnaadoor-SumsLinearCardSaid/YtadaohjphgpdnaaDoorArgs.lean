/- What comes in: bytes, numbers, Roll's arguments; that it reads afterwards as it did; the table of the row's list. -/
import Derived.Test.YtadaohjphgpdnaaDoorShown
import Derived.Test.YtadaohjphgpdnaaDoorCards
import Derived.Test.YtadaohjphgpdnaaDoorTie
import Derived.ProofKit
import Derived.OpenShut
import Derived.ShapedOpen
import Derived.Carry
import Derived.WalkKit
import Derived.Deep.DeepHandedRow
import Derived.Lib.LaidTab
import Derived.LaidMore
import Derived.Lay
import Derived.SevenTiedAt
import Derived.Stop.Joined
import Derived.Stop.LaidErr
import Derived.ChangeMaps5
import Derived.MakeChecks
namespace Go.Proofs.YtadaohjphgpdnaaDoor
open Go.ChangeShapes Go.WideShapes Go.ChangeAt Go.RowKit

theorem own : ownKnob Tryd.prog.godebug = none := by kernel_rfl
theorem laidOut : laidOutB Tryd.prog = true := by kernel_rfl
theorem cellsByte : Tryd.prog.cellsOf 5 = 1 := by kernel_rfl

theorem bytes_open {H : Type} {enc : TypeId × Value → H} {W : World} {base : Nat} {v : Value} {d : DataW H} {p : List MemPlace} (hval : Value.okWide Tryd.prog W .any base 23 v) (h : DataW.Trod enc Tryd.prog W 0 (fun _ => true) true 23 v d p) :
    ∃ l : List UInt8, BytesAt W v l ∧ l.length ≤ maxLen := by
  obtain ⟨a1, len, cap, rfl⟩ := okWide_slice Tryd.underlying23 hval
  obtain ⟨fuel, hf⟩ := h
  rcases open_ints Tryd.underlying23 Tryd.underlying5 cellsByte hf with ⟨hcs, hx⟩ | ⟨a, len', cap', zs, hcs, _, hl, hm, hz, hx, hcell, hwz⟩
  · simp [Value.cells] at hcs
    obtain ⟨rfl, rfl, rfl⟩ := hcs
    exact ⟨[], .inl ⟨_, _, rfl, rfl⟩, Nat.zero_le _⟩
  · simp [Value.cells] at hcs
    obtain ⟨rfl, rfl, rfl⟩ := hcs
    simp only [if_true] at hz
    by_cases h0 : len = 0
    · subst h0
      exact ⟨[], .inl ⟨_, _, rfl, rfl⟩, Nat.zero_le _⟩
    · obtain ⟨ab, ao, spot⟩ := a
      have hspot : spot = none := by simpa [Addr.add] using World.cell?_spot (hcell 0 (by omega))
      subst hspot
      have hlen : ((zs.take len).map fun n => UInt8.ofNat n.toNat).length = len := by simp; omega
      have hb : ab < W.heap.size := by
        have hc := hcell 0 (by omega)
        rw [addr_add] at hc
        unfold World.cell? at hc
        rcases Nat.lt_or_ge ab W.heap.size with hh | hh
        · exact hh
        · simp [Array.getElem?_eq_none hh] at hc
      refine ⟨(zs.take len).map fun n => UInt8.ofNat n.toNat, .inr ⟨ab, ao, cap, by rw [hlen], hb, fun k hk => ?_⟩, by rw [hlen]; omega⟩
      rw [hlen] at hk
      have hc := hcell k (by omega)
      rw [addr_add] at hc
      rw [hc]
      have hw : (Lit.int .u8 (zs.getD k 0)).wf = true := hwz _ (by rw [List.getD_eq_getElem?_getD, List.getElem?_eq_getElem (by omega)]; exact List.getElem_mem _)
      have hw2 : 0 ≤ zs.getD k 0 ∧ zs.getD k 0 ≤ 255 := by
        simp [Lit.wf, IntKind.min, IntKind.max, IntKind.signed, IntKind.bits] at hw ⊢; omega
      have hg : zs.getD k 0 = zs[k]'(by omega) := by rw [List.getD_eq_getElem?_getD, List.getElem?_eq_getElem (by omega)]; rfl
      rw [hg] at hw2 ⊢
      simp only [List.getElem_map, List.getElem_take]
      congr 2
      rw [UInt8.toNat_ofNat', Nat.mod_eq_of_lt (by omega)]
      omega

/-- The arguments read behind the call as they did before it. -/
theorem trodAll_kept {H : Type} {enc : TypeId × Value → H} {W W' : World} (hb : Below W.heap.size W W') : ∀ (ts : List TypeId) (vs : List Value) (ds : List (DataW H)) (ps : List MemPlace),
    (∀ t ∈ ts, Tryd.prog.readableRec t = true ∧ t < Tryd.prog.types.size) → DataW.TrodAll enc Tryd.prog W 0 (fun _ => true) true ts vs ds ps → (∀ x ∈ ps, x.block < W.heap.size) →
    DataW.TrodAll enc Tryd.prog W' 0 (fun b => decide (b < W.heap.size)) true ts vs ds ps
  | [], vs, ds, ps, _, h, _ => by
    obtain ⟨rfl, rfl, rfl⟩ := trodAll_nil h
    exact trodAll_mk0
  | t :: ts, vs, ds, ps, hr, h, hlt => by
    obtain ⟨v, vs', d, ds', p, q, rfl, rfl, rfl, hd, hrest⟩ := trodAll_cons h
    exact trodAll_cons_mk (Below.trod laidOut (hr t (by simp)).1 (hr t (by simp)).2 hd hb (fun x hx => hlt x (List.mem_append_left _ hx)))
      (trodAll_kept hb ts vs' ds' q (fun u hu => hr u (List.mem_cons_of_mem _ hu)) hrest (fun x hx => hlt x (List.mem_append_right _ hx)))

/-- The row's end, for a law. -/
theorem post_law {H : Type} {enc : TypeId × Value → H} {s : ChangeSpec} {f : Func} {W W' : World} {args : Array Value} {ds : List (DataW H)} {p : List MemPlace} (hv : s.vars = [])
    (hW : DataW.Whole enc Tryd.prog f.params.toList s.vars false W args.toList ds [] p) (hA : DataW.TrodAll enc Tryd.prog W 0 (fun _ => true) true f.params.toList args.toList ds p)
    (hr : ∀ t ∈ f.params.toList, Tryd.prog.readableRec t = true ∧ t < Tryd.prog.types.size) (hft : f.resultTypes.toList = [4]) (hfn : s.fn H ds = { results := [.lit (.bool true)], args := ds }) (hB : Below W.heap.size W W') :
    s.post enc Tryd.prog f false true false false W args (.bool true) W' := by
  have hfn' : s.fn H (ds ++ []) = { results := [.lit (.bool true)], args := ds } := by rw [List.append_nil]; exact hfn
  have hsz : f.resultTypes.size = 1 := by rw [← Array.length_toList, hft]; rfl
  have hlt : ∀ x ∈ p, x.block < W.heap.size := fun x hx => hW.lt x hx
  refine ⟨ds, [], p, [], p, [], hW, ?_, ?_, ?_, hB.frame _, fun h => by cases h⟩
  · rw [hfn', hft, hsz]
    exact trodAll_mk1 (shut_bool Tryd.underlying4 _)
  · rw [hfn']
    exact trodAll_kept hB _ _ _ _ hr hA hlt
  · rw [hfn', hv]
    rfl

/-! ### the arguments of Roll -/
theorem len3 {α : Type} : ∀ (l : List α), l.length = 3 → ∃ u v x, l = [u, v, x]
  | [_, _, _], _ => ⟨_, _, _, rfl⟩
theorem rolled_open {H : Type} {enc : TypeId × Value → H} {W : World} {base : Nat} {v : Value} {d : DataW H} {p : List MemPlace} (hval : Value.okWide Tryd.prog W .any base 43 v) (h : DataW.Trod enc Tryd.prog W 0 (fun _ => true) true 43 v d p) :
    ∃ (n : Int) (o i : Nat), v = .agg #[.int .i64 n, .int .u8 o, .int .u8 i] ∧ -9223372036854775808 ≤ n ∧ n ≤ 9223372036854775807 ∧ o < 256 ∧ i < 256 := by
  obtain ⟨cs, rfl, hcs⟩ := okWide_struct Tryd.underlying43 hval
  obtain ⟨fuel, hf⟩ := h
  obtain ⟨xs, n, _, ex, hl, hn, hel⟩ := DataW.trod_struct Tryd.underlying43 hf
  have c42 : Tryd.prog.cellsOf 43 = 3 := by kernel_rfl
  have c3 : Tryd.prog.cellsOf 3 = 1 := by kernel_rfl
  have c5 : Tryd.prog.cellsOf 5 = 1 := by kernel_rfl
  rw [c42] at hl
  obtain ⟨a, b, c, hl3⟩ := len3 _ hl
  obtain ⟨x0, x1, x2, rfl⟩ := len3 xs hn
  rw [hl3] at hel
  have h0 : DataW.trod enc Tryd.prog W 0 (fun _ => true) true n 3 (([a, b, c].drop 0).take (Tryd.prog.cellsOf 3)) = some x0 := hel 0 _ rfl
  have h1 : DataW.trod enc Tryd.prog W 0 (fun _ => true) true n 5 (([a, b, c].drop 1).take (Tryd.prog.cellsOf 5)) = some x1 := hel 1 _ rfl
  have h2 : DataW.trod enc Tryd.prog W 0 (fun _ => true) true n 5 (([a, b, c].drop 2).take (Tryd.prog.cellsOf 5)) = some x2 := hel 2 _ rfl
  obtain ⟨z0, e0, -, w0⟩ := DataW.trod_int Tryd.underlying3 h0
  obtain ⟨z1, e1, -, w1⟩ := DataW.trod_int Tryd.underlying5 h1
  obtain ⟨z2, e2, -, w2⟩ := DataW.trod_int Tryd.underlying5 h2
  rw [c3] at e0
  rw [c5] at e1 e2
  simp only [List.drop_zero, List.take_succ_cons, List.take_zero, List.drop_succ_cons, List.cons.injEq, and_true] at e0 e1 e2
  subst e0 e1 e2
  have hcs3 : cs = #[.int .i64 z0, .int .u8 z1, .int .u8 z2] := by
    apply Array.ext'; exact hl3
  simp [Lit.wf, IntKind.min, IntKind.max, IntKind.signed, IntKind.bits] at w0 w1 w2
  obtain ⟨o, rfl⟩ := Int.eq_ofNat_of_zero_le (show 0 ≤ z1 by omega)
  obtain ⟨i, rfl⟩ := Int.eq_ofNat_of_zero_le (show 0 ≤ z2 by omega)
  exact ⟨z0, o, i, by rw [hcs3], by omega, by omega, by omega, by omega⟩

/-! ### the row's list -/
theorem env_of_laid {W : World} (h : laidMetH Tryd.prog [("limewash/sums.halfSteps", Rows.laid_limewash_sums_halfSteps)] W) : Env W := by
  rw [MakeChecks.laidMetH_plain _ _ _ (by kernel_rfl)] at h
  have ht : Lib.TabIs Tryd.prog W "limewash/sums.halfSteps" .u32 tabZ := Lib.tabIs_of_head gTab (by kernel_rfl) Tryd.underlying76 Tryd.underlying53 (by kernel_rfl) (by kernel_rfl) h
  refine ⟨ht, ?_⟩
  unfold Lib.TabIs World.var? at ht
  rw [gTab] at ht
  rcases Nat.lt_or_ge 0 W.heap.size with h0 | h0
  · exact h0
  · simp [Array.getElem?_eq_none h0] at ht
end Go.Proofs.YtadaohjphgpdnaaDoor
