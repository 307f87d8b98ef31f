/- Bytes that come in, with their capacity; the table of the row's list. The seat with cards. -/
import Derived.Test.YtnocmkjaifjgfaaDoorRArgsD
import Derived.Test.YtnocmkjaifjgfaaDoorCrc
namespace Go.Proofs.YtnocmkjaifjgfaaDoor.R
open Go.ChangeShapes Go.WideShapes Go.ChangeAt Go.RowKit

theorem cellsByte : Tryd.prog.cellsOf 5 = 1 := by kernel_rfl
theorem bytes_cap {H : Type} {enc : TypeId × Value → H} {W : World} {base : Nat} {v : Value} {d : DataW H} {p : List MemPlace} (hval : Value.okWide Tryd.prog W .any base 22 v) (h : DataW.Trod enc Tryd.prog W 0 (fun _ => true) true 22 v d p) :
    ∃ (s : Option Addr) (d : Nat) (l : List UInt8), v = .slice s l.length d ∧ BytesAt W v l ∧ l.length ≤ maxLen ∧ l.length ≤ d := by
  obtain ⟨a1, len, cap, rfl⟩ := okWide_slice Tryd.underlying22 hval
  obtain ⟨fuel, hf⟩ := h
  rcases open_ints Tryd.underlying22 Tryd.underlying5 cellsByte hf with ⟨hcs, hx⟩ | ⟨a, len', cap', zs, hcs, _, hl, hm, hz, hx, hcell, hwz⟩
  · simp [Value.cells] at hcs
    obtain ⟨rfl, rfl, rfl⟩ := hcs
    exact ⟨_, _, [], rfl, .inl ⟨_, _, rfl, rfl⟩, Nat.zero_le _, Nat.zero_le _⟩
  · simp [Value.cells] at hcs
    obtain ⟨rfl, rfl, rfl⟩ := hcs
    simp only [if_true] at hz
    by_cases h0 : len = 0
    · subst h0
      exact ⟨_, _, [], rfl, .inl ⟨_, _, rfl, rfl⟩, Nat.zero_le _, Nat.zero_le _⟩
    · obtain ⟨ab, ao, spot⟩ := a
      have hspot : spot = none := by simpa [Addr.add] using World.cell?_spot (hcell 0 (by omega))
      subst hspot
      have hlen : ((zs.take len).map fun n => UInt8.ofNat n.toNat).length = len := by simp; omega
      have hb : ab < W.heap.size := by
        have hc := hcell 0 (by omega)
        rw [addr_add] at hc
        unfold World.cell? at hc
        rcases Nat.lt_or_ge ab W.heap.size with hh | hh
        · exact hh
        · simp [Array.getElem?_eq_none hh] at hc
      refine ⟨some ⟨ab, ao, none⟩, cap, (zs.take len).map fun n => UInt8.ofNat n.toNat, by rw [hlen], .inr ⟨ab, ao, cap, by rw [hlen], hb, fun k hk => ?_⟩, by rw [hlen]; omega, by rw [hlen]; omega⟩
      rw [hlen] at hk
      have hc := hcell k (by omega)
      rw [addr_add] at hc
      rw [hc]
      have hw : (Lit.int .u8 (zs.getD k 0)).wf = true := hwz _ (by rw [List.getD_eq_getElem?_getD, List.getElem?_eq_getElem (by omega)]; exact List.getElem_mem _)
      have hw2 : 0 ≤ zs.getD k 0 ∧ zs.getD k 0 ≤ 255 := by
        simp [Lit.wf, IntKind.min, IntKind.max, IntKind.signed, IntKind.bits] at hw ⊢; omega
      have hg : zs.getD k 0 = zs[k]'(by omega) := by rw [List.getD_eq_getElem?_getD, List.getElem?_eq_getElem (by omega)]; rfl
      rw [hg] at hw2 ⊢
      simp only [List.getElem_map, List.getElem_take]
      congr 2
      rw [UInt8.toNat_ofNat', Nat.mod_eq_of_lt (by omega)]
      omega


theorem laidMet_tail {P : Program} {W : World} {x : String × DataW Unit} {r : List (String × DataW Unit)} (h : laidMet P (x :: r) W) : laidMet P r W := by
  obtain ⟨ps, hl, hnd, hc⟩ := h
  obtain ⟨n, d⟩ := x
  obtain ⟨g, t, cs, fuel, p, q, h1, h2, h3, h4, h5, rfl⟩ := hl
  exact ⟨q, h5, (List.nodup_append.1 hnd).2.1, fun b off hm => hc b off (List.mem_append_right _ hm)⟩
theorem env_of_laid {W : World} (h : laidMetH Tryd.prog Rows.recordsSealsRow.laid W) : Env W := by
  rw [MakeChecks.laidMetH_plain _ _ _ (by kernel_rfl)] at h
  have h := laidMet_tail (x := ("unicode/utf8.acceptRanges", Rows.laid_unicode_utf8_acceptRanges)) (r := [("limewash/sums.halfSteps", Rows.laid_limewash_sums_halfSteps), ("unicode/utf8.first", Rows.laid_unicode_utf8_first)]) h
  have ht : Lib.TabIs Tryd.prog W "limewash/sums.halfSteps" .u32 tabZ := Lib.tabIs_of_head gTab (by kernel_rfl) Tryd.underlying89 Tryd.underlying76 (by kernel_rfl) (by kernel_rfl) h
  refine ⟨ht, ?_⟩
  unfold Lib.TabIs World.var? at ht
  rw [gTab] at ht
  rcases Nat.lt_or_ge 0 W.heap.size with h0 | h0
  · exact h0
  · simp [Array.getElem?_eq_none h0] at ht
end Go.Proofs.YtnocmkjaifjgfaaDoor.R
