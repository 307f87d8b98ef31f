/- fresh, concat: lists in new memory. -/
import Derived.Test.YtbgfeonlnhlbfaaRange
import Derived.Test.YtbgfeonlnhlbfaaShelf
import Derived.OwnWalk
import Derived.Maps.AppendAt
namespace Go.Proofs.Ytbgfeonlnhlbfaa
open Go.RowKit

theorem clone_any (s : ByteArray) (w : World) (hlim : s.size ≤ 281474976710656) :
    Calls Try.prog 58 #[.string s] w fun e w' => e = .returned (.string s) ∧ Below w.heap.size w w' := by
  go_enter Try.func58, Try.ntmps58
  go_wp2_with (go_at_call 67; refine (Try.stringslite_Clone _ _ hlim).mono ?_; rintro e w' ⟨rfl, hB⟩)
  go_ret
  exact ⟨rfl, hB⟩

theorem Try.infoStr : (Try.prog.info? 9).map (fun i => (i.zero, i.size, i.bytes)) = some (some (.string ⟨#[]⟩), 1, 16) := by kernel_rfl
theorem ret_ex {P : Value → Prop} {v : Value} (h : P v) : ∃ v', Ending.returned v = Ending.returned v' ∧ P v' := ⟨v, rfl, h⟩
/-- Lists that the walks go over. -/
def Small (ss : List ByteArray) : Prop := ss.length ≤ 1000 ∧ ∀ s ∈ ss, s.size ≤ 1000
theorem Small.modest {ss : List ByteArray} (h : Small ss) : Modest ss := ⟨by have := h.1; omega, fun s hs => by have := h.2 s hs; omega⟩
abbrev cellsL (ss : List ByteArray) : List Value := ss.map Value.string
theorem addr_add0 (g j : Nat) : (⟨g, 0, none⟩ : Addr).add j = ⟨g, j, none⟩ := by unfold Addr.add; split <;> simp_all
/-- A list in a row of the call's own. -/
def Fresh (w w' : World) (v : Value) (ss : List ByteArray) : Prop :=
  ∃ g cap, v = .slice (some ⟨g, 0, none⟩) ss.length cap ∧ w'.ownsRow w.heap.size 9 1 v ss.length (cellsL ss)
theorem strs_of_row {W : World} {base : Nat} {v : Value} {ss : List ByteArray} (h : W.ownsRow base 9 1 v ss.length (cellsL ss)) : StrsAt W v ss := by
  rcases h.2 with ⟨rfl, h0⟩ | ⟨g, cap, cur, rfl, _, hg, hn, _, _, _⟩
  · exact .inl ⟨none, 0, rfl, List.eq_nil_of_length_eq_zero h0⟩
  · refine .inr ⟨g, 0, cap, rfl, hn, (Array.getElem?_eq_some_iff.1 hg).1, fun k hk => ?_⟩
    have := h.cells (g := g) rfl k (.string ss[k]) (by rw [List.getElem?_map, List.getElem?_eq_getElem hk]; rfl)
    rw [addr_add0] at this
    rw [show (⟨g, 0 + k, none⟩ : Addr) = ⟨g, k, none⟩ by rw [Nat.zero_add]]; exact this
theorem Fresh.strs {w w' : World} {v : Value} {ss : List ByteArray} (h : Fresh w w' v ss) : StrsAt w' v ss := by
  obtain ⟨g, cap, rfl, h⟩ := h; exact strs_of_row h
theorem row_below {W W' : World} {base e size n : Nat} {v : Value} {xs : List Value} (h : W.ownsRow base e size v n xs) (hb : Below W.heap.size W W') : W'.ownsRow base e size v n xs :=
  h.kept (row := none) ⟨hb.os, hb.tape, hb.output, hb.size, fun k hk _ => hb.block k hk⟩ (by
    cases hv : v.ownBlock with
    | none => exact .inl rfl
    | some k => exact .inr (by simp))

set_option maxHeartbeats 2000000 in
set_option maxRecDepth 100000 in
theorem fresh_some (b o c : Nat) (ss : List ByteArray) (w : World) (hb : b < w.heap.size) (hm : Small ss)
    (hc : ∀ k (h : k < ss.length), w.cell? ⟨b, o + k, none⟩ = some (.string ss[k])) :
    Calls Try.prog 41 #[.slice (some ⟨b, o, none⟩) ss.length c] w fun e w' => ∃ v, e = .returned v ∧ Fresh w w' v ss ∧ Below w.heap.size w w' := by
  obtain ⟨i0, hi, hz0, hz1, hz2⟩ := info_parts Try.infoStr
  have hl := hm.1
  have HC := Lib.hid hc
  have HM := Lib.hid hm.2
  clear hc hm
  go_enter Try.func41, Try.ntmps41
  go_wp2_with (at_make; refine wpList_make_own _ rfl _ _ 22 rfl w.heap.size 9 i0 (.string ⟨#[]⟩) 1 Try.underlying22 hi hz0 hz1 .i64 .i64 _ ss.length rfl rfl rfl (by rw [hz2]; omega) (by unfold maxLen; omega) (by simp) ?_; intro w1 hown1 hgrow1)
  have hB1 : Below w.heap.size w w1 := (Below.refl _ w).grown hgrow1 (Nat.le_refl _) (fun k e => by cases e)
  have HO : Hid (∃ cap, (Value.slice (some ⟨w.heap.size, 0, none⟩) 0 ss.length) = .slice (some ⟨w.heap.size, 0, none⟩) 0 cap ∧ w1.ownsRow w.heap.size 9 1 (.slice (some ⟨w.heap.size, 0, none⟩) 0 ss.length) 0 (cellsL (ss.take 0))) := Lib.hid ⟨_, rfl, hown1⟩
  clear hown1 hgrow1
  go_wp2
  go_loopw [3, 11] (fun u i wr => ∃ k : Nat, k ≤ ss.length ∧ i = .int .i64 k ∧ (∃ g cap, u = .slice (some ⟨g, 0, none⟩) k cap) ∧ Hid (wr.ownsRow w.heap.size 9 1 u k (cellsL (ss.take k))) ∧ Below w.heap.size w wr) (fun _ i _ => ss.length - (intOf i).toNat)
  case atStart =>
    obtain ⟨cap, hcap, ho⟩ := HO.out
    exact ⟨0, Nat.zero_le _, rfl, ⟨_, _, rfl⟩, Lib.hid ho, hB1⟩
  case round =>
    obtain ⟨k, hk, rfl, ⟨g, cap, rfl⟩, hrow, hbel⟩ := hrel
    by_cases hlt : k < ss.length
    · have hc0 := (hbel.cell (p := ⟨b, o + k, none⟩) hb).trans (HC.out k hlt)
      have hsz := HM.out ss[k] (List.getElem_mem hlt)
      have htk : Hid (cellsL (ss.take (k + 1)) = cellsL (ss.take k) ++ [.string ss[k]]) := Lib.hid (by
        rw [List.take_succ_eq_append_getElem hlt, cellsL, List.map_append]; rfl)
      generalize ss[k] = s at *
      go_wp2_with (first
        | (go_at_call 58; refine (clone_any _ _ (by omega)).mono ?_; rintro e w2 ⟨rfl, hb2⟩; have hbel2 := hbel.trans (hb2.mono hbel.size); have hrow2 := Lib.hid (row_below hrow.out hb2); have hs2 := hbel2.size)
        | (at_builtin; refine wpList_append_own _ rfl _ _ 22 rfl w.heap.size 9 i0 (.string ⟨#[]⟩) 1 16 Try.underlying22 hi hz0 hz1 hz2 rfl (by decide) _ _ _ rfl (hrow2.out.alloc _) ⟨w2.heap.size, 0, none⟩ 1 1 [.string s] rfl rfl (cell_one_new _ _ _) (by simp [Value.oneCell']) (by unfold maxLen; omega) (by omega) (by simp; omega) ?_; intro v' w3 hown3 hgrow3 _; obtain ⟨g', cap', rfl⟩ := ownsRow_succ hown3))
      have hbel3 : Below w.heap.size w w3 := (hbel2.alloc hs2 _).grown hgrow3 (by simp; omega) (fun k e => (hrow2.out.lt k e).1)
      have HO3 := Lib.hid (show w3.ownsRow w.heap.size 9 1 (.slice (some ⟨g', 0, none⟩) (k + 1) cap') (k + 1) (cellsL (ss.take (k + 1))) by rw [htk.out]; exact hown3)
      go_roundw
      case rel => exact ⟨k + 1, by omega, by go_num, ⟨_, _, rfl⟩, HO3, hbel3⟩
      case measure => simp [intOf]; omega
    · obtain rfl : k = ss.length := by omega
      have HR : Hid (Fresh w wr (.slice (some ⟨g, 0, none⟩) ss.length cap) ss) := Lib.hid ⟨g, cap, rfl, by have := hrow.out; rwa [List.take_length] at this⟩
      go_wp2
      go_ret
      exact ret_ex ⟨HR.out, hbel⟩

set_option maxHeartbeats 2000000 in
theorem fresh_nil (a : Option Addr) (c : Nat) (w : World) :
    Calls Try.prog 41 #[.slice a 0 c] w fun e w' => ∃ v, e = .returned v ∧ Fresh w w' v [] ∧ Below w.heap.size w w' := by
  obtain ⟨i0, hi, hz0, hz1, hz2⟩ := info_parts Try.infoStr
  go_enter Try.func41, Try.ntmps41
  go_wp2_with (at_make; refine wpList_make_own _ rfl _ _ 22 rfl w.heap.size 9 i0 (.string ⟨#[]⟩) 1 Try.underlying22 hi hz0 hz1 .i64 .i64 _ 0 rfl rfl rfl (by omega) (by unfold maxLen; omega) (by simp) ?_; intro w1 hown1 hgrow1)
  have hB1 : Below w.heap.size w w1 := (Below.refl _ w).grown hgrow1 (Nat.le_refl _) (fun k e => by cases e)
  go_wp2
  refine wp_loop_rounds 1 ?_
  rw [rounds_succ]
  go_wp2
  go_ret
  exact ret_ex ⟨⟨_, _, rfl, hown1⟩, hB1⟩

theorem fresh_any (v : Value) (ss : List ByteArray) (w : World) (h : StrsAt w v ss) (hm : Small ss) :
    Calls Try.prog 41 #[v] w fun e w' => ∃ v', e = .returned v' ∧ Fresh w w' v' ss ∧ Below w.heap.size w w' := by
  rcases h with ⟨a, c, rfl, rfl⟩ | ⟨b, o, c, rfl, _, hb, hc⟩
  · exact fresh_nil a c w
  · exact fresh_some b o c ss w hb hm hc

/-! ### concat -/
def concE (p q : List ByteArray) : Int := if 8 < p.length + q.length then 3 else 0
def concP (p q : List ByteArray) : List ByteArray := if 8 < p.length + q.length then [] else p ++ q

set_option maxHeartbeats 2000000 in
theorem concat_any (v1 v2 : Value) (p q : List ByteArray) (w : World) (h1 : StrsAt w v1 p) (h2 : StrsAt w v2 q) (m1 : Small p) (m2 : Small q) :
    Calls Try.prog 53 #[v1, v2] w fun e w' => ∃ v, e = .returned (.tuple #[v, .int .i64 (concE p q)]) ∧ StrsAt w' v (concP p q) ∧ Below w.heap.size w w' := by
  obtain ⟨i0, hi, hz0, hz1, hz2⟩ := info_parts Try.infoStr
  have H1 := Lib.hid h1
  have H2 := Lib.hid h2
  have HM1 := Lib.hid m1
  have HM2 := Lib.hid m2
  have l1 := m1.1
  have l2 := m2.1
  obtain ⟨a1, c1, rfl⟩ := h1.shape
  obtain ⟨a2, c2, rfl⟩ := h2.shape
  clear h1 h2 m1 m2
  by_cases h8 : 8 < p.length + q.length
  · have HE := Lib.hid (show concE p q = 3 by unfold concE; rw [if_pos h8])
    have HP := Lib.hid (show concP p q = [] by unfold concP; rw [if_pos h8])
    have h8' : (8 : Int) < (p.length : Int) + (q.length : Int) := by omega
    clear h8
    go_enter Try.func53, Try.ntmps53
    go_wp2
    go_ret2
    exact ⟨.slice none 0 0, by rw [HE.out]; rfl, by rw [HP.out]; exact .inl ⟨_, _, rfl, rfl⟩, Below.refl _ _⟩
  · have HE := Lib.hid (show concE p q = 0 by unfold concE; rw [if_neg h8])
    have HP := Lib.hid (show concP p q = p ++ q by unfold concP; rw [if_neg h8])
    have h8' : ¬ (8 : Int) < (p.length : Int) + (q.length : Int) := by omega
    have hle : p.length + q.length ≤ 8 := by omega
    clear h8
    go_enter Try.func53, Try.ntmps53
    go_wp2_with fail
    refine (fresh_any _ p _ H1.out HM1.out).mono ?_
    rintro e w1 ⟨u1, rfl, hf1, hb1⟩
    obtain ⟨g1, d1, rfl, ho1⟩ := hf1
    have H2' := Lib.hid (H2.out.below hb1)
    have HO1 := Lib.hid ho1
    clear ho1
    go_wp2_with fail
    refine (fresh_any _ q _ H2'.out HM2.out).mono ?_
    rintro e w2 ⟨u2, rfl, hf2, hb2⟩
    obtain ⟨g2, d2, rfl, ho2⟩ := hf2
    have HO2 := Lib.hid (row_below HO1.out hb2)
    have hs1 := hb1.size
    have hs2 := hb2.size
    have hbb : Below w.heap.size w w2 := hb1.trans (hb2.mono hs1)
    have hcl := fun j u h => ho2.cells (g := g2) rfl j u h
    clear ho2
    go_wp2_with (at_builtin; refine wpList_append_own _ rfl _ _ 22 rfl w.heap.size 9 i0 (.string ⟨#[]⟩) 1 16 Try.underlying22 hi hz0 hz1 hz2 rfl (by decide) _ _ _ rfl HO2.out ⟨g2, 0, none⟩ q.length d2 (cellsL q) rfl (by simp) hcl (by intro u hu; obtain ⟨s, _, rfl⟩ := List.mem_map.1 hu; rfl) (by unfold maxLen; omega) (by omega) (by omega) ?_; intro v' w3 hown3 hgrow3 _)
    have hb3 : Below w.heap.size w w3 := hbb.grown hgrow3 (by omega) (fun k e => (HO2.out.lt k e).1)
    have HR : Hid (StrsAt w3 v' (p ++ q)) := Lib.hid (strs_of_row (base := w.heap.size) (by rw [List.length_append]; show w3.ownsRow _ _ _ _ _ (cellsL (p ++ q)); rw [cellsL, List.map_append]; exact hown3))
    obtain ⟨a', c', rfl⟩ := HR.out.shape
    clear hown3
    go_wp2
    go_ret2
    exact ⟨.slice a' (p ++ q).length c', by rw [HE.out]; rfl, by rw [HP.out]; exact HR.out, hb3⟩
end Go.Proofs.Ytbgfeonlnhlbfaa
