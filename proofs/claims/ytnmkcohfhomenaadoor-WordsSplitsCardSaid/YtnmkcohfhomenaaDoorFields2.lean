/- The iterator of a line's fields, where a field begins. -/
import Derived.Test.YtnmkcohfhomenaaDoorFields
namespace Go.Proofs.YtnmkcohfhomenaaDoor
open Go.RowKit

theorem blk_set0 {w : World} {b t : Nat} {x y : Value} (h : w.heap[b]? = some (.cells #[x, y] t (0, 0))) (u : Value) : (w.setCell ⟨b, 0, none⟩ u).heap[b]? = some (.cells #[u, y] t (0, 0)) := by
  simp [World.setCell, Array.getElem?_modify, h]
theorem blk_set1 {w : World} {b t : Nat} {x y : Value} (h : w.heap[b]? = some (.cells #[x, y] t (0, 0))) (u : Value) : (w.setCell ⟨b, 1, none⟩ u).heap[b]? = some (.cells #[x, u] t (0, 0)) := by
  simp [World.setCell, Array.getElem?_modify, h]
theorem kset (bf j : Nat) (u : Value) (w : World) : Kept (· = bf) w (w.setCell ⟨bf, j, none⟩ u) := Kept.setCell (X := (· = bf)) (Kept.refl _ w) ⟨bf, j, none⟩ rfl u
theorem frz {w : World} {b t : Nat} {cs : Array Value} (h : w.heap[b]? = some (.cells cs t (0, 0))) (j : Nat) : w.frozen? ⟨b, j, none⟩ = false := Lib.frozen_of_heap h j
theorem Env.set {w : World} {b j : Nat} (h : Env w) (hb : 9 ≤ b) (u : Value) : Env (w.setCell ⟨b, j, none⟩ u) :=
  h.below (B := 9) ((Below.refl 9 w).setCell (p := ⟨b, j, none⟩) hb u) (Nat.le_refl _)
theorem blk_below {w w' : World} {b : Nat} {o : Obj} (h : w.heap[b]? = some o) (hb : Below w.heap.size w w') : w'.heap[b]? = some o := (hb.block b (bf_lt h)).trans h

set_option maxHeartbeats 4000000 in
set_option maxRecDepth 100000 in
theorem tail1 (n : Nat) (hn : 3 ≤ n) (line : List UInt8) (l B bf : Nat) (J Jx : List Fld → World → Prop) (hSt : Stays (· = bf) J) (hbf9 : 9 ≤ bf) (hY : Yields line n l bf J Jx) (a : Act) (w : World) (hR : R1 line l B bf J a w) :
    (xc 1).wpIn Fence.wide n Tryd.prog (jumps sc (fun l' a' w' => RR line l B bf J l' a' w' ∧ mu l' a' w' < mu 1 a w) (bodyPost Tryd.prog Tryd.f73 (Ends line J Jx))) a w := by
  obtain ⟨t, pre, ⟨u2, u4, u6, u7, u8, u9, u10, u11, u12, u13, u14, u15, u16, u17, u18, u19, u20, u21, u22, u23, u24, u25, u26, u27, u28, u29, u30, u31, u32, u33, u34, u35, u36, u37, u38, u39, u40, u41, u42, u43, u44, u45, u46, u47, u48, rfl⟩, hs, hts, hJ, hE, v, q, hb⟩ := hR
  have HS := Lib.hid hs
  clear hs
  have hbf := bf_lt hb
  have hbb := hb
  have HB := Lib.hid hb
  clear hb
  by_cases hp : Lib.hasPrefix t.data.toList [34] = true
  · simp only [xc, sc, Tryd.f73, findLabel, beq_iff_eq, Nat.reduceBEq, reduceIte, Nat.reduceEqDiff, Bool.false_eq_true, if_false, if_true]
    gi_wp2_with fail
    refine ⟨trivial, fun _ => by omega, (callsIn_wide.2 (Tryd.strings_HasPrefix _ _ _)).mono ?_⟩
    rintro e w' ⟨rfl, rfl⟩
    gi_wp2
    refine wpIn_goto ?_
    refine ⟨⟨_, rfl⟩, ⟨t, pre, ⟨_, _, _, _, _, _, _, _, _, _, _, _, _, _, _, _, _, _, _, _, _, _, _, _, _, _, _, _, _, _, _, _, _, _, _, _, _, _, _, _, _, _, _, _, _, rfl⟩, hp, HS.out, hts, hJ, hE, _, _, HB.out⟩, ?_⟩
    show 3 * t.size + 1 < 3 * t.size + 2
    omega
  · have hp' : Lib.hasPrefix t.data.toList [34] = false := by simpa using hp
    clear hp
    have hf1 := frz hbb 1
    have hc1 := cell1 hbb
    clear hbb
    have hb1 := blk_set1 HB.out (.bool false)
    have HB1 := Lib.hid hb1
    have hE1 := hE.set (j := 1) hbf9 (.bool false)
    have hsz1 : bf < (w.setCell ⟨bf, 1, none⟩ (.bool false)).heap.size := bf_lt hb1
    clear hb1
    simp only [xc, sc, Tryd.f73, findLabel, beq_iff_eq, Nat.reduceBEq, reduceIte, Nat.reduceEqDiff, Bool.false_eq_true, if_false, if_true]
    gi_wp2_with fail
    refine ⟨trivial, fun _ => by omega, (callsIn_wide.2 (Tryd.strings_HasPrefix _ _ _)).mono ?_⟩
    rintro e w' ⟨rfl, rfl⟩
    gi_wp2_with fail
    obtain ⟨o, ho⟩ : ∃ o, cutB t.data.toList = o := ⟨_, rfl⟩
    have hc := cutBare_any t (w'.setCell ⟨bf, 1, none⟩ (.bool false)) (by omega)
    rw [ho] at hc
    have hcf : cutF t.data.toList = (false, o) := by unfold cutF; rw [hp', ho]; rfl
    have hHC := Lib.hid hc
    clear hc ho
    refine ⟨trivial, fun _ => by omega, (callsIn_wide.2 hHC.out).mono ?_⟩
    clear hHC
    rintro e W2 ⟨rfl, hB2⟩
    have hb2 := blk_below HB1.out hB2
    have HB2 := Lib.hid hb2
    have hf2 := frz hb2 0
    have hc2 := cell0 hb2
    have hlt2 := bf_lt hb2
    have hE2 := hE1.below hB2 hE1.nine
    have hJ2 : J pre W2 := hSt _ _ _ hJ ((kset _ _ _ _).below hB2)
    clear hb2
    cases o with
    | none =>
      unfold cutV
      gi_wp2
      refine wpIn_goto ?_
      refine ⟨⟨_, rfl⟩, ⟨⟨#[]⟩, false, pre, ⟨_, _, _, _, _, _, _, _, _, _, _, _, _, _, _, _, _, _, _, _, _, _, _, _, _, _, _, _, _, _, _, _, _, _, _, _, _, _, _, _, _, _, _, _, rfl⟩, by decide, hSt _ _ _ hJ2 (kset _ _ _ _), hE2.set hbf9 _, _, _, blk_set0 HB2.out _, .inl ⟨rfl, ?_⟩⟩, ?_⟩
      · rw [HS.out, goL_none _ _ hcf]
      · show 3 * 0 < 3 * t.size + 2
        omega
    | some o =>
      obtain ⟨b, r⟩ := o
      have hrl := cutF_len _ _ _ _ hcf
      rw [size_len] at hrl
      unfold cutV
      gi_wp2
      refine wpIn_goto ?_
      refine ⟨⟨_, rfl⟩, ⟨⟨r.toArray⟩, true, pre, ⟨_, _, _, _, _, _, _, _, _, _, _, _, _, _, _, _, _, _, _, _, _, _, _, _, _, _, _, _, _, _, _, _, _, _, _, _, _, _, _, _, _, _, _, _, rfl⟩, ?_, hSt _ _ _ hJ2 (kset _ _ _ _), hE2.set hbf9 _, _, _, blk_set0 HB2.out _, .inr ⟨rfl, ?_⟩⟩, ?_⟩
      · show r.length ≤ 8192
        omega
      · rw [HS.out, goL_some _ _ _ _ hcf]
      · show 3 * r.length < 3 * t.size + 2
        omega

set_option maxHeartbeats 4000000 in
set_option maxRecDepth 100000 in
theorem tail0 (n : Nat) (hn : 3 ≤ n) (line : List UInt8) (l B bf : Nat) (J Jx : List Fld → World → Prop) (hSt : Stays (· = bf) J) (hbf9 : 9 ≤ bf) (hY : Yields line n l bf J Jx) (a : Act) (w : World) (hR : R0 line l B bf J a w) :
    (xc 0).wpIn Fence.wide n Tryd.prog (jumps sc (fun l' a' w' => RR line l B bf J l' a' w' ∧ mu l' a' w' < mu 0 a w) (bodyPost Tryd.prog Tryd.f73 (Ends line J Jx))) a w := by
  obtain ⟨t, pre, ⟨u2, u4, u6, u7, u8, u9, u10, u11, u12, u13, u14, u15, u16, u17, u18, u19, u20, u21, u22, u23, u24, u25, u26, u27, u28, u29, u30, u31, u32, u33, u34, u35, u36, u37, u38, u39, u40, u41, u42, u43, u44, u45, u46, u47, u48, rfl⟩, hp, hs, hts, hJ, hE, v, q, hb⟩ := hR
  have HS := Lib.hid hs
  clear hs
  have hbf := bf_lt hb
  have HB := Lib.hid hb
  have hf1 := frz hb 1
  have hc1 := cell1 hb
  have hb1 := blk_set1 HB.out (.bool true)
  have HB1 := Lib.hid hb1
  have hE1 := hE.set (j := 1) hbf9 (.bool true)
  have hsz1 : bf < (w.setCell ⟨bf, 1, none⟩ (.bool true)).heap.size := bf_lt hb1
  clear hb1 hb
  simp only [xc, sc, Tryd.f73, findLabel, beq_iff_eq, Nat.reduceBEq, reduceIte, Nat.reduceEqDiff, Bool.false_eq_true, if_false, if_true]
  gi_wp2_with fail
  obtain ⟨o, ho⟩ : ∃ o, cutQ t.data.toList = o := ⟨_, rfl⟩
  have hc := cutQuoted_any t (w.setCell ⟨bf, 1, none⟩ (.bool true)) hE1 (by omega)
  rw [ho] at hc
  have hcf : cutF t.data.toList = (true, o) := by unfold cutF; rw [hp, ho]; rfl
  have hHC := Lib.hid hc
  clear hc ho
  refine ⟨trivial, fun _ => by omega, (callsIn_wide.2 hHC.out).mono ?_⟩
  clear hHC
  rintro e W2 ⟨rfl, hB2⟩
  have hb2 := blk_below HB1.out hB2
  have HB2 := Lib.hid hb2
  have hf2 := frz hb2 0
  have hc2 := cell0 hb2
  have hlt2 := bf_lt hb2
  have hE2 := hE1.below hB2 hE1.nine
  have hJ2 : J pre W2 := hSt _ _ _ hJ ((kset _ _ _ _).below hB2)
  clear hb2
  have key : ∀ a2 w2, R2 line l B bf J a2 w2 → mu 2 a2 w2 ≤ 3 * t.size → (xc 2).wpIn Fence.wide n Tryd.prog (jumps sc (fun l' a' w' => RR line l B bf J l' a' w' ∧ mu l' a' w' < 3 * t.size + 1) (bodyPost Tryd.prog Tryd.f73 (Ends line J Jx))) a2 w2 := fun a2 w2 h2 hm => by
    refine wpIn_mono (tail2 n hn line l B bf J Jx hY a2 w2 h2) ?_
    intro e a3 w3 hq
    cases e with
    | goto l' => exact ⟨hq.1, hq.2.1, by have := hq.2.2; omega⟩
    | _ => exact hq
  cases o with
  | none =>
    unfold cutV
    gi_wp2_with fail
    refine wpIn_label ?_
    refine (by assumption : ∀ (a : Act) (w : World), _ → _) _ _ ?_
    refine key _ _ ⟨⟨#[]⟩, false, pre, ⟨_, _, _, _, _, _, _, _, _, _, _, _, _, _, _, _, _, _, _, _, _, _, _, _, _, _, _, _, _, _, _, _, _, _, _, _, _, _, _, _, _, _, _, _, rfl⟩, by decide, hSt _ _ _ hJ2 (kset _ _ _ _), hE2.set hbf9 _, _, _, blk_set0 HB2.out _, .inl ⟨rfl, ?_⟩⟩ ?_
    · rw [HS.out, goL_none _ _ hcf]
    · show 3 * 0 ≤ 3 * t.size
      omega
  | some o =>
    obtain ⟨b, r⟩ := o
    have hrl := cutF_len _ _ _ _ hcf
    rw [size_len] at hrl
    unfold cutV
    gi_wp2_with fail
    refine wpIn_label ?_
    refine (by assumption : ∀ (a : Act) (w : World), _ → _) _ _ ?_
    refine key _ _ ⟨⟨r.toArray⟩, true, pre, ⟨_, _, _, _, _, _, _, _, _, _, _, _, _, _, _, _, _, _, _, _, _, _, _, _, _, _, _, _, _, _, _, _, _, _, _, _, _, _, _, _, _, _, _, _, rfl⟩, ?_, hSt _ _ _ hJ2 (kset _ _ _ _), hE2.set hbf9 _, _, _, blk_set0 HB2.out _, .inr ⟨rfl, ?_⟩⟩ ?_
    · show r.length ≤ 8192
      omega
    · rw [HS.out, goL_some _ _ _ _ hcf]
    · show 3 * r.length ≤ 3 * t.size
      omega
end Go.Proofs.YtnmkcohfhomenaaDoor
