/- Pad. (The seat with cards.) -/
import Derived.Test.YtnocmkjaifjgfaaDoorRPad2
namespace Go.Proofs.YtnocmkjaifjgfaaDoor.R
open Go.RowKit

def padE (l : List UInt8) (n : Nat) : Nat := if n < 1 ∨ 4000 < n then 7 else if n ≤ l.length then 3 else 0
def padL (l : List UInt8) (n : Nat) : List UInt8 := if padE l n = 0 then l ++ 1 :: List.replicate (n - l.length - 1) 0 else []
theorem pad_drop (n k : Nat) (h : k < n) : (Lib.byteCells (List.replicate n 0)).drop k = .int .u8 0 :: Lib.byteCells (List.replicate (n - k - 1) 0) := by
  unfold Lib.byteCells
  rw [← List.map_drop, List.drop_replicate, show n - k = (n - k - 1) + 1 from by omega, List.replicate_succ]
  simp
theorem pad_splice (l : List UInt8) (n : Nat) (h : l.length < n) : splice (Lib.byteCells (List.replicate n 0)) 0 (Lib.byteCells l) = Lib.byteCells l ++ .int .u8 0 :: Lib.byteCells (List.replicate (n - l.length - 1) 0) := by
  unfold splice
  rw [List.take_zero, List.nil_append, Nat.zero_add, show (Lib.byteCells l).length = l.length by simp [Lib.byteCells], pad_drop n _ h]
theorem pad_row (l : List UInt8) (n : Nat) (h : l.length < n) : (splice (Lib.byteCells (List.replicate n 0)) 0 (Lib.byteCells l)).toArray.setIfInBounds l.length (.int .u8 1) = (Lib.byteCells (l ++ 1 :: List.replicate (n - l.length - 1) 0)).toArray := by
  rw [pad_splice l n h]
  apply Array.ext'
  have e : (Lib.byteCells l).length = l.length := by simp [Lib.byteCells]
  rw [List.setIfInBounds_toArray, List.set_append_right _ _ (by omega), e, Nat.sub_self]
  simp [Lib.byteCells]

theorem pad_cell {W : World} {g : Nat} (l : List UInt8) (n : Nat) (h : l.length < n) (hb : W.heap[g]? = some (.cells (splice (Lib.byteCells (List.replicate n 0)) 0 (Lib.byteCells l)).toArray 5 (0, 0))) :
    W.cell? ⟨g, l.length, none⟩ = some (.int .u8 0) ∧ W.frozen? ⟨g, l.length, none⟩ = false := by
  have hbk : Blk W g 5 (splice (Lib.byteCells (List.replicate n 0)) 0 (Lib.byteCells l)).toArray := hb
  have e : (Lib.byteCells l).length = l.length := by simp [Lib.byteCells]
  refine ⟨?_, hbk.frozen l.length⟩
  rw [hbk.cell, pad_splice l n h]
  simp [e]
theorem pad_set {W : World} {g : Nat} (l : List UInt8) (n : Nat) (h : l.length < n) (hb : W.heap[g]? = some (.cells (splice (Lib.byteCells (List.replicate n 0)) 0 (Lib.byteCells l)).toArray 5 (0, 0))) :
    Blk (W.setCell ⟨g, l.length, none⟩ (.int .u8 1)) g 5 (Lib.byteCells (l ++ 1 :: List.replicate (n - l.length - 1) 0)).toArray := by
  have hbk : Blk W g 5 (splice (Lib.byteCells (List.replicate n 0)) 0 (Lib.byteCells l)).toArray := hb
  have h2 := hbk.set_ l.length (.int .u8 1)
  rw [pad_row l n h] at h2
  exact h2
set_option maxHeartbeats 2000000 in
set_option maxRecDepth 100000 in
theorem pad_any (a : Option Addr) (d : Nat) (l : List UInt8) (n : Nat) (w : World) (hv : BytesAt w (.slice a l.length d) l) (hl : l.length ≤ 900000) (hn : n ≤ 900000) :
    Calls Tryd.prog 9 #[.slice a l.length d, .int .i64 n] w fun e w' => ∃ v, e = .returned (.tuple #[v, .int .i64 (padE l n : Nat)]) ∧ BytesAt w' v (padL l n) ∧ Below w.heap.size w w' := by
  have HV := Lib.hid hv
  have HL := Lib.hid (show padL l n = if padE l n = 0 then l ++ 1 :: List.replicate (n - l.length - 1) 0 else [] from rfl)
  clear hv
  by_cases h1 : n < 1
  · have d1 : decide ((n : Int) < 1) = true := decide_eq_true (by omega)
    have HE := Lib.hid (show padE l n = 7 by unfold padE; rw [if_pos (.inl h1)])
    clear h1
    go_enter Tryd.func9, Tryd.ntmps9
    go_wp2_with fail
    go_ret2
    exact ⟨_, by rw [HE.out]; rfl, by rw [HL.out, if_neg (by rw [HE.out]; decide)]; exact BytesAt.none_ _ _, Below.refl _ _⟩
  have d1 : decide ((n : Int) < 1) = false := decide_eq_false (by omega)
  by_cases h2 : 4000 < n
  · have d2 : decide ((4000 : Int) < n) = true := decide_eq_true (by omega)
    have HE := Lib.hid (show padE l n = 7 by unfold padE; rw [if_pos (.inr h2)])
    clear h2
    go_enter Tryd.func9, Tryd.ntmps9
    go_wp2_with fail
    go_ret2
    exact ⟨_, by rw [HE.out]; rfl, by rw [HL.out, if_neg (by rw [HE.out]; decide)]; exact BytesAt.none_ _ _, Below.refl _ _⟩
  have d2 : decide ((4000 : Int) < n) = false := decide_eq_false (by omega)
  by_cases h3 : n ≤ l.length
  · have d3 : decide (n ≤ l.length) = true := decide_eq_true (by omega)
    have HE := Lib.hid (show padE l n = 3 by unfold padE; rw [if_neg (by omega), if_pos h3])
    clear h3
    go_enter Tryd.func9, Tryd.ntmps9
    go_wp2_with fail
    go_ret2
    exact ⟨_, by rw [HE.out]; rfl, by rw [HL.out, if_neg (by rw [HE.out]; decide)]; exact BytesAt.none_ _ _, Below.refl _ _⟩
  have d3 : decide (n ≤ l.length) = false := decide_eq_false (by omega)
  have HE := Lib.hid (show padE l n = 0 by unfold padE; rw [if_neg (by omega), if_neg h3])
  have hln : l.length < n := by omega
  have hmk := run_make_bytes n (by omega) w
  have HBL := Lib.hid (heap_alloc_new w (.cells (Lib.byteCells (List.replicate n 0)).toArray 5 (0, 0)))
  have HA := Lib.hid ((Below.refl w.heap.size w).alloc (Nat.le_refl _) (.cells (Lib.byteCells (List.replicate n 0)).toArray 5 (0, 0)))
  have hsz1 : (Tryd.prog.info? 5).map (·.size) = some 1 := by kernel_rfl
  have HSZ := Lib.hid hsz1
  have hcl : (Lib.byteCells l).length = l.length := by simp [Lib.byteCells]
  have HCL := Lib.hid hcl
  have HPO := Lib.hid (show 0 < (Lib.byteCells l).length → (some (⟨w.heap.size, 0, none⟩ : Addr)) = some ⟨w.heap.size, 0, none⟩ ∧ ∃ ad, a = some ad ∧ ∀ j v, (Lib.byteCells l)[j]? = some v → (w.alloc (.cells (Lib.byteCells (List.replicate n 0)).toArray 5 (0, 0))).cell? (ad.add j) = some v from fun h0 => by
    rw [hcl] at h0
    obtain ⟨g, o, rfl, hg⟩ := bytes_some2 HV.out h0
    refine ⟨rfl, _, rfl, fun j v hj => ?_⟩
    rcases srcBytes (HV.out.below HA.out (Nat.le_refl _)) with ⟨a', c, h1, h2, h3⟩ | ⟨g2, o2, c, hva, _, _, hcs⟩
    · rw [h2] at h0; omega
    · injection hva with h1
      injection h1 with h1
      rw [h1, addr_add]
      exact (hcs j v hj).1)
  clear h3 hsz1 hcl
  go_enter Tryd.func9, Tryd.ntmps9
  go_wp2_with (refine wpList_copy_splice (by rfl) _ _ _ _ (by rfl) 5 Tryd.underlying22 HSZ.out (some ⟨w.heap.size, 0, none⟩) a n n l.length d (by rfl) (by rfl) w.heap.size 0 (Lib.byteCells (List.replicate n 0)) 5 HBL.out (Lib.byteCells l) (by rw [HCL.out]; exact (Nat.min_eq_left (by omega)).symm) HPO.out (by rw [HCL.out]; simp [Lib.byteCells]; omega) (by intro v hv; unfold Lib.byteCells at hv; obtain ⟨c, _, rfl⟩ := List.mem_map.1 hv; rfl) w.heap.size w HA.out (Nat.le_refl _) ?_; intro w2 hw2 hb2; rw [HCL.out]; have hc2 := (pad_cell l n hln hw2.out).1; have hf2 := (pad_cell l n hln hw2.out).2; have HBF := Lib.hid (pad_set l n hln hw2.out); have HB2 := Lib.hid hb2; have HK := Lib.hid ((Kept.refl (fun k => k = w.heap.size) w2).setCell ⟨w.heap.size, l.length, none⟩ (.inl rfl) (.int .u8 1)); clear hw2 hb2)
  go_ret2
  refine ⟨.slice (some ⟨w.heap.size, 0, none⟩) n n, by rw [HE.out]; rfl, ?_, HB2.out.trans (HK.out.toBelow HB2.out.size (fun k hk e => by omega))⟩
  rw [HL.out, if_pos HE.out]
  have hlen : (l ++ 1 :: List.replicate (n - l.length - 1) 0).length = n := by simp; omega
  refine .inr ⟨w.heap.size, 0, n, by rw [hlen], HBF.out.lt, fun k hk => ?_⟩
  rw [HBF.out.cell, Nat.zero_add, List.getElem?_toArray]
  unfold Lib.byteCells
  rw [List.getElem?_map, List.getElem?_eq_getElem hk]
  rfl
end Go.Proofs.YtnocmkjaifjgfaaDoor.R
