/- Sector, New, Check, on both sides. -/
import Derived.Test.YtkknelcolbdphaaReg
namespace Go.Proofs.Ytkknelcolbdphaa
open Go.RowKit
set_option maxRecDepth 100000

theorem ret_two {a b x y : Int} (h : a = b) (k : x = y) : Ending.returned (.tuple #[.int .i64 a, .int .i64 x]) = .returned (.tuple #[.int .i64 b, .int .i64 y]) := by rw [h, k]
def dataN (l : Lay) : Int := 2 + l.j + l.n
def secE (l : Lay) (b : Int) : Int := if regE l = 0 then (if inB b 0 (blkN l - 1) then 0 else 7) else regE l
def secV (l : Lay) (b : Int) : Int := if secE l b = 0 then dataN l + b else 0
def SecPost (l : Lay) (b : Int) (w : World) (e : Ending) (w' : World) : Prop := e = .returned (.tuple #[.int .i64 (secV l b), .int .i64 (secE l b)]) ∧ Below w.heap.size w w'
theorem decB {E : Int} (h : E ≠ 0) : (E == 0) = false := by simpa using h
theorem reg_zero {l : Lay} (h : regE l = 0) : regA l = #[.int .i64 1, .int .i64 (1 + l.j), .int .i64 (2 + l.j), .int .i64 (dataN l), .int .i64 (blkN l)] := by unfold regA dataN; rw [if_pos h]
theorem dataN_ok {l : Lay} (h : regE l = 0) : 11 ≤ dataN l ∧ dataN l ≤ 158 ∧ 8 ≤ blkN l ∧ blkN l ≤ 245 ∧ dataN l + blkN l = l.s := by
  obtain ⟨ok, h8⟩ := regE_zero h
  have h1 := ok.s1
  have h2 := ok.j0
  have h3 := ok.n0
  have h4 := ok.j1
  have h5 := ok.n1
  unfold dataN blkN at *
  omega
set_option maxHeartbeats 1000000 in
theorem sector_any (l : Lay) (b : Int) (w : World) : Calls Try.prog 13 #[.agg (layA l), .int .i64 b] w (SecPost l b w) := by
  have HC := Lib.hid (regions_any l)
  have HI := Lib.hid isFrom_any
  have HB := Lib.hid ((Below.refl w.heap.size w).alloc (Nat.le_refl _) (.cells (layA l) 23 (0, 0)))
  by_cases h0 : regE l = 0
  · have HR := Lib.hid (reg_zero h0)
    have HZ := Lib.hid h0
    obtain ⟨k0, k1, k2, k3, k4⟩ := dataN_ok h0
    cases hb : inB b 0 (blkN l - 1) with
    | true =>
      have HE : Hid (secE l b = 0) := Lib.hid (by unfold secE; rw [if_pos h0, hb]; rfl)
      have HV : Hid (secV l b = dataN l + b) := Lib.hid (by unfold secV; rw [if_pos HE.out])
      have hbb := hb
      unfold inB at hbb
      rw [Bool.and_eq_true, decide_eq_true_eq, decide_eq_true_eq] at hbb
      obtain ⟨c0, c1⟩ := hbb
      generalize blkN l = N at *
      generalize dataN l = D at *
      clear k4
      clear h0
      unfold layA at *
      go_enter Try.func13, Try.ntmps13
      go_wp2_with fail
      refine (HC.out _).mono ?_
      rintro e w' ⟨rfl, hb'⟩
      rw [HR.out, HZ.out]
      have HB' := Lib.hid (HB.out.trans (hb'.mono (by simp)))
      clear hb'
      go_wp2_with fail
      refine (HI.out _ _ _ _).mono ?_
      rintro e w'' ⟨rfl, rfl⟩
      rw [hb]
      go_wp2_with fail
      go_ret2
      exact ⟨ret_two HV.out.symm HE.out.symm, HB'.out.alloc HB'.out.size _⟩
    | false =>
      have HE : Hid (secE l b = 7) := Lib.hid (by unfold secE; rw [if_pos h0, hb]; rfl)
      have HV : Hid (secV l b = 0) := Lib.hid (by unfold secV; rw [HE.out]; rfl)
      generalize blkN l = N at *
      generalize dataN l = D at *
      clear k4
      clear h0
      unfold layA at *
      go_enter Try.func13, Try.ntmps13
      go_wp2_with fail
      refine (HC.out _).mono ?_
      rintro e w' ⟨rfl, hb'⟩
      rw [HR.out, HZ.out]
      have HB' := Lib.hid (HB.out.trans (hb'.mono (by simp)))
      clear hb'
      go_wp2_with fail
      refine (HI.out _ _ _ _).mono ?_
      rintro e w'' ⟨rfl, rfl⟩
      rw [hb]
      go_wp2_with fail
      go_ret2
      exact ⟨ret_two HV.out.symm HE.out.symm, HB'.out.alloc HB'.out.size _⟩
  · have HR := Lib.hid (regA_no h0)
    have HE : Hid (secE l b = regE l) := Lib.hid (by unfold secE; rw [if_neg h0])
    have HV : Hid (secV l b = 0) := Lib.hid (by unfold secV; rw [HE.out, if_neg h0])
    obtain ⟨E, hE⟩ : ∃ E, regE l = E := ⟨_, rfl⟩
    rw [hE] at h0 HE
    have HZ := Lib.hid hE
    have hd := decB h0
    clear hE
    clear h0
    unfold layA at *
    go_enter Try.func13, Try.ntmps13
    go_wp2_with fail
    refine (HC.out _).mono ?_
    rintro e w' ⟨rfl, hb'⟩
    rw [HR.out, HZ.out]
    have HB' := Lib.hid (HB.out.trans (hb'.mono (by simp)))
    clear hb'
    go_wp2_with fail
    go_ret2
    exact ⟨ret_two HV.out.symm HE.out.symm, HB'.out.alloc HB'.out.size _⟩
set_option maxHeartbeats 1000000 in
theorem refSector_any (l : Lay) (b : Int) (w : World) : Calls Try.prog 14 #[.agg (layA l), .int .i64 b] w (SecPost l b w) := by
  have HC := Lib.hid (refRegions_any l)
  have HI := Lib.hid within_any
  have HB := Lib.hid ((Below.refl w.heap.size w).alloc (Nat.le_refl _) (.cells (layA l) 23 (0, 0)))
  by_cases h0 : regE l = 0
  · have HR := Lib.hid (reg_zero h0)
    have HZ := Lib.hid h0
    obtain ⟨k0, k1, k2, k3, k4⟩ := dataN_ok h0
    cases hb : inB b 0 (blkN l - 1) with
    | true =>
      have HE : Hid (secE l b = 0) := Lib.hid (by unfold secE; rw [if_pos h0, hb]; rfl)
      have HV : Hid (secV l b = dataN l + b) := Lib.hid (by unfold secV; rw [if_pos HE.out])
      have hbb := hb
      unfold inB at hbb
      rw [Bool.and_eq_true, decide_eq_true_eq, decide_eq_true_eq] at hbb
      obtain ⟨c0, c1⟩ := hbb
      generalize blkN l = N at *
      generalize dataN l = D at *
      clear k4
      clear h0
      unfold layA at *
      go_enter Try.func14, Try.ntmps14
      go_wp2_with fail
      refine (HC.out _).mono ?_
      rintro e w' ⟨rfl, hb'⟩
      rw [HR.out, HZ.out]
      have HB' := Lib.hid (HB.out.trans (hb'.mono (by simp)))
      clear hb'
      go_wp2_with fail
      refine (HI.out _ _ _ _).mono ?_
      rintro e w'' ⟨rfl, rfl⟩
      rw [hb]
      go_wp2_with fail
      go_ret2
      exact ⟨ret_two HV.out.symm HE.out.symm, HB'.out.alloc HB'.out.size _⟩
    | false =>
      have HE : Hid (secE l b = 7) := Lib.hid (by unfold secE; rw [if_pos h0, hb]; rfl)
      have HV : Hid (secV l b = 0) := Lib.hid (by unfold secV; rw [HE.out]; rfl)
      generalize blkN l = N at *
      generalize dataN l = D at *
      clear k4
      clear h0
      unfold layA at *
      go_enter Try.func14, Try.ntmps14
      go_wp2_with fail
      refine (HC.out _).mono ?_
      rintro e w' ⟨rfl, hb'⟩
      rw [HR.out, HZ.out]
      have HB' := Lib.hid (HB.out.trans (hb'.mono (by simp)))
      clear hb'
      go_wp2_with fail
      refine (HI.out _ _ _ _).mono ?_
      rintro e w'' ⟨rfl, rfl⟩
      rw [hb]
      go_wp2_with fail
      go_ret2
      exact ⟨ret_two HV.out.symm HE.out.symm, HB'.out.alloc HB'.out.size _⟩
  · have HR := Lib.hid (regA_no h0)
    have HE : Hid (secE l b = regE l) := Lib.hid (by unfold secE; rw [if_neg h0])
    have HV : Hid (secV l b = 0) := Lib.hid (by unfold secV; rw [HE.out, if_neg h0])
    obtain ⟨E, hE⟩ : ∃ E, regE l = E := ⟨_, rfl⟩
    rw [hE] at h0 HE
    have HZ := Lib.hid hE
    have hd := decB h0
    clear hE
    clear h0
    unfold layA at *
    go_enter Try.func14, Try.ntmps14
    go_wp2_with fail
    refine (HC.out _).mono ?_
    rintro e w' ⟨rfl, hb'⟩
    rw [HR.out, HZ.out]
    have HB' := Lib.hid (HB.out.trans (hb'.mono (by simp)))
    clear hb'
    go_wp2_with fail
    go_ret2
    exact ⟨ret_two HV.out.symm HE.out.symm, HB'.out.alloc HB'.out.size _⟩

/-! ### states -/
def stA (l : Lay) (v : Value) : Array Value := #[.int .i64 l.s, .int .i64 l.j, .int .i64 l.n, v]
abbrev zeroSt : Array Value := #[.int .i64 0, .int .i64 0, .int .i64 0, .slice none 0 0]
theorem Try.infoBool : (Try.prog.info? 4).map (fun i => (i.zero, i.size, i.bytes)) = some (some (.bool false), 1, 1) := by kernel_rfl
theorem run_make_bools (n : Nat) (hn : n ≤ 4000) (w : World) : (Instr.makeSlice 31 (.int .i64 (n : Int)) (.int .i64 (n : Int))).run Try.prog w = .ok (.slice (some ⟨w.heap.size, 0, none⟩) n n) (w.alloc (.cells (Array.replicate n (.bool false)) 4)) := by
  obtain ⟨i0, hi, hz0, hz1, hz2⟩ := info_parts Try.infoBool
  have h := run_make (P := Try.prog) (w := w) 31 4 i0 (.bool false) Try.underlying31 hi hz0 .i64 .i64 (n : Int) (n : Int) (by omega) (by omega) (by rw [hz2]; omega) (by omega)
  rw [h, Int.toNat_natCast, hz1, Nat.mul_one]
  have e : madeCells (Value.bool false).cells n = Array.replicate n (.bool false) := by
    apply Array.ext'
    show (madeCells #[.bool false] n).toList = _
    rw [toList_madeCells_one, Array.toList_replicate]
  rw [e]
/-- A row of bools in new memory. -/
abbrev OwnB (w : World) (base : Nat) (v : Value) (U : List Bool) : Prop := w.ownsRow base 4 1 v U.length (U.map Value.bool)
theorem own_row (w : World) (U : List Bool) (h : U.length ≤ 4000) : OwnB (w.alloc (.cells (U.map Value.bool).toArray 4)) w.heap.size (.slice (some ⟨w.heap.size, 0, none⟩) U.length U.length) U := by
  refine ⟨by simp, .inr ⟨w.heap.size, U.length, (U.map Value.bool).toArray, rfl, Nat.le_refl _, heap_alloc_new w _, Nat.le_refl _, by unfold maxLen; omega, by simp, ?_⟩⟩
  show (U.map Value.bool).take _ = _
  rw [List.take_of_length_le (by simp)]
theorem own_false (w : World) (n : Nat) (h : n ≤ 4000) : OwnB (w.alloc (.cells (Array.replicate n (.bool false)) 4)) w.heap.size (.slice (some ⟨w.heap.size, 0, none⟩) n n) (List.replicate n false) := by
  have h2 := own_row w (List.replicate n false) (by rw [List.length_replicate]; exact h)
  unfold OwnB at *
  rw [List.map_replicate, List.length_replicate, List.toArray_replicate] at h2
  rw [List.map_replicate, List.length_replicate]
  exact h2
theorem ret_st {l l' : Lay} {v : Value} {x y : Int} (h : l = l') (k : x = y) : Ending.returned (.tuple #[.agg (stA l v), .int .i64 x]) = .returned (.tuple #[.agg (stA l' v), .int .i64 y]) := by rw [h, k]
theorem OwnB.drew {w : World} {base : Nat} {v : Value} {U : List Bool} (h : OwnB w base v U) : OwnB w.drew base v U := World.ownsRow.drew h
theorem OwnB.sub {w : World} {base base' : Nat} {v : Value} {U : List Bool} (h : OwnB w base v U) (hb : base' ≤ base) : OwnB w base' v U := World.ownsRow.mono h hb
theorem OwnB.below {A B : World} {base n : Nat} {v : Value} {U : List Bool} (h : OwnB A base v U) (hk : Below n A B) (hn : A.heap.size ≤ n) : OwnB B base v U :=
  World.ownsRow.kept (row := none) h ⟨hk.os, hk.tape, hk.output, hk.size, fun k hk2 _ => hk.block k (by omega)⟩ (by
    cases hv : v.ownBlock with
    | none => exact .inl rfl
    | some k => exact .inr (by simp))
theorem ownB_nil (w : World) (base : Nat) : OwnB w base (.slice none 0 0) [] := World.ownsRow_nil _ _ _ _
theorem OwnB.at_ {w : World} {base : Nat} {v : Value} {U : List Bool} (h : OwnB w base v U) : BoolsAt w v U := rowAt_own h
def newE (l : Lay) : Int := regE l
def newU (l : Lay) : List Bool := if regE l = 0 then List.replicate (blkN l).toNat false else []
def newL (l : Lay) : Lay := if regE l = 0 then l else ⟨0, 0, 0⟩
/-- A new state and a number. -/
def StPost (l : Lay) (U : List Bool) (E : Int) (w : World) (e : Ending) (w' : World) : Prop := ∃ v, e = .returned (.tuple #[.agg (stA l v), .int .i64 E]) ∧ OwnB w' w.heap.size v U ∧ Below w.heap.size w w'
theorem box_new (l : Lay) (w : World) : ∃ w2, (w.alloc (.cells (layA l) 23 (0, 0))).alloc (.cells zeroSt 33 (0, 0)) = w2 ∧
    Row w2 w.heap.size (layA l) 23 ∧ Row w2 (w.heap.size + 1) zeroSt 33 ∧ Below w.heap.size w w2 := by
  refine ⟨_, rfl, (Row.new _ _ _).alloc _, ?_, ((Below.refl _ _).alloc (Nat.le_refl _) _).alloc (by simp) _⟩
  have := Row.new (w.alloc (.cells (layA l) 23 (0, 0))) zeroSt 33
  rwa [World.size_alloc] at this
theorem Row.sets4 {w : World} {b T : Nat} {x y z u : Value} (h : Row w b #[x, y, z, u] T) (x' y' z' u' : Value) :
    Row ((((w.setCell ⟨b, 0, none⟩ x').setCell ⟨b, 1, none⟩ y').setCell ⟨b, 2, none⟩ z').setCell ⟨b, 3, none⟩ u') b #[x', y', z', u'] T := (((h.set 0 x').set 1 y').set 2 z').set 3 u'
theorem below_sets4 {n : Nat} {A B : World} (h : Below n A B) (b : Nat) (hb : n ≤ b) (x' y' z' u' : Value) :
    Below n A ((((B.setCell ⟨b, 0, none⟩ x').setCell ⟨b, 1, none⟩ y').setCell ⟨b, 2, none⟩ z').setCell ⟨b, 3, none⟩ u') :=
  below_sets (below_sets (below_sets (below_sets h b hb 0 x') b hb 1 y') b hb 2 z') b hb 3 u'
theorem OwnB.sets4 {w : World} {base b : Nat} {v : Value} {U : List Bool} (h : OwnB w base v U) (hb : b < w.heap.size) (hv : ∀ g o n c, v = .slice (some ⟨g, o, none⟩) n c → b ≠ g) (x' y' z' u' : Value) :
    OwnB ((((w.setCell ⟨b, 0, none⟩ x').setCell ⟨b, 1, none⟩ y').setCell ⟨b, 2, none⟩ z').setCell ⟨b, 3, none⟩ u') base v U := by
  have hk : Kept (fun k => k = b) w ((((w.setCell ⟨b, 0, none⟩ x').setCell ⟨b, 1, none⟩ y').setCell ⟨b, 2, none⟩ z').setCell ⟨b, 3, none⟩ u') :=
    ((((Kept.refl (fun k => k = b) w).setCell ⟨b, 0, none⟩ rfl x').setCell ⟨b, 1, none⟩ rfl y').setCell ⟨b, 2, none⟩ rfl z').setCell ⟨b, 3, none⟩ rfl u'
  refine h.kept (row := some b) ⟨hk.os, hk.tape, hk.output, hk.size, fun k hk1 hk2 => hk.block k hk1 (fun e => hk2 (by rw [e]))⟩ ?_
  rcases h.2 with ⟨rfl, _⟩ | ⟨g, c, cur, rfl, _⟩
  · exact .inl rfl
  · right
    have := hv g 0 _ c rfl
    simp [Value.ownBlock]
    omega
end Go.Proofs.Ytkknelcolbdphaa
