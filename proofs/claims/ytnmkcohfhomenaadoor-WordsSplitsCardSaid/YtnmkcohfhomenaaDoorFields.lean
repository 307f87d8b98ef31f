/- The iterator of a line's fields: the closure that 'fields' returns. -/
import Derived.Test.YtnmkcohfhomenaaDoorFieldsS
namespace Go.Proofs.YtnmkcohfhomenaaDoor
open Go.RowKit

def At1 (l B bf : Nat) (a : Act) (t : ByteArray) : Prop := ∃ (u2 u4 u6 u7 u8 u9 u10 u11 u12 u13 u14 u15 u16 u17 u18 u19 u20 u21 u22 u23 u24 u25 u26 u27 u28 u29 u30 u31 u32 u33 u34 u35 u36 u37 u38 u39 u40 u41 u42 u43 u44 u45 u46 u47 u48 : Value), a = { tmps := #[.func (.yield l) #[] #[], .pointer (some ⟨B, 0, none⟩), u2, .pointer (some ⟨bf, 0, none⟩), u4, .string t, u6, u7, u8, u9, u10, u11, u12, u13, u14, u15, u16, u17, u18, u19, u20, u21, u22, u23, u24, u25, u26, u27, u28, u29, u30, u31, u32, u33, u34, u35, u36, u37, u38, u39, u40, u41, u42, u43, u44, u45, u46, u47, u48], defers := [] }
def At2 (l B bf : Nat) (a : Act) (t : ByteArray) (ok : Bool) : Prop := ∃ (u2 u6 u7 u8 u9 u10 u11 u12 u13 u14 u15 u16 u17 u18 u19 u20 u21 u22 u23 u24 u25 u26 u27 u28 u29 u30 u31 u32 u33 u34 u35 u36 u37 u38 u39 u40 u41 u42 u43 u44 u45 u46 u47 u48 : Value), a = { tmps := #[.func (.yield l) #[] #[], .pointer (some ⟨B, 0, none⟩), u2, .pointer (some ⟨bf, 0, none⟩), .bool ok, .string t, u6, u7, u8, u9, u10, u11, u12, u13, u14, u15, u16, u17, u18, u19, u20, u21, u22, u23, u24, u25, u26, u27, u28, u29, u30, u31, u32, u33, u34, u35, u36, u37, u38, u39, u40, u41, u42, u43, u44, u45, u46, u47, u48], defers := [] }

/-- Where a field begins: what is left is t. -/
def R1 (line : List UInt8) (l B bf : Nat) (J : List Fld → World → Prop) (a : Act) (w : World) : Prop :=
  ∃ t pre, At1 l B bf a t ∧ seqOf line = pre ++ goL t.data.toList ∧ t.size ≤ 8192 ∧ J pre w ∧ Env w ∧ (∃ v q, w.heap[bf]? = some (.cells #[.string v, .bool q] 50 (0, 0)))
def R0 (line : List UInt8) (l B bf : Nat) (J : List Fld → World → Prop) (a : Act) (w : World) : Prop :=
  ∃ t pre, At1 l B bf a t ∧ Lib.hasPrefix t.data.toList [34] = true ∧ seqOf line = pre ++ goL t.data.toList ∧ t.size ≤ 8192 ∧ J pre w ∧ Env w ∧ (∃ v q, w.heap[bf]? = some (.cells #[.string v, .bool q] 50 (0, 0)))
/-- Behind a field, or what is none. -/
def R2 (line : List UInt8) (l B bf : Nat) (J : List Fld → World → Prop) (a : Act) (w : World) : Prop :=
  ∃ t ok pre, At2 l B bf a t ok ∧ t.size ≤ 8192 ∧ J pre w ∧ Env w ∧ ∃ s q, w.heap[bf]? = some (.cells #[.string s, .bool q] 50 (0, 0)) ∧
    ((ok = false ∧ seqOf line = pre ++ [Fld.bad]) ∨ (ok = true ∧ seqOf line = pre ++ ⟨s.data.toList, q, true⟩ :: goR t.data.toList))

def RR (line : List UInt8) (l B bf : Nat) (J : List Fld → World → Prop) (k : Nat) (a : Act) (w : World) : Prop :=
  match k with
  | 0 => R0 line l B bf J a w
  | 1 => R1 line l B bf J a w
  | 2 => R2 line l B bf J a w
  | _ => False
def mu (k : Nat) (a : Act) (_ : World) : Nat := match k with
  | 0 => 3 * strLen (a.tmps.getD 5 undef) + 1
  | 1 => 3 * strLen (a.tmps.getD 5 undef) + 2
  | _ => 3 * strLen (a.tmps.getD 5 undef)

/-- The code of the scope, and behind its labels. -/
noncomputable def sc : Code := match Tryd.f73.body with | some (.scope c) => c | _ => .skip
noncomputable def xc (k : Nat) : Code := match findLabel sc k with | some (.seq .skip x) => x | _ => .skip

def Ends (line : List UInt8) (J Jx : List Fld → World → Prop) (e : Ending) (W' : World) : Prop :=
  (∃ v, e = .returned v) ∧ ((∃ xs, xs = seqOf line ∧ J xs W') ∨ (∃ pre, pre <+: seqOf line ∧ Jx pre W'))
def Yields (line : List UInt8) (n l bf : Nat) (J Jx : List Fld → World → Prop) : Prop :=
  ∀ pre x X, J pre X → bf < X.heap.size → (pre ++ [x]) <+: seqOf line → YieldAt Fence.wide (n - 1) Tryd.prog l x.encs X fun e X' =>
      (e = .returned (.bool true) ∧ J (pre ++ [x]) X' ∧ Kept (Free bf) X X') ∨ (e = .returned (.bool false) ∧ Jx (pre ++ [x]) X')

theorem bf_lt {w : World} {bf : Nat} {o : Obj} (h : w.heap[bf]? = some o) : bf < w.heap.size := (Array.getElem?_eq_some_iff.1 h).1
theorem Env.kept {bf : Nat} {A B : World} (h : Env A) (hk : Kept (Free bf) A B) : Env B :=
  h.below (hk.toBelow (n := 9) h.nine (fun k hx => by unfold Free at hx; omega)) (Nat.le_refl _)
theorem blk_kept {bf : Nat} {A B : World} {o : Obj} (h : A.heap[bf]? = some o) (hk : Kept (Free bf) A B) : B.heap[bf]? = some o :=
  (hk.block bf (bf_lt h) (by unfold Free; omega)).trans h
theorem cell0 {w : World} {b t : Nat} {x y : Value} (h : w.heap[b]? = some (.cells #[x, y] t (0, 0))) : w.cell? ⟨b, 0, none⟩ = some x := Lib.cell_of_heap h 0
theorem cell1 {w : World} {b t : Nat} {x y : Value} (h : w.heap[b]? = some (.cells #[x, y] t (0, 0))) : w.cell? ⟨b, 1, none⟩ = some y := Lib.cell_of_heap h 1

set_option maxHeartbeats 4000000 in
set_option maxRecDepth 100000 in
theorem tail2 (n : Nat) (hn : 3 ≤ n) (line : List UInt8) (l B bf : Nat) (J Jx : List Fld → World → Prop) (hY : Yields line n l bf J Jx) (a : Act) (w : World) (hR : R2 line l B bf J a w) :
    (xc 2).wpIn Fence.wide n Tryd.prog (jumps sc (fun l' a' w' => RR line l B bf J l' a' w' ∧ mu l' a' w' < mu 2 a w) (bodyPost Tryd.prog Tryd.f73 (Ends line J Jx))) a w := by
  obtain ⟨t, ok, pre, ⟨u2, u6, u7, u8, u9, u10, u11, u12, u13, u14, u15, u16, u17, u18, u19, u20, u21, u22, u23, u24, u25, u26, u27, u28, u29, u30, u31, u32, u33, u34, u35, u36, u37, u38, u39, u40, u41, u42, u43, u44, u45, u46, u47, u48, rfl⟩, hts, hJ, hE, s, q, hb, hcase⟩ := hR
  have h1 : 1 ≤ n - 1 - 1 := by omega
  have hc0 := cell0 hb
  have hc1 := cell1 hb
  have hbf := bf_lt hb
  have HB := Lib.hid hb
  clear hb
  rcases hcase with ⟨rfl, hs⟩ | ⟨rfl, hs⟩
  · obtain ⟨fn, tmps, assign, body, hy, hR⟩ := hY pre Fld.bad w hJ hbf ⟨[], by rw [List.append_nil]; exact hs.symm⟩
    have HS := Lib.hid hs
    clear hs
    simp only [Fld.bad, Fld.encs] at hy
    simp only [xc, sc, Tryd.f73, findLabel, beq_iff_eq, Nat.reduceBEq, reduceIte, Nat.reduceEqDiff, Bool.false_eq_true, if_false, if_true]
    gi_wp2
    refine ⟨fun _ => by omega, hR.mono ?_⟩
    rintro e W' (⟨rfl, hJ', hk⟩ | ⟨rfl, hJx'⟩)
    · gi_wp2
      refine bodyPost_ret (results_none rfl _ _ _) rfl ?_
      exact ⟨⟨_, rfl⟩, .inl ⟨_, HS.out.symm, hJ'⟩⟩
    · gi_wp2
      refine bodyPost_ret (results_none rfl _ _ _) rfl ?_
      exact ⟨⟨_, rfl⟩, .inr ⟨_, ⟨[], by rw [List.append_nil]; exact HS.out.symm⟩, hJx'⟩⟩
  · obtain ⟨fn, tmps, assign, body, hy, hR⟩ := hY pre ⟨s.data.toList, q, true⟩ w hJ hbf ⟨goR t.data.toList, by rw [hs]; simp⟩
    have HS := Lib.hid hs
    clear hs
    simp only [Fld.encs] at hy
    simp only [xc, sc, Tryd.f73, findLabel, beq_iff_eq, Nat.reduceBEq, reduceIte, Nat.reduceEqDiff, Bool.false_eq_true, if_false, if_true]
    by_cases ht : 0 < t.size
    · have hne := isEmpty_false t ht
      gi_wp2
      refine ⟨fun _ => by omega, hR.mono ?_⟩
      rintro e W' (⟨rfl, hJ', hk⟩ | ⟨rfl, hJx'⟩)
      · have hE' := hE.kept hk
        have hB' := blk_kept HB.out hk
        have hbf' := bf_lt hB'
        obtain ⟨r, hr⟩ := list_ne t ht
        have HT := Lib.hid hr
        by_cases h32 : t[0].toNat = 32
        · have hp : Lib.hasPrefix t.data.toList [32] = true := by
            rw [hr]; have : t[0] = 32 := UInt8.toNat_inj.1 h32
            rw [this]; simp [Lib.hasPrefix, List.isPrefixOf]
          have HX : Hid (Lib.trimPrefix t.data.toList [32] = r) := Lib.hid (by unfold Lib.trimPrefix; rw [if_pos hp, hr]; rfl)
          have HG : Hid (goR t.data.toList = goL r) := Lib.hid (by rw [hr]; exact goR_space _ _ h32)
          have hrl : r.length + 1 = t.size := by have := size_len t; rw [hr] at this; simpa using this
          clear hr h32
          gi_wp2_with fail
          refine ⟨trivial, fun _ => by omega, (callsIn_wide.2 (Tryd.strings_CutPrefix _ _ _)).mono ?_⟩
          rintro e w' ⟨rfl, rfl⟩
          gi_wp2
          refine wpIn_goto ?_
          refine ⟨⟨_, rfl⟩, ⟨⟨(Lib.trimPrefix t.data.toList [32]).toArray⟩, pre ++ [⟨s.data.toList, q, true⟩], ⟨_, _, _, _, _, _, _, _, _, _, _, _, _, _, _, _, _, _, _, _, _, _, _, _, _, _, _, _, _, _, _, _, _, _, _, _, _, _, _, _, _, _, _, _, _, rfl⟩, ?_, ?_, hJ', hE', ⟨_, _, hB'⟩⟩, ?_⟩
          · show _ = _ ++ goL (Lib.trimPrefix t.data.toList [32])
            rw [HX.out, HS.out, HG.out]; simp
          · rw [← size_len]; show (Lib.trimPrefix t.data.toList [32]).length ≤ _; rw [HX.out]; omega
          · show 3 * (⟨(Lib.trimPrefix t.data.toList [32]).toArray⟩ : ByteArray).size + 2 < 3 * t.size
            rw [← size_len]; show 3 * (Lib.trimPrefix t.data.toList [32]).length + 2 < _; rw [HX.out]; omega
        · have hp : Lib.hasPrefix t.data.toList [32] = false := by
            rw [hr]; cases e : Lib.hasPrefix (t[0] :: r) [32] with
            | false => rfl
            | true => simp [Lib.hasPrefix, List.isPrefixOf] at e; exact absurd (by rw [← e]; rfl) h32
          have HG : Hid (seqOf line = (pre ++ [⟨s.data.toList, q, true⟩]) ++ [Fld.bad]) := Lib.hid (by rw [HS.out, hr, goR_bad _ _ h32]; simp)
          obtain ⟨fn2, tmps2, assign2, body2, hy2, hR2⟩ := hY _ Fld.bad W' hJ' hbf' ⟨[], by rw [List.append_nil]; exact HG.out.symm⟩
          simp only [Fld.bad, Fld.encs] at hy2
          clear hr h32
          gi_wp2_with fail
          refine ⟨trivial, fun _ => by omega, (callsIn_wide.2 (Tryd.strings_CutPrefix _ _ _)).mono ?_⟩
          rintro e w' ⟨rfl, rfl⟩
          gi_wp2
          refine ⟨fun _ => by omega, hR2.mono ?_⟩
          rintro e W2 (⟨rfl, hJ2, hk2⟩ | ⟨rfl, hJx2⟩)
          · gi_wp2
            change bodyPost Tryd.prog Tryd.f73 (Ends line J Jx) Exit.normal _ _
            go_end0
            exact ⟨⟨_, rfl⟩, .inl ⟨_, HG.out.symm, hJ2⟩⟩
          · gi_wp2
            change bodyPost Tryd.prog Tryd.f73 (Ends line J Jx) Exit.normal _ _
            go_end0
            exact ⟨⟨_, rfl⟩, .inr ⟨_, ⟨[], by rw [List.append_nil]; exact HG.out.symm⟩, hJx2⟩⟩
      · gi_wp2
        refine bodyPost_ret (results_none rfl _ _ _) rfl ?_
        exact ⟨⟨_, rfl⟩, .inr ⟨_, ⟨goR t.data.toList, by rw [HS.out]; simp⟩, hJx'⟩⟩
    · have hem := empty_of t ht
      subst hem
      gi_wp2
      refine ⟨fun _ => by omega, hR.mono ?_⟩
      rintro e W' (⟨rfl, hJ', hk⟩ | ⟨rfl, hJx'⟩)
      · gi_wp2
        refine bodyPost_ret (results_none rfl _ _ _) rfl ?_
        exact ⟨⟨_, rfl⟩, .inl ⟨_, HS.out.symm, hJ'⟩⟩
      · gi_wp2
        refine bodyPost_ret (results_none rfl _ _ _) rfl ?_
        exact ⟨⟨_, rfl⟩, .inr ⟨_, ⟨[], by rw [HS.out, List.append_nil]; rfl⟩, hJx'⟩⟩
end Go.Proofs.YtnmkcohfhomenaaDoor
