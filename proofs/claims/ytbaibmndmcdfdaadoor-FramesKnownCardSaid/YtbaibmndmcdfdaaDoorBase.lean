/- Worlds that differ in one cell; the table; bytes in memory; registers: next, crc, registerOf. -/
import Derived.Test.YtbaibmndmcdfdaaDoorValB
import Derived.WalkKit
import Derived.WalkLawsBesides
import Derived.WalkSpells
import Derived.Outline
import Derived.Below
import Derived.Deep.QuietTactic
import Derived.BigQuiet
import Derived.Lib.Hide
import Derived.Lib.Strings
import Derived.Laws.BitsAllLaws
import Derived.Laws.Rows
import Derived.Laws.OwnMore
import Derived.RegionTactic
import Derived.ChangeAlike
import Derived.BigRegion
import Derived.Lib.LaidTab
import Derived.ChangeBears2
namespace Go.Proofs.YtbaibmndmcdfdaaDoor
open Go.RowKit

theorem ret_bool {a b : Bool} (h : a = b) : Ending.returned (.bool a) = .returned (.bool b) := by rw [h]
theorem ret_int {k : IntKind} {a b : Int} (h : a = b) : Ending.returned (.int k a) = .returned (.int k b) := by rw [h]
theorem addr_add (g o j : Nat) : (⟨g, o, none⟩ : Addr).add j = ⟨g, o + j, none⟩ := by
  unfold Addr.add; split <;> simp_all

/-! ### worlds that differ in one cell -/
structure Put (b o : Nat) (v : Value) (w w' : World) : Prop where
  os : w'.os = w.os
  tape : w'.tape = w.tape
  output : w'.output = w.output
  heap : w'.heap = (w.setCell ⟨b, o, none⟩ v).heap
theorem Put.size {b o : Nat} {v : Value} {w w' : World} (h : Put b o v w w') : w'.heap.size = w.heap.size := by rw [h.heap]; simp [World.setCell]
theorem Put.other {b o : Nat} {v : Value} {w w' : World} (h : Put b o v w w') (k : Nat) (hk : k ≠ b) : w'.heap[k]? = w.heap[k]? := by
  rw [h.heap]; exact Below.heap_setCell _ _ _ _ hk
theorem Put.below {b o B : Nat} {v : Value} {w w' : World} (h : Put b o v w w') (hB : B ≤ b) : Below B w w' :=
  ⟨h.os, h.tape, h.output, Nat.le_of_eq h.size.symm, fun k hk => h.other k (by omega)⟩
theorem Put.block {b o : Nat} {v : Value} {w w' : World} {cs : Array Value} {t : TypeId} {fr : Nat × Nat} (h : Put b o v w w') (hb : w.heap[b]? = some (.cells cs t fr)) : w'.heap[b]? = some (.cells (cs.setIfInBounds o v) t fr) := by
  rw [h.heap]; simp [World.setCell, Array.getElem?_modify, hb]
theorem Put.setCell {b o : Nat} {v : Value} {w w' : World} (h : Put b o v w w') (u : Value) : Put b o u w (w'.setCell ⟨b, o, none⟩ u) :=
  ⟨h.os, h.tape, h.output, by
    show (World.setCell w' _ u).heap = _
    simp only [World.setCell, h.heap]
    apply Array.ext_getElem?
    intro i
    simp only [Array.getElem?_modify]
    by_cases e : b = i
    · subst e
      simp only [if_true]
      cases w.heap[b]? with
      | none => rfl
      | some x => cases x <;> simp
    · simp [e]⟩
theorem Put.drew {b o : Nat} {v : Value} {w w' : World} (h : Put b o v w w') : Put b o v w w'.drew := ⟨h.os, h.tape, h.output, h.heap⟩
theorem Put.drewN {b o : Nat} {v : Value} {w w' : World} (h : Put b o v w w') (n : Nat) : Put b o v w (w'.drewN n) := ⟨h.os, h.tape, h.output, h.heap⟩
theorem Put.one (b o : Nat) (v : Value) (w : World) : Put b o v w (w.setCell ⟨b, o, none⟩ v) := ⟨rfl, rfl, rfl, rfl⟩
theorem Put.trans {b o : Nat} {v u : Value} {w w1 w2 : World} (h : Put b o v w w1) (k : Put b o u w1 w2) : Put b o u w w2 := by
  have := h.setCell u
  exact ⟨k.os.trans h.os, k.tape.trans h.tape, k.output.trans h.output, k.heap.trans this.heap⟩
theorem Put.cell {b o : Nat} {v u : Value} {w w' : World} (h : Put b o v w w') (hc : w.cell? ⟨b, o, none⟩ = some u) : w'.cell? ⟨b, o, none⟩ = some v := by
  unfold World.cell? at hc ⊢
  revert hc
  cases e : w.heap[b]? with
  | none => intro hc; simp at hc
  | some x =>
    cases x with
    | cells cs t fr =>
      intro hc
      simp at hc
      have ho : o < cs.size := (Array.getElem?_eq_some_iff.1 hc).1
      simp [h.block e, ho]
    | _ => intro hc; simp at hc
theorem Put.frozen {b o : Nat} {v : Value} {w w' : World} (h : Put b o v w w') (a : Addr) : w'.frozen? a = w.frozen? a := by
  unfold World.frozen?
  by_cases e : a.block = b
  · rw [e]
    cases e2 : w.heap[b]? with
    | none =>
      have : w'.heap[b]? = none := by rw [h.heap]; simp [World.setCell, Array.getElem?_modify, e2]
      rw [this]
    | some x =>
      cases x with
      | cells cs t fr => rw [h.block e2]
      | _ =>
        have : w'.heap[b]? = w.heap[b]? := by rw [h.heap]; simp [World.setCell, Array.getElem?_modify, e2]
        rw [this, e2]
  · rw [h.other _ e]

theorem Put.self {b o : Nat} {v : Value} {w : World} (hc : w.cell? ⟨b, o, none⟩ = some v) : Put b o v w w :=
  ⟨rfl, rfl, rfl, by
    apply Array.ext_getElem?
    intro i
    by_cases e : i = b
    · subst e
      unfold World.cell? at hc
      revert hc
      cases e : w.heap[i]? with
      | none => intro hc; simp at hc
      | some x =>
        cases x with
        | cells cs t fr =>
          intro hc
          simp at hc
          obtain ⟨ho, hv⟩ := Array.getElem?_eq_some_iff.1 hc
          rw [(Put.one i o v w).block e, ← hv]
          congr 2
          apply Array.ext_getElem?
          intro j
          rw [Array.getElem?_setIfInBounds]
          by_cases ej : o = j
          · subst ej; simp [ho]
          · simp [ej]
        | _ => intro hc; simp at hc
    · exact (Below.heap_setCell _ _ _ _ e).symm⟩

/-! ### the table -/
def tabZ : List Int := [0, 498536548, 997073096, 651767980, 1994146192, 1802195444, 1303535960, 1342533948, 3988292384, 4027552580, 3604390888, 3412177804, 2607071920, 2262029012, 2685067896, 3183342108]
theorem gTab : Tryd.prog.globalNamed "limewash/sums.halfSteps" = some 0 := by kernel_rfl
theorem tab_nat : ∀ s : Nat, s < 16 → tabZ[s]? = some ((tableV s : Nat) : Int) := by decide
theorem tabV_lt (s : Nat) (h : s < 16) : tableV s < 4294967296 := halfN_lt (by omega)
/-- What the calls read of the variables. -/
structure Env (w : World) : Prop where
  tab : Lib.TabIs Tryd.prog w "limewash/sums.halfSteps" .u32 tabZ
  one : 1 ≤ w.heap.size
theorem Env.below {B : Nat} {w w' : World} (h : Env w) (hb : Below B w w') (hB : 1 ≤ B) : Env w' :=
  ⟨var?_below hb gTab (by omega) h.tab, Nat.le_trans h.one hb.size⟩
theorem Env.cell {w : World} (h : Env w) (s : Nat) (hs : s < 16) : w.cell? ⟨0, s, none⟩ = some (.int .u32 (tableV s : Nat)) := by
  have e := h.tab
  unfold Lib.TabIs World.var? at e
  rw [gTab] at e
  simp only [Option.bind_some] at e
  unfold World.cell?
  revert e
  cases w.heap[(0 : Nat)]? with
  | none => intro e; simp at e
  | some o =>
    cases o with
    | cells cs t fr =>
      intro e
      simp at e
      subst e
      have := tab_nat s hs
      simp [this]
    | _ => intro e; simp at e

/-! ### numbers of 32 bits -/
theorem u32_of_nat (a : Nat) (ha : a < 4294967296) : (BitVec.ofInt 32 (a : Int)).toNat = a := by
  rw [BitVec.ofInt_natCast, BitVec.toNat_ofNat]; exact Nat.mod_eq_of_lt (by omega)
theorem xor32 (a b : Nat) (ha : a < 4294967296) (hb : b < 4294967296) : bits .xor .u32 (a : Int) (b : Int) = ((a ^^^ b : Nat) : Int) := by
  have hx := xor_lt ha hb
  show IntKind.u32.wrap ((BitVec.ofInt 32 (a : Int) ^^^ BitVec.ofInt 32 (b : Int)).toNat : Int) = _
  rw [BitVec.toNat_xor, u32_of_nat a ha, u32_of_nat b hb, IntKind.wrap_u32]
  omega

theorem not32 (a : Nat) (ha : a < 4294967296) : bits .xor .u32 IntKind.u32.max (a : Int) = ((a ^^^ allV : Nat) : Int) := by
  rw [show IntKind.u32.max = ((allV : Nat) : Int) from by decide, xor32 _ _ allV_lt ha, Nat.xor_comm]
theorem and15 (a : Nat) (ha : a < 4294967296) : bits .and .u32 (a : Int) 15 = ((a % 16 : Nat) : Int) := by
  show IntKind.u32.wrap ((BitVec.ofInt 32 (a : Int) &&& BitVec.ofInt 32 ((15 : Nat) : Int)).toNat : Int) = _
  rw [BitVec.toNat_and, u32_of_nat a ha, u32_of_nat 15 (by omega), IntKind.wrap_u32, show 15 = 2 ^ 4 - 1 from rfl, Nat.and_two_pow_sub_one_eq_mod]
  omega
theorem u32_signed : IntKind.u32.signed = false := rfl

theorem registerOf_any (h : Nat) (w : World) (hh : h < 4294967296) :
    Calls Tryd.prog 63 #[.int .u32 h] w fun e w' => e = .returned (.int .u32 ((h ^^^ allV : Nat) : Int)) ∧ w = w' := by
  have hn := not32 h hh
  have hs := u32_signed
  go_enter Tryd.func63, Tryd.ntmps63
  go_wp2
  go_ret
  exact ⟨rfl, rfl⟩
theorem crc_any (h : Nat) (w : World) (hh : h < 4294967296) :
    Calls Tryd.prog 66 #[.int .u32 h] w fun e w' => e = .returned (.int .u32 ((h ^^^ allV : Nat) : Int)) ∧ w = w' := by
  have hn := not32 h hh
  have hs := u32_signed
  go_enter Tryd.func66, Tryd.ntmps66
  go_wp2
  go_ret
  exact ⟨rfl, rfl⟩

set_option maxHeartbeats 400000 in
theorem next_any (b o r c : Nat) (w : World) (hr : r < 4294967296) (hc : c < 256) (hE : Env w) (h0 : 1 ≤ b) (hcell : w.cell? ⟨b, o, none⟩ = some (.int .u32 r)) (hf : w.frozen? ⟨b, o, none⟩ = false) :
    Calls Tryd.prog 65 #[.pointer (some ⟨b, o, none⟩), .int .u8 c] w fun e w' => e = .returned (.tuple #[]) ∧ Put b o (.int .u32 (stepV r c : Nat)) w w' := by
  have hx := xor32 r c hr (by omega)
  have hP0 := Lib.hid (Put.one b o (.int .u32 ((halfN (4 * 0) (r ^^^ c) : Nat) : Int)) w)
  have hl0 := xor_lt hr (show c < 4294967296 by omega)
  go_enter Tryd.func65, Tryd.ntmps65
  go_wp2
  go_loopw [11] (fun i wr => ∃ k : Nat, k ≤ 2 ∧ i = .int .i64 k ∧ Hid (Put b o (.int .u32 ((halfN (4 * k) (r ^^^ c) : Nat) : Int)) w wr)) (fun i _ => 2 - (intOf i).toNat)
  case atStart => exact ⟨0, by omega, rfl, hP0⟩
  case round =>
    obtain ⟨k, hk, rfl, hP⟩ := hrel
    by_cases hlt : k < 2
    · have hl := halfN_lt (k := 4 * k) hl0
      have hS := Lib.hid (show halfN (4 * (k + 1)) (r ^^^ c) = halfN (4 * k) (r ^^^ c) / 16 ^^^ tableV (halfN (4 * k) (r ^^^ c) % 16) by
        rw [← halfN4, ← halfN_add, Nat.mul_add, Nat.add_comm])
      have hcl := hP.out.cell hcell
      have hfz := (hP.out.frozen ⟨b, o, none⟩).trans hf
      have htab := ((hE.below (hP.out.below h0) (Nat.le_refl 1))).cell (halfN (4 * k) (r ^^^ c) % 16) (by omega)
      generalize halfN (4 * k) (r ^^^ c) = x at *
      have ha := and15 x hl
      have hx2 : bits .xor .u32 ((x : Int) / 16) (tableV (x % 16) : Nat) = ((x / 16 ^^^ tableV (x % 16) : Nat) : Int) := xor32 (x / 16) (tableV (x % 16)) (by omega) (tabV_lt _ (by omega))
      have HP := Lib.hid (fun n => ((hP.out.setCell (.int .u32 ((x / 16 ^^^ tableV (x % 16) : Nat) : Int))).drewN n))
      clear hx hcell hf hP0 hE
      go_wp2
      go_region
      go_wp2
      go_roundw
      case rel => exact ⟨k + 1, by omega, by go_num, Lib.hid (by rw [hS.out]; exact HP.out 1)⟩
      case measure => simp [intOf]; omega
    · obtain rfl : k = 2 := by omega
      have hQ := Lib.hid (show Put b o (.int .u32 (stepV r c : Nat)) w wr from hP.out)
      clear hx hcell hf hP0 hP
      go_wp2
      go_end0
      exact ⟨rfl, hQ.out⟩
end Go.Proofs.YtbaibmndmcdfdaaDoor
