/- bytes.TrimRight at a byte 0; Unpad; Pad. (The seat with cards.) -/
import Derived.Test.YtnocmkjaifjgfaaDoorRPad
import Derived.Laws.CopyOwn
import Derived.Laws.MakeOwn
namespace Go.Proofs.YtnocmkjaifjgfaaDoor.R
open Go.RowKit

set_option maxHeartbeats 2000000 in
set_option maxRecDepth 100000 in
theorem trim_any (a : Option Addr) (d : Nat) (l : List UInt8) (w : World) (hv : BytesAt w (.slice a l.length d) l) (hld : l.length ≤ d) (hl : l.length ≤ maxLen) :
    Calls Tryd.prog 24 #[.slice a l.length d, .string ⟨#[0]⟩] w fun e w' => e = .returned (.slice a (keepN l l.length) d) ∧ w = w' := by
  have HT := Lib.hid (trimByte_any a d l w hv hld hl)
  clear hv
  by_cases h0 : l.length = 0
  · have HK := Lib.hid (show keepN l l.length = 0 by rw [h0]; rfl)
    rw [HK.out, h0]
    go_enter Tryd.func24, Tryd.ntmps24
    go_wp2_with fail
    go_ret
    exact ⟨rfl, rfl⟩
  · have h1 : ((l.length : Int) == 0) = false := beq_eq_false_iff_ne.2 (by omega)
    have h2 : l.isEmpty = false := by cases l with | nil => exact absurd rfl h0 | cons _ _ => rfl
    clear h0
    go_enter Tryd.func24, Tryd.ntmps24
    go_wp2_with fail
    refine HT.out.mono ?_
    rintro e w2 ⟨rfl, rfl⟩
    go_wp2_with fail
    go_ret
    exact ⟨rfl, rfl⟩

def unpadE (l : List UInt8) : Nat := if 0 < keepN l l.length ∧ (l.getD (keepN l l.length - 1) 0).toNat = 1 then 0 else 6
def unpadL (l : List UInt8) : List UInt8 := if unpadE l = 0 then l.take (keepN l l.length - 1) else []
set_option maxHeartbeats 2000000 in
set_option maxRecDepth 100000 in
theorem unpad_any (a : Option Addr) (d : Nat) (l : List UInt8) (w : World) (hv : BytesAt w (.slice a l.length d) l) (hld : l.length ≤ d) (hl : l.length ≤ 900000) :
    Calls Tryd.prog 11 #[.slice a l.length d] w fun e w' => ∃ v, e = .returned (.tuple #[v, .int .i64 (unpadE l : Nat)]) ∧ BytesAt w' v (unpadL l) ∧ Below w.heap.size w w' := by
  have HT := Lib.hid (trim_any a d l w hv hld (by unfold maxLen; omega))
  have HV := Lib.hid hv
  have hkl := keepN_le l l.length
  have HE := Lib.hid (show unpadE l = if 0 < keepN l l.length ∧ (l.getD (keepN l l.length - 1) 0).toNat = 1 then 0 else 6 from rfl)
  have HL := Lib.hid (show unpadL l = if unpadE l = 0 then l.take (keepN l l.length - 1) else [] from rfl)
  clear hv
  generalize keepN l l.length = k at *
  cases k with
  | zero =>
    have HE0 := Lib.hid (show unpadE l = 6 by rw [HE.out, if_neg (by omega)])
    go_enter Tryd.func11, Tryd.ntmps11
    go_wp2_with fail
    refine HT.out.mono ?_
    rintro e w2 ⟨rfl, rfl⟩
    go_wp2_with fail
    go_ret2
    exact ⟨_, by rw [HE0.out]; rfl, by rw [HL.out, if_neg (by rw [HE0.out]; decide)]; exact BytesAt.none_ _ _, Below.refl _ _⟩
  | succ j =>
    have hjl : j < l.length := by omega
    obtain ⟨g, o, rfl, hg⟩ := bytes_some2 HV.out (by omega)
    rcases HV.out with ⟨_, _, _, hl0⟩ | ⟨g2, i, c, hva, _, hcs⟩
    · rw [hl0] at hjl; simp at hjl
    obtain ⟨rfl, rfl⟩ : g = g2 ∧ o = i := by injection hva with h1; injection h1 with h1; injection h1 with h1 h2; exact ⟨h1, h2⟩
    have hcl := hcs j hjl
    have hby := byte_lt l j hjl
    have hgd : l.getD (j + 1 - 1) 0 = l[j] := by rw [Nat.add_sub_cancel, List.getD_eq_getElem?_getD, List.getElem?_eq_getElem hjl]; rfl
    rw [hgd] at HE
    rw [Nat.add_sub_cancel] at HL
    have hlt : (l.take j).length = j := by rw [List.length_take]; omega
    have HC := Lib.hid (clone_any (.slice (some ⟨g, o, none⟩) j d) (l.take j) w (HV.out.take j (by omega)) (by omega))
    have hjd : j ≤ d := by omega
    generalize l[j].toNat = z at *
    clear hva hcs hgd hlt
    by_cases h1 : z = 1
    · subst h1
      have HE0 := Lib.hid (show unpadE l = 0 by rw [HE.out, if_pos ⟨by omega, rfl⟩])
      go_enter Tryd.func11, Tryd.ntmps11
      go_wp2_with fail
      refine HT.out.mono ?_
      rintro e w2 ⟨rfl, rfl⟩
      go_wp2_with fail
      refine HC.out.mono ?_
      rintro e w2 ⟨v, rfl, hr, hb⟩
      have HR := Lib.hid hr
      have HB := Lib.hid hb
      clear hr hb
      go_wp2_with fail
      go_ret2
      exact ⟨_, by rw [HE0.out]; rfl, by rw [HL.out, if_pos HE0.out]; exact HR.out.at_, HB.out⟩
    · have hz : ((z : Int) != 1) = true := by simp; omega
      have HE0 := Lib.hid (show unpadE l = 6 by rw [HE.out, if_neg (fun h => h1 h.2)])
      clear h1
      go_enter Tryd.func11, Tryd.ntmps11
      go_wp2_with fail
      refine HT.out.mono ?_
      rintro e w2 ⟨rfl, rfl⟩
      go_wp2_with fail
      go_ret2
      exact ⟨_, by rw [HE0.out]; rfl, by rw [HL.out, if_neg (by rw [HE0.out]; decide)]; exact BytesAt.none_ _ _, Below.refl _ _⟩

/-! ### Pad -/
theorem run_make_bytes (n : Nat) (hn : n ≤ 4000) (w : World) : (Instr.makeSlice 22 (.int .i64 (n : Int)) (.int .i64 (n : Int))).run Tryd.prog w = .ok (.slice (some ⟨w.heap.size, 0, none⟩) n n) (w.alloc (.cells (Lib.byteCells (List.replicate n 0)).toArray 5)) := by
  obtain ⟨i0, hi, hz0, hz1, hz2⟩ := info_parts infoByte
  have h := run_make (P := Tryd.prog) (w := w) 22 5 i0 (.int .u8 0) Tryd.underlying22 hi hz0 .i64 .i64 (n : Int) (n : Int) (by omega) (by omega) (by rw [hz2]; omega) (by omega)
  rw [h, Int.toNat_natCast, hz1, Nat.mul_one]
  have e : madeCells (Value.int .u8 0).cells n = (Lib.byteCells (List.replicate n 0)).toArray := by
    apply Array.ext'
    show (madeCells #[.int .u8 0] n).toList = _
    rw [toList_madeCells_one]
    simp [Lib.byteCells]
  rw [e]
end Go.Proofs.YtnocmkjaifjgfaaDoor.R
