/- writeRun. -/
import Derived.Test.YtnmkcohfhomenaaDoorInt
import Derived.Lib.ItoaLen
namespace Go.Proofs.YtnmkcohfhomenaaDoor
open Go.RowKit

/-- What the walks read, the table of tens too. -/
structure EnvD (w : World) : Prop where
  env : Env w
  tab : Lib.TabIs Tryd.prog w "internal/strconv.uint64pow10" .u64 Lib.pow10Tab
theorem gPow : Tryd.prog.globalNamed "internal/strconv.uint64pow10" = some 3 := by kernel_rfl
theorem EnvD.below {B : Nat} {w w' : World} (h : EnvD w) (hb : Below B w w') (hB : 9 ≤ B) : EnvD w' :=
  ⟨h.env.below hb hB, var?_below hb gPow (by omega) h.tab⟩

/-- The written form of a run. -/
def wrS (a b : Int) : List UInt8 := if a = b then Lib.itoa a else Lib.itoa a ++ [45] ++ Lib.itoa b

set_option maxHeartbeats 1000000 in
theorem writeRun_any (a b : Int) (w : World) (hE : EnvD w) (a0 : 0 ≤ a) (a1 : a ≤ 1000000000) (b0 : 0 ≤ b) (b1 : b ≤ 1000000000) :
    Calls Tryd.prog 58 #[.int .i64 a, .int .i64 b] w fun e w' => e = .returned (.string ⟨(wrS a b).toArray⟩) ∧ Below w.heap.size w w' := by
  have h9 := hE.env.nine
  by_cases hab : a = b
  · subst hab
    have hD := Lib.hid (digits_any a w (by omega) (by omega) hE.tab)
    have HF : Hid (wrS a a = Lib.itoa a) := Lib.hid (by unfold wrS; rw [if_pos rfl])
    go_enter Tryd.func58, Tryd.ntmps58
    go_wp2_with fail
    refine hD.out.mono ?_
    rintro e w' ⟨rfl, hB⟩
    go_wp2
    go_ret
    exact ⟨congrArg (fun z : List UInt8 => Ending.returned (.string ⟨z.toArray⟩)) HF.out.symm, hB⟩
  · have e0 : (a == b) = false := by simpa using hab
    have HF : Hid (wrS a b = Lib.itoa a ++ [45] ++ Lib.itoa b) := Lib.hid (by unfold wrS; rw [if_neg hab])
    have HJ : Hid ((⟨(Lib.itoa a).toArray⟩ : ByteArray) ++ ⟨#[45]⟩ ++ ⟨(Lib.itoa b).toArray⟩ = ⟨(wrS a b).toArray⟩) := Lib.hid (by
      rw [HF.out]; apply ByteArray.ext; simp)
    clear hab
    go_enter Tryd.func58, Tryd.ntmps58
    go_wp2_with fail
    refine (digits_any a w (by omega) (by omega) hE.tab).mono ?_
    rintro e w1 ⟨rfl, hB1⟩
    have hE1 := hE.below hB1 h9
    have hla : (Lib.itoa a).length ≤ 21 := Lib.itoa_length_le a (by omega) (by omega)
    have hsa : (⟨(Lib.itoa a).toArray⟩ : ByteArray).size ≤ 21 := by rw [← size_len]; exact hla
    have hD2 := Lib.hid (digits_any b w1 (by omega) (by omega) hE1.tab)
    have hlb : (Lib.itoa b).length ≤ 21 := Lib.itoa_length_le b (by omega) (by omega)
    have hsb : (⟨(Lib.itoa b).toArray⟩ : ByteArray).size ≤ 21 := by rw [← size_len]; exact hlb
    have hsc : ((⟨(Lib.itoa a).toArray⟩ : ByteArray) ++ ⟨#[45]⟩).size ≤ 22 := by
      rw [ByteArray.size_append]; exact Nat.add_le_add hsa (Nat.le_refl 1)
    have hsd : ((⟨(Lib.itoa a).toArray⟩ : ByteArray) ++ ⟨#[45]⟩ ++ ⟨(Lib.itoa b).toArray⟩).size ≤ 43 := by
      rw [ByteArray.size_append]; exact Nat.add_le_add hsc hsb
    go_wp2_with fail
    refine hD2.out.mono ?_
    rintro e w2 ⟨rfl, hB2⟩
    go_wp2
    go_ret
    exact ⟨congrArg (fun z => Ending.returned (.string z)) HJ.out, (hB1.trans (hB2.mono hB1.size))⟩
end Go.Proofs.YtnmkcohfhomenaaDoor
