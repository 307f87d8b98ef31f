/- bytes.Clone; bytes.TrimRight at a byte 0; Unpad. (The seat with cards.) -/
import Derived.Test.YtnocmkjaifjgfaaDoorRApp
namespace Go.Proofs.YtnocmkjaifjgfaaDoor.R
open Go.RowKit
attribute [local go_sem ↓] appB_eq

set_option maxRecDepth 100000 in
theorem clone_any (v : Value) (l : List UInt8) (w : World) (hv : BytesAt w v l) (hl : l.length ≤ 900000) :
    Calls Tryd.prog 21 #[v] w fun e w' => ∃ v', e = .returned v' ∧ Row w' w.heap.size v' l ∧ Below w.heap.size w w' := by
  obtain ⟨a, d, rfl⟩ := hv.shape
  have hnil : ∀ a : Addr, (binOp .eql 22 (.slice (some a) l.length d) (.slice none 0 0)).run Tryd.prog w = .ok (.bool false) w := fun a => Lib.run_eql_slice_nil (h := Tryd.underlying22) ..
  cases a with
  | none =>
    have h0 : l = [] := by
      rcases hv with ⟨_, _, _, h⟩ | ⟨g, o, c, h, _⟩
      · exact h
      · cases h
    subst h0
    have hn0 : (binOp .eql 22 (.slice none 0 d) (.slice none 0 0)).run Tryd.prog w = .ok (.bool true) w := Lib.run_eql_slice_nil (h := Tryd.underlying22) ..
    clear hv hnil
    go_enter Tryd.func21, Tryd.ntmps21
    go_wp2_with fail
    go_ret
    exact ⟨_, rfl, Row.nil _ _, Below.refl _ _⟩
  | some a =>
    have hn := hnil a
    obtain ⟨i0, hi, hz0, hz1, hz2⟩ := info_parts infoByte
    have hA := (Below.refl w.heap.size w).alloc (Nat.le_refl _) (.cells #[] 5 (0, 0))
    have h0 : (w.alloc (.cells #[] 5 (0, 0))).ownsRow w.heap.size 5 1 (.slice (some ⟨w.heap.size, 0, none⟩) 0 0) 0 [] := ⟨by simp, .inr ⟨w.heap.size, 0, #[], rfl, Nat.le_refl _, heap_alloc_new w _, Nat.le_refl _, by unfold maxLen; omega, by simp, by simp⟩⟩
    obtain ⟨g1, c1, w1, hr1, ho1, hk1⟩ := app_src (ty := 22) Tryd.underlying22 hi hz0 hz1 hz2 rfl (by decide) h0 (srcBytes (hv.below hA (Nat.le_refl _))) (by omega) (by omega) (by simp)
    rw [Nat.zero_add] at hr1 ho1
    have HB1 := Lib.hid (hA.trans (hk1.toBelow (by simp) (fun k hk e => by omega)))
    have HR1 : Hid (Row w1 w.heap.size (.slice (some ⟨g1, 0, none⟩) l.length c1) l) := Lib.hid (by unfold Row; simpa using ho1)
    have hr1' : Sem.run Tryd.prog (appB 22 #[.slice (some ⟨w.heap.size, 0, none⟩) 0 0, .slice (some a) l.length d]) (w.alloc (.cells #[] 5 (0, 0))) = .ok (.slice (some ⟨g1, 0, none⟩) l.length c1) w1 := hr1
    generalize l.length = n at *
    clear hv hnil hr1 ho1 hk1 h0 hA hi hz0 hz1 hz2
    go_enter Tryd.func21, Tryd.ntmps21
    go_wp2_with fail
    go_ret
    exact ⟨_, rfl, HR1.out, HB1.out⟩

-- How many of the first k bytes are left when the bytes 0 behind them are cut off.
theorem bytes_some2 {w : World} {s : Option Addr} {n d : Nat} {l : List UInt8} (h : BytesAt w (.slice s n d) l) (h0 : 0 < l.length) : ∃ g o, s = some ⟨g, o, none⟩ ∧ g < w.heap.size := by
  rcases h with ⟨a, c, _, rfl⟩ | ⟨g, o, c, hv, hg, _⟩
  · simp at h0
  · injection hv with h1; exact ⟨g, o, h1, hg⟩
def keepN (l : List UInt8) : Nat → Nat
  | 0 => 0
  | k + 1 => if (l.getD k 1).toNat = 0 then keepN l k else k + 1
theorem keepN_le (l : List UInt8) : ∀ k, keepN l k ≤ k
  | 0 => Nat.le_refl _
  | k + 1 => by unfold keepN; split; exact Nat.le_succ_of_le (keepN_le l k); exact Nat.le_refl _
def sliceLen : Value → Nat
  | .slice _ n _ => n
  | _ => 0
set_option maxHeartbeats 2000000 in
theorem trimByte_any (a : Option Addr) (d : Nat) (l : List UInt8) (w : World) (hv : BytesAt w (.slice a l.length d) l) (hld : l.length ≤ d) (hl : l.length ≤ maxLen) :
    Calls Tryd.prog 31 #[.slice a l.length d, .int .u8 0] w fun e w' => e = .returned (.slice a (keepN l l.length) d) ∧ w = w' := by
  have HV := Lib.hid hv
  unfold maxLen at hl
  clear hv
  go_enter Tryd.func31, Tryd.ntmps31
  go_wp2_with fail
  go_loop [0] (fun s => ∃ k : Nat, k ≤ l.length ∧ s = .slice a k d ∧ Hid (keepN l l.length = keepN l k)) (fun s => sliceLen s)
  case atStart => exact ⟨l.length, by omega, rfl, Lib.hid rfl⟩
  case round =>
    obtain ⟨k, hk, rfl, hE⟩ := hrel
    cases k with
    | zero =>
      have HF := Lib.hid (show keepN l l.length = 0 by rw [hE.out]; rfl)
      go_wp2_with fail
      go_ret
      exact ⟨by rw [HF.out]; rfl, rfl⟩
    | succ j =>
      have hjl : j < l.length := by omega
      obtain ⟨g, o, rfl, hg⟩ := bytes_some2 HV.out (by omega)
      rcases HV.out with ⟨_, _, _, hl0⟩ | ⟨g2, i, c, hva, _, hcs⟩
      · rw [hl0] at hjl; simp at hjl
      obtain ⟨rfl, rfl⟩ : g = g2 ∧ o = i := by injection hva with h1; injection h1 with h1; injection h1 with h1 h2; exact ⟨h1, h2⟩
      have hcl := hcs j hjl
      have hby := byte_lt l j hjl
      have HS := Lib.hid (show keepN l (j + 1) = if l[j].toNat = 0 then keepN l j else j + 1 by
        rw [keepN, List.getD_eq_getElem?_getD, List.getElem?_eq_getElem hjl]; rfl)
      have hjw : IntKind.i64.wrap ((j : Int) + 1 - 1) = j := by rw [IntWalk.i64_in _ (by omega)]; omega
      generalize l[j].toNat = z at *
      clear hva hcs
      by_cases h0 : z = 0
      · subst h0
        go_wp2_with fail
        go_round
        case rel => exact ⟨j, by omega, by go_num, Lib.hid (by rw [hE.out, HS.out, if_pos rfl])⟩
        case measure => simp [sliceLen]
      · have hz : ((z : Int) == 0) = false := by simp; omega
        have HF := Lib.hid (show keepN l l.length = j + 1 by rw [hE.out, HS.out, if_neg h0])
        go_wp2_with fail
        go_ret
        exact ⟨by rw [HF.out]; rfl, rfl⟩
end Go.Proofs.YtnocmkjaifjgfaaDoor.R
