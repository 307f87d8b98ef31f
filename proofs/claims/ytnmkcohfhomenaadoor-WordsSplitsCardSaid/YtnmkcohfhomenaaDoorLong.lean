/- Slices of fields; tooLong. -/
import Derived.Test.YtnmkcohfhomenaaDoorFields3
namespace Go.Proofs.YtnmkcohfhomenaaDoor
open Go.RowKit

/-- The fields fs lie in memory as the slice v. -/
def FieldsAt (w : World) (v : Value) (fs : List (ByteArray × Bool)) : Prop :=
  (∃ a c, v = .slice a 0 c ∧ fs = []) ∨
  ∃ b o c, v = .slice (some ⟨b, o, none⟩) fs.length c ∧ b < w.heap.size ∧ ∀ k (h : k < fs.length), w.cell? ⟨b, o + k * 2, none⟩ = some (.string fs[k].1) ∧ w.cell? ⟨b, o + k * 2 + 1, none⟩ = some (.bool fs[k].2)

def tooL (fs : List (ByteArray × Bool)) : Bool := decide (64 < fs.length) || fs.any fun f => decide (2000 < f.1.size)

set_option maxHeartbeats 1000000 in
set_option maxRecDepth 100000 in
theorem tooLong_some (b o c : Nat) (fs : List (ByteArray × Bool)) (w : World) (hb : b < w.heap.size) (hl : fs.length ≤ 140737488355328)
    (hc : ∀ k (h : k < fs.length), w.cell? ⟨b, o + k * 2, none⟩ = some (.string fs[k].1) ∧ w.cell? ⟨b, o + k * 2 + 1, none⟩ = some (.bool fs[k].2)) :
    Calls Tryd.prog 49 #[.slice (some ⟨b, o, none⟩) fs.length c] w fun e w' => e = .returned (.bool (tooL fs)) ∧ Below w.heap.size w w' := by
  by_cases h64 : 64 < fs.length
  · have HF : Hid (tooL fs = true) := Lib.hid (by unfold tooL; simp [h64])
    go_enter Tryd.func49, Tryd.ntmps49
    go_wp2
    go_ret
    exact ⟨ret_bool HF.out.symm, Below.refl _ _⟩
  · have h64' : fs.length ≤ 64 := by omega
    clear h64
    have HC := Lib.hid hc
    clear hc
    go_enter Tryd.func49, Tryd.ntmps49
    go_wp2
    go_loopw [10] (fun i wr => ∃ k : Nat, k ≤ fs.length ∧ i = .int .i64 k ∧ Below w.heap.size w wr ∧ Hid (∀ j (hj : j < fs.length), j < k → fs[j].1.size ≤ 2000)) (fun i _ => fs.length - (intOf i).toNat)
    case atStart => exact ⟨0, Nat.zero_le _, rfl, Below.refl _ _, Lib.hid (fun j _ h => by omega)⟩
    case round =>
      obtain ⟨k, hk, rfl, hbel, hh⟩ := hrel
      by_cases hlt : k < fs.length
      · obtain ⟨s, q, hsq⟩ : ∃ s q, fs[k] = (s, q) := ⟨_, _, rfl⟩
        have hc0 := (hbel.cell (p := ⟨b, o + k * 2, none⟩) hb).trans (HC.out k hlt).1
        have hc1 := (hbel.cell (p := ⟨b, o + k * 2 + 1, none⟩) hb).trans (HC.out k hlt).2
        rw [hsq] at hc0 hc1
        have HSQ := Lib.hid hsq
        clear hsq
        by_cases h2 : s.size ≤ 2000
        · have hh' : Hid (∀ j (hj : j < fs.length), j < k + 1 → fs[j].1.size ≤ 2000) := Lib.hid (fun j hj h => by
            by_cases e : j = k
            · subst e; rw [HSQ.out]; exact h2
            · exact hh.out j hj (by omega))
          go_wp2
          go_roundw
          case rel => exact ⟨k + 1, by omega, by go_num, hbel.alloc hbel.size _, hh'⟩
          case measure => simp [intOf]; omega
        · have h2' : 2000 < s.size := by omega
          have HF : Hid (tooL fs = true) := Lib.hid (by
            unfold tooL; rw [Bool.or_eq_true]; right; rw [List.any_eq_true]
            exact ⟨fs[k], List.getElem_mem hlt, by rw [HSQ.out]; simpa using h2'⟩)
          clear h2
          go_wp2
          go_ret
          exact ⟨ret_bool HF.out.symm, hbel.alloc hbel.size _⟩
      · have HF : Hid (tooL fs = false) := Lib.hid (by
          unfold tooL; rw [Bool.or_eq_false_iff]; refine ⟨by simpa using h64', ?_⟩
          rw [List.any_eq_false]; intro f hf
          obtain ⟨j, hj, rfl⟩ := List.mem_iff_getElem.1 hf
          have := hh.out j hj (by omega)
          simp; exact this)
        go_wp2
        go_ret
        exact ⟨ret_bool HF.out.symm, hbel⟩

theorem tooLong_nil (a : Option Addr) (c : Nat) (w : World) :
    Calls Tryd.prog 49 #[.slice a 0 c] w fun e w' => e = .returned (.bool false) ∧ Below w.heap.size w w' := by
  go_enter Tryd.func49, Tryd.ntmps49
  go_wp2
  refine wp_loop_rounds 1 ?_
  rw [rounds_succ]
  go_wp2
  go_ret
  exact ⟨rfl, Below.refl _ _⟩

theorem tooLong_any (v : Value) (fs : List (ByteArray × Bool)) (w : World) (h : FieldsAt w v fs) (hl : fs.length ≤ 140737488355328) :
    Calls Tryd.prog 49 #[v] w fun e w' => e = .returned (.bool (tooL fs)) ∧ Below w.heap.size w w' := by
  rcases h with ⟨a, c, rfl, rfl⟩ | ⟨b, o, c, rfl, hb, hc⟩
  · exact tooLong_nil a c w
  · exact tooLong_some b o c fs w hb hl hc
end Go.Proofs.YtnmkcohfhomenaaDoor
