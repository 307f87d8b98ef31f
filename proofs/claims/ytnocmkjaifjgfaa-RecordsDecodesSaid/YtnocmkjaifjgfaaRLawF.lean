/- Not in every seat: the laws' far; the reference's Same of values. -/
import Derived.Test.YtnocmkjaifjgfaaRLaw
namespace Go.Proofs.Ytnocmkjaifjgfaa.R
open Go.RowKit

/-- The cells of the value k. -/
theorem ValsAt.val {w : World} {a : Option Addr} {n d : Nat} {l : List Rv} (h : ValsAt w (.slice a n d) l) (k : Nat) (hk : k < l.length) :
    ∃ g o, a = some ⟨g, o, none⟩ ∧ ∀ W, Below w.heap.size w W → W.cell? ⟨g, o + k * 3, none⟩ = some (.int .u64 (l[k].num : Nat)) ∧ W.cell? ⟨g, o + k * 3 + 1, none⟩ = some (.string l[k].str) ∧
      ∃ b d', W.cell? ⟨g, o + k * 3 + 2, none⟩ = some (.slice b l[k].list.length d') ∧ NumsAt W (.slice b l[k].list.length d') l[k].list := by
  rcases h with ⟨a', c, hv, rfl⟩ | ⟨g, o, c, hv, hg, hc⟩
  · simp at hk
  · injection hv with h1 h2 h3
    subst h1
    refine ⟨g, o, rfl, fun W hb => ?_⟩
    obtain ⟨c0, c1, x, c2, hx⟩ := hc k hk
    obtain ⟨b, d', rfl⟩ := hx.shape
    exact ⟨(bcell hb g _ hg).trans c0, (bcell hb g _ hg).trans c1, b, d', (bcell hb g _ hg).trans c2, hx.below hb (Nat.le_refl _)⟩

set_option maxHeartbeats 4000000 in
theorem far_any (v : Value) (l : List Rv) (w : World) (hv : ValsAt w v l) (hl : l.length ≤ maxLen) (hm : ∀ x ∈ l, x.str.size ≤ maxLen ∧ x.list.length ≤ maxLen) :
    Calls Try.prog 8 #[v] w fun e w' => ∃ fb : Bool, e = .returned (.bool fb) ∧ (fb = false → l.length ≤ 70) ∧ Below w.heap.size w w' := by
  have HV := Lib.hid hv
  have HM := Lib.hid hm
  obtain ⟨a, d, rfl⟩ := hv.shape
  unfold maxLen at hl
  clear hv hm
  by_cases h70 : 70 < l.length
  · have d1 : decide ((70 : Int) < l.length) = true := decide_eq_true (by omega)
    clear h70
    go_enter Try.func8, Try.ntmps8
    go_wp2_with fail
    go_ret
    exact ⟨true, rfl, fun h => (nomatch h), Below.refl _ _⟩
  · have d1 : decide ((70 : Int) < l.length) = false := decide_eq_false (by omega)
    have h70' : l.length ≤ 70 := by omega
    clear h70
    go_enter Try.func8, Try.ntmps8
    go_wp2_with fail
    go_loopw [3, 4] (fun n i wr => ∃ (k : Nat) (m : Int), k ≤ l.length ∧ 0 ≤ m ∧ m ≤ 780 * k ∧ i = .int .i64 k ∧ n = .int .i64 m ∧ Hid (Below w.heap.size w wr)) (fun _ i _ => l.length - (intOf i).toNat)
    case atStart => exact ⟨0, 0, by omega, by omega, by omega, rfl, rfl, Lib.hid (Below.refl _ _)⟩
    case round =>
      obtain ⟨k, m, hk, hm0, hm1, rfl, rfl, hB⟩ := hrel
      by_cases hlt : k < l.length
      · obtain ⟨g, o, rfl, hval⟩ := HV.out.val k hlt
        obtain ⟨c0, c1, b, d', c2, hx⟩ := hval wr hB.out
        have hmx := HM.out _ (List.getElem_mem hlt)
        unfold maxLen at hmx
        obtain ⟨hm2, hm3⟩ := hmx
        generalize l[k] = rv at *
        clear hval hx
        by_cases h5 : 500 < rv.str.size
        · have d2 : decide ((500 : Int) < rv.str.size) = true := decide_eq_true (by omega)
          clear h5
          go_wp2_with fail
          go_ret
          exact ⟨true, rfl, fun h => (nomatch h), hB.out⟩
        · have d2 : decide ((500 : Int) < rv.str.size) = false := decide_eq_false (by omega)
          have h5' : rv.str.size ≤ 500 := by omega
          clear h5
          by_cases h6 : 70 < rv.list.length
          · have d3 : decide ((70 : Int) < rv.list.length) = true := decide_eq_true (by omega)
            clear h6
            go_wp2_with fail
            go_ret
            exact ⟨true, rfl, fun h => (nomatch h), hB.out⟩
          · have d3 : decide ((70 : Int) < rv.list.length) = false := decide_eq_false (by omega)
            have h6' : rv.list.length ≤ 70 := by omega
            have hs1 : m + (rv.str.size : Int) ≤ 60000 := by omega
            have hw1 : IntKind.i64.wrap (m + (rv.str.size : Int)) = m + (rv.str.size : Int) := IntWalk.i64_in _ (by omega)
            have hw2 : IntKind.i64.wrap (4 * (rv.list.length : Int)) = 4 * (rv.list.length : Int) := IntWalk.i64_in _ (by omega)
            have hw3 : IntKind.i64.wrap (m + (rv.str.size : Int) + 4 * (rv.list.length : Int)) = m + (rv.str.size : Int) + 4 * (rv.list.length : Int) := IntWalk.i64_in _ (by omega)
            have hm4 : 0 ≤ m + (rv.str.size : Int) + 4 * (rv.list.length : Int) := by omega
            have hm5 : m + (rv.str.size : Int) + 4 * (rv.list.length : Int) ≤ 780 * (k + 1 : Nat) := by omega
            clear h6
            go_wp2_with fail
            go_quiet (fail)
            clear hw1 hw2 hw3
            go_wp2_with fail
            go_roundw
            case rel => exact ⟨k + 1, m + (rv.str.size : Int) + 4 * (rv.list.length : Int), by omega, hm4, hm5, by go_num, rfl, Lib.hid (hB.out.trans ⟨rfl, rfl, rfl, Nat.le_refl _, fun _ _ => rfl⟩)⟩
            case measure => simp [intOf]; omega
      · obtain rfl : k = l.length := by omega
        go_wp2_with fail
        go_ret
        exact ⟨_, rfl, fun _ => h70', hB.out⟩
end Go.Proofs.Ytnocmkjaifjgfaa.R
