/- The reference's Same of equal lists of values. -/
import Derived.Test.YtnocmkjaifjgfaaRLawF
namespace Go.Proofs.Ytnocmkjaifjgfaa.R
open Go.RowKit

set_option maxHeartbeats 8000000 in
set_option maxRecDepth 100000 in
theorem sameV_any (u v : Value) (l : List Rv) (w : World) (hu : ValsAt w u l) (hv : ValsAt w v l) (hl : l.length ≤ maxLen) (hm : ∀ x ∈ l, x.list.length ≤ maxLen) :
    Calls Try.prog 19 #[u, v] w fun e w' => e = .returned (.bool true) ∧ Below w.heap.size w w' := by
  unfold maxLen at hl
  have HU := Lib.hid hu
  have HV := Lib.hid hv
  have HM := Lib.hid hm
  obtain ⟨s, d, rfl⟩ := hu.shape
  obtain ⟨s', d', rfl⟩ := hv.shape
  clear hu hv hm
  go_enter Try.func19, Try.ntmps19
  go_wp2_with fail
  go_loopw [5, 6] (fun i _ wr => ∃ j : Nat, j ≤ l.length ∧ i = .int .i64 j ∧ Hid (Below w.heap.size w wr)) (fun i _ _ => l.length - (intOf i).toNat)
  case atStart => exact ⟨0, by omega, rfl, Lib.hid (Below.refl _ _)⟩
  case round =>
    obtain ⟨j, hj, rfl, hB⟩ := hrel
    by_cases hlt : j < l.length
    · obtain ⟨g, o, rfl, hval⟩ := HU.out.val j hlt
      obtain ⟨g', o', rfl, hval'⟩ := HV.out.val j hlt
      obtain ⟨c0, c1, b, e, c2, hx⟩ := hval wr hB.out
      obtain ⟨c0', c1', b', e', c2', hx'⟩ := hval' wr hB.out
      have hml := HM.out _ (List.getElem_mem hlt)
      unfold maxLen at hml
      generalize l[j] = rv at *
      clear hval hval'
      have HX := Lib.hid hx
      have HX' := Lib.hid hx'
      have HBW := Lib.hid hB.out
      clear hx hx'
      go_wp2_with fail
      go_quiet (fail)
      go_wp2_with fail
      have HBW2 : Hid (Below w.heap.size w (wr.drewN nq)) := Lib.hid (below_drewN HBW.out nq)
      have hbw2 := HBW2.out
      have HS2 : Hid (∀ W, Below wr.heap.size wr W → (W.cell? ⟨g, o + j * 3 + 2, none⟩ = some (.slice b rv.list.length e) ∧ W.cell? ⟨g', o' + j * 3 + 2, none⟩ = some (.slice b' rv.list.length e') ∧ NumsAt W (.slice b rv.list.length e) rv.list ∧ NumsAt W (.slice b' rv.list.length e') rv.list)) := Lib.hid (fun W hb => ⟨(bcell hb g _ (by
          unfold World.cell? at c2
          rcases Nat.lt_or_ge g wr.heap.size with hh | hh
          · exact hh
          · simp [Array.getElem?_eq_none hh] at c2)).trans c2, (bcell hb g' _ (by
          unfold World.cell? at c2'
          rcases Nat.lt_or_ge g' wr.heap.size with hh | hh
          · exact hh
          · simp [Array.getElem?_eq_none hh] at c2')).trans c2', HX.out.below hb (Nat.le_refl _), HX'.out.below hb (Nat.le_refl _)⟩)
      clear c0 c1 c2 c0' c1' c2' hbw2
      go_loopw [6] (fun i wv => ∃ m : Nat, m ≤ rv.list.length ∧ i = .int .i64 m ∧ Hid (Below wr.heap.size wr wv)) (fun i _ => rv.list.length - (intOf i).toNat)
      case atStart => exact ⟨0, by omega, rfl, Lib.hid (below_drewN (Below.refl _ _) nq)⟩
      case round =>
        obtain ⟨m, hm, rfl, hBv⟩ := hrel
        obtain ⟨e1, e2, n1, n2⟩ := HS2.out _ hBv.out
        by_cases hlm : m < rv.list.length
        · rcases n1 with ⟨_, _, hva, hl0⟩ | ⟨g3, i3, c3, hva, hg3, hcs⟩
          · rw [hl0] at hlm; simp at hlm
          rcases n2 with ⟨_, _, hvb, hl0⟩ | ⟨g4, i4, c4, hvb, hg4, hcs'⟩
          · rw [hl0] at hlm; simp at hlm
          obtain ⟨rfl, rfl⟩ : b = some ⟨g3, i3, none⟩ ∧ e = c3 := by injection hva with h1 h2 h3; exact ⟨h1, h3⟩
          obtain ⟨rfl, rfl⟩ : b' = some ⟨g4, i4, none⟩ ∧ e' = c4 := by injection hvb with h1 h2 h3; exact ⟨h1, h3⟩
          have y1 := hcs m hlm
          have y2 := hcs' m hlm
          clear hcs hcs' hva hvb
          go_wp2_with fail
          go_quiet (fail)
          go_wp2_with fail
          go_roundw
          case rel => exact ⟨m + 1, by omega, by go_num, Lib.hid (hBv.out.trans ⟨rfl, rfl, rfl, Nat.le_refl _, fun _ _ => rfl⟩)⟩
          case measure => simp [intOf]; omega
        · obtain rfl : m = rv.list.length := by omega
          clear n1 n2
          go_wp2_with fail
          go_roundw
          case rel => exact ⟨j + 1, by omega, by go_num, Lib.hid (HBW.out.trans (hBv.out.mono HBW.out.size))⟩
          case measure => simp [intOf]; omega
    · obtain rfl : j = l.length := by omega
      go_wp2_with fail
      go_ret
      exact ⟨rfl, hB.out⟩
end Go.Proofs.Ytnocmkjaifjgfaa.R
