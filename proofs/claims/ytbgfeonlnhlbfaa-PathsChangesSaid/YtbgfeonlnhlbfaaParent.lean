/- Parent. -/
import Derived.Test.YtbgfeonlnhlbfaaMove
namespace Go.Proofs.Ytbgfeonlnhlbfaa
open Go.RowKit

def parentE (ps : List ByteArray) : Int := if checkE (bsL ps) = 0 then (if ps = [] then 4 else 0) else checkE (bsL ps)
def parentP (ps : List ByteArray) : List ByteArray := if checkE (bsL ps) = 0 then ps.take (ps.length - 1) else []
def parentL (ps : List ByteArray) : ByteArray := if checkE (bsL ps) = 0 then ps.getLastD ⟨#[]⟩ else ⟨#[]⟩

set_option maxHeartbeats 2000000 in
set_option maxRecDepth 100000 in
theorem Parent_any (v1 : Value) (ps : List ByteArray) (w : World) (h1 : StrsAt w v1 ps) (m1 : Modest ps) :
    Calls Try.prog 28 #[v1] w fun e w' => ∃ v, e = .returned (.tuple #[v, .string (parentL ps), .int .i64 (parentE ps)]) ∧ StrsAt w' v (parentP ps) ∧ Below w.heap.size w w' := by
  have HC := Lib.hid (check_any v1 ps w h1 m1)
  have H1 := Lib.hid h1
  obtain ⟨a1, c1, rfl⟩ := h1.shape
  clear h1 m1
  by_cases h0 : checkE (bsL ps) = 0
  · rw [h0] at HC
    have HS := Lib.hid (checked_small h0)
    have hl8 := HS.out.1
    by_cases hn : ps = []
    · subst hn
      clear h0
      rw [show parentE [] = 4 by decide +kernel, show parentP [] = [] by decide +kernel, show parentL [] = ⟨#[]⟩ by decide +kernel]
      go_enter Try.func28, Try.ntmps28
      go_wp2_with fail
      refine HC.out.mono ?_
      rintro e w1 ⟨rfl, hb1⟩
      go_wp2_with fail
      go_ret3
      exact ⟨.slice none 0 0, rfl, .inl ⟨_, _, rfl, rfl⟩, hb1⟩
    · have hpos : 0 < ps.length := by cases ps with | nil => exact absurd rfl hn | cons a r => simp
      have HE := Lib.hid (show parentE ps = 0 by unfold parentE; rw [if_pos h0, if_neg hn])
      have HP := Lib.hid (show parentP ps = ps.take (ps.length - 1) by unfold parentP; rw [if_pos h0])
      have HL := Lib.hid (show parentL ps = ps[ps.length - 1] by unfold parentL; rw [if_pos h0, List.getLastD_eq_getLast?, List.getLast?_eq_getElem?, List.getElem?_eq_getElem (by omega)]; rfl)
      rw [HE.out, HP.out, HL.out]
      have hne : ((ps.length : Int) == 0) = false := by simp; exact hn
      clear h0 hn
      go_enter Try.func28, Try.ntmps28
      go_wp2_with fail
      refine HC.out.mono ?_
      rintro e w1 ⟨rfl, hb1⟩
      have hs1 := hb1.size
      go_wp2_with fail
      refine (fresh_any _ ps w1 (H1.out.below hb1) HS.out).mono ?_
      rintro e w2 ⟨u, rfl, hf, hb2⟩
      have HF := Lib.hid hf.strs
      obtain ⟨g, cap, rfl, hrow⟩ := hf
      have hcap : ps.length ≤ cap := by
        rcases HF.out with ⟨a', c', hv, rfl⟩ | ⟨b', o', c', hv, hc', _⟩
        · simp at hpos
        · cases hv; exact hc'
      have hcell := hrow.cells (g := g) rfl (ps.length - 1) (.string ps[ps.length - 1]) (by rw [List.getElem?_map, List.getElem?_eq_getElem (by omega)]; rfl)
      rw [addr_add0] at hcell
      have hbb := hb1.trans (hb2.mono hs1)
      have HT : Hid (StrsAt w2 (.slice (some ⟨g, 0, none⟩) (ps.length - 1) (ps.length - 1)) (ps.take (ps.length - 1))) := Lib.hid (by
        rcases HF.out with ⟨a', c', hv, rfl⟩ | ⟨b', o', c', hv, hc', hb', hcl⟩
        · simp at hpos
        · cases hv
          refine .inr ⟨g, 0, ps.length - 1, by rw [List.length_take]; congr 1; omega, by rw [List.length_take]; omega, hb', fun j hj => ?_⟩
          rw [List.length_take] at hj
          rw [List.getElem_take]; exact hcl j (by omega))
      clear hrow
      have i0 : (0 : Int) ≤ (ps.length : Int) - 1 := by omega
      have i1 : (ps.length : Int) - 1 < (ps.length : Int) := by omega
      have i2 : ((ps.length : Int) - 1).toNat = ps.length - 1 := by omega
      have i3 : (ps.length : Int) - 1 ≤ (cap : Int) := by omega
      have i4 : ((ps.length - 1 : Nat) : Int) = (ps.length : Int) - 1 := by omega
      have HTC := Lib.hid hcell
      go_wp2_with fail
      go_quiet (fail)
      have hdr : Below w2.heap.size w2 (w2.drewN nq) := ⟨rfl, rfl, rfl, Nat.le_refl _, fun _ _ => rfl⟩
      go_wp2_with fail
      go_ret3
      exact ⟨.slice (some ⟨g, 0, none⟩) (ps.length - 1) (ps.length - 1), rfl, HT.out.below hdr, hbb.trans (hdr.mono hbb.size)⟩
  · have HE := Lib.hid (show parentE ps = checkE (bsL ps) by unfold parentE; rw [if_neg h0])
    have HP := Lib.hid (show parentP ps = [] by unfold parentP; rw [if_neg h0])
    have HL := Lib.hid (show parentL ps = ⟨#[]⟩ by unfold parentL; rw [if_neg h0])
    rw [HE.out, HP.out, HL.out]
    obtain ⟨z, hz⟩ : ∃ z, z = checkE (bsL ps) := ⟨_, rfl⟩
    rw [← hz] at HC h0 ⊢
    have hz' : (z != 0) = true := by simpa using h0
    clear hz
    go_enter Try.func28, Try.ntmps28
    go_wp2_with fail
    refine HC.out.mono ?_
    rintro e w1 ⟨rfl, hb1⟩
    go_wp2_with fail
    go_ret3
    exact ⟨.slice none 0 0, rfl, .inl ⟨_, _, rfl, rfl⟩, hb1⟩
end Go.Proofs.Ytbgfeonlnhlbfaa
