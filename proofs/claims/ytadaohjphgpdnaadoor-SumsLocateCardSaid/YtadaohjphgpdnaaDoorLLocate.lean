/- The law SumsLocate: the walk. -/
import Derived.Test.YtadaohjphgpdnaaDoorRefLoc
namespace Go.Proofs.YtadaohjphgpdnaaDoor
open Go.RowKit

set_option maxHeartbeats 1000000 in
theorem sumsLocate_any (s : Option Addr) (d : Nat) (l : List UInt8) (want : Nat) (w : World) (hE : Env w) (hv : BytesAt w (.slice s l.length d) l) (hl : l.length ≤ maxLen) (hcap : l.length ≤ d) (hw : want < 4294967296) :
    Calls Tryd.prog 6 #[.slice s l.length d, .int .u32 want] w fun e w' => e = .returned (.bool true) ∧ Below w.heap.size w w' := by
  have HS := Lib.hid (fun w (hE : Env w) => shown_any w hE)
  have h1 := hE.one
  by_cases hlt : (40 < l.length ∧ l.length ≤ 1000) ∨ 1010 < l.length
  · have hd : (decide ((40 : Int) < l.length) = true ∧ decide ((l.length : Int) ≤ 1000) = true) ∨ (decide ((40 : Int) < l.length) = true ∧ decide ((l.length : Int) ≤ 1000) = false ∧ decide ((1010 : Int) < l.length) = true) := by
      rcases hlt with ⟨a, b⟩ | a
      · exact .inl ⟨decide_eq_true (by omega), decide_eq_true (by omega)⟩
      · exact .inr ⟨decide_eq_true (by omega), decide_eq_false (by omega), decide_eq_true (by omega)⟩
    clear hlt hv
    rcases hd with ⟨d1, d2⟩ | ⟨d1, d2, d3⟩
    all_goals
      go_enter Tryd.func6, Tryd.ntmps6
      go_wp2_with fail
      refine (HS.out _ hE).mono ?_
      rintro e w2 ⟨rfl, hb⟩
      go_wp2_with fail
      go_ret
      exact ⟨rfl, hb⟩
  · have hle : l.length ≤ 1010 := by omega
    have hd : (decide ((40 : Int) < l.length) = false ∧ decide ((1010 : Int) < l.length) = false) ∨ (decide ((40 : Int) < l.length) = true ∧ decide ((l.length : Int) ≤ 1000) = false ∧ decide ((1010 : Int) < l.length) = false) := by
      by_cases a : 40 < l.length
      · exact .inr ⟨decide_eq_true (by omega), decide_eq_false (by omega), decide_eq_false (by omega)⟩
      · exact .inl ⟨decide_eq_false (by omega), decide_eq_false (by omega)⟩
    have HC := Lib.hid (locate_any _ l want w hE hv hl hw)
    have HR := Lib.hid (fun w (hv : BytesAt w (.slice s l.length d) l) => refLocate_any s d l want w hv hcap hle hw)
    obtain ⟨x, y, z, hxyz⟩ : ∃ x y z, locV l want = .tuple #[.int .i64 x, .int .u8 y, .int .i64 z] := ⟨_, _, _, rfl⟩
    rw [hxyz] at HC HR
    clear hlt hxyz
    rcases hd with ⟨d1, d2⟩ | ⟨d1, d2, d3⟩
    all_goals
      go_enter Tryd.func6, Tryd.ntmps6
      go_wp2_with fail
      refine HC.out.mono ?_
      rintro e w2 ⟨rfl, hb⟩
      have HR2 := Lib.hid (HR.out w2 (hv.below hb (Nat.le_refl _)))
      go_wp2_with fail
      refine HR2.out.mono ?_
      rintro e w3 ⟨rfl, hb3⟩
      have hB3 := hb.trans (hb3.mono hb.size)
      have HS3 := Lib.hid (HS.out w3 (hE.below hB3 h1))
      clear hb hb3 HR2
      go_wp2_with fail
      refine HS3.out.mono ?_
      rintro e w4 ⟨rfl, hb4⟩
      have hB4 := hB3.trans (hb4.mono hB3.size)
      go_wp2_with fail
      go_ret
      exact ⟨rfl, hB4⟩
end Go.Proofs.YtadaohjphgpdnaaDoor
