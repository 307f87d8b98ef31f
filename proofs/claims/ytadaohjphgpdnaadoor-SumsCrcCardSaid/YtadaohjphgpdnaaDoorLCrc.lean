/- The law SumsCrc: the walk. -/
import Derived.Test.YtadaohjphgpdnaaDoorShown
namespace Go.Proofs.YtadaohjphgpdnaaDoor
open Go.RowKit

set_option maxHeartbeats 1000000 in
theorem sumsCrc_any (h : Nat) (v : Value) (l : List UInt8) (w : World) (hE : Env w) (hh : h < 4294967296) (hv : BytesAt w v l) (hl : l.length ≤ maxLen) :
    Calls Tryd.prog 3 #[.int .u32 h, v] w fun e w' => e = .returned (.bool true) ∧ Below w.heap.size w w' := by
  obtain ⟨s, d, rfl⟩ := hv.shape
  have HS := Lib.hid (fun w (hE : Env w) => shown_any w hE)
  have h1 := hE.one
  by_cases hlt : 2000 < l.length
  · have d1 : decide ((2000 : Int) < l.length) = true := decide_eq_true (by omega)
    clear hlt hv
    go_enter Tryd.func3, Tryd.ntmps3
    go_wp2_with fail
    refine (HS.out _ hE).mono ?_
    rintro e w2 ⟨rfl, hb⟩
    go_wp2_with fail
    go_ret
    exact ⟨rfl, hb⟩
  · have d1 : decide ((2000 : Int) < l.length) = false := decide_eq_false (by omega)
    have HC := Lib.hid (crcAll_any _ l w hE hv hl)
    have HRC := Lib.hid (fun w (hv : BytesAt w (.slice s l.length d) l) => refCrc_any _ l w hv hl)
    have HO := Lib.hid (fun w (hE : Env w) (hv : BytesAt w (.slice s l.length d) l) => on_any h _ l w hh hE hv hl)
    have HRO := Lib.hid (fun w (hv : BytesAt w (.slice s l.length d) l) => refOn_any h _ l w hh hv hl)
    clear hlt
    go_enter Tryd.func3, Tryd.ntmps3
    go_wp2_with fail
    refine HC.out.mono ?_
    rintro e w2 ⟨rfl, hb⟩
    have hv2 := hv.below hb (Nat.le_refl _)
    have hE2 := hE.below hb h1
    go_wp2_with fail
    refine (HRC.out _ hv2).mono ?_
    rintro e w3 ⟨rfl, rfl⟩
    go_wp2_with fail
    refine (HO.out _ hE2 hv2).mono ?_
    rintro e w3 ⟨rfl, hb3⟩
    have hB3 := hb.trans (hb3.mono hb.size)
    have hv3 := hv.below hB3 (Nat.le_refl _)
    have hE3 := hE.below hB3 h1
    clear hb hb3
    go_wp2_with fail
    refine (HRO.out _ hv3).mono ?_
    rintro e w4 ⟨rfl, rfl⟩
    go_wp2_with fail
    refine (HS.out _ hE3).mono ?_
    rintro e w4 ⟨rfl, hb4⟩
    have hB4 := hB3.trans (hb4.mono hB3.size)
    go_wp2_with fail
    go_ret
    exact ⟨rfl, hB4⟩
end Go.Proofs.YtadaohjphgpdnaaDoor
