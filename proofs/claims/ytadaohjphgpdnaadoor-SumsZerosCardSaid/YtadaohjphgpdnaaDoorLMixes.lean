/- The laws SumsMixes, SumsZeros: the walks. -/
import Derived.Test.YtadaohjphgpdnaaDoorShown
namespace Go.Proofs.YtadaohjphgpdnaaDoor
open Go.RowKit

set_option maxHeartbeats 2000000 in
theorem sumsZeros_any (a b : Nat) (n : Int) (w : World) (hE : Env w) (ha : a < 4294967296) (hb : b < 4294967296) :
    Calls Tryd.prog 4 #[.int .u32 a, .int .u32 b, .int .i64 n] w fun e w' => e = .returned (.bool true) ∧ Below w.heap.size w w' := by
  have HS := Lib.hid (fun w (hE : Env w) => shown_any w hE)
  have h1 := hE.one
  by_cases hlt : 5000 < n ∧ n ≤ 1000000
  · have d1 : decide ((5000 : Int) < n) = true := decide_eq_true hlt.1
    have d2 : decide (n ≤ 1000000) = true := decide_eq_true hlt.2
    clear hlt
    go_enter Tryd.func4, Tryd.ntmps4
    go_wp2_with fail
    refine (HS.out _ hE).mono ?_
    rintro e w2 ⟨rfl, hb⟩
    go_wp2_with fail
    go_ret
    exact ⟨rfl, hb⟩
  · have HC := Lib.hid (fun w (hE : Env w) => zeros_any a n w ha hE)
    have HD := Lib.hid (fun w => refZeros_any a n w ha)
    have HG := Lib.hid (fun w (hE : Env w) => combine_any a b n w ha hb hE)
    have HI := Lib.hid (fun w => refCombine_any a b n w ha hb)
    have hd : decide ((5000 : Int) < n) = false ∨ (decide ((5000 : Int) < n) = true ∧ decide (n ≤ 1000000) = false) := by
      by_cases h5 : 5000 < n
      · exact .inr ⟨decide_eq_true h5, decide_eq_false (fun h => hlt ⟨h5, h⟩)⟩
      · exact .inl (decide_eq_false h5)
    clear hlt
    rcases hd with d1 | ⟨d1, d2⟩
    all_goals
      go_enter Tryd.func4, Tryd.ntmps4
      go_wp2_with fail
      refine (HC.out _ hE).mono ?_
      rintro e w2 ⟨rfl, hb⟩
      have hE2 := hE.below hb h1
      go_wp2_with fail
      refine (HD.out _).mono ?_
      rintro e w3 ⟨rfl, rfl⟩
      go_wp2_with fail
      refine (HG.out _ hE2).mono ?_
      rintro e w3 ⟨rfl, hb3⟩
      have hB3 := hb.trans (hb3.mono hb.size)
      have hE3 := hE.below hB3 h1
      clear hb hb3
      go_wp2_with fail
      refine (HI.out _).mono ?_
      rintro e w4 ⟨rfl, rfl⟩
      go_wp2_with fail
      refine (HS.out _ hE3).mono ?_
      rintro e w4 ⟨rfl, hb4⟩
      have hB4 := hB3.trans (hb4.mono hB3.size)
      go_wp2_with fail
      go_ret
      exact ⟨rfl, hB4⟩

set_option maxHeartbeats 2000000 in
theorem sumsMixes_any (h : Nat) (v : Value) (l : List UInt8) (n : Int) (o i : Nat) (w : World) (hE : Env w) (hh : h < 18446744073709551616) (hv : BytesAt w v l) (hl : l.length ≤ maxLen) (hn1 : -9223372036854775808 ≤ n) (hn2 : n ≤ 9223372036854775807) (ho : o < 256) (hi : i < 256) :
    Calls Tryd.prog 8 #[.int .u64 h, v, .agg #[.int .i64 n, .int .u8 o, .int .u8 i]] w fun e w' => e = .returned (.bool true) ∧ Below w.heap.size w w' := by
  obtain ⟨s, d, rfl⟩ := hv.shape
  have HS := Lib.hid (fun w (hE : Env w) => shown_any w hE)
  have h1 := hE.one
  have hB0 := (Below.refl w.heap.size w).alloc (Nat.le_refl _) (.cells #[.int .i64 n, .int .u8 o, .int .u8 i] 43 (0, 0))
  have hE0 := hE.below hB0 h1
  have hv0 := hv.below hB0 (Nat.le_refl _)
  have hR0 : (w.alloc (.cells #[.int .i64 n, .int .u8 o, .int .u8 i] 43 (0, 0))).heap[w.heap.size]? = some (.cells #[.int .i64 n, .int .u8 o, .int .u8 i] 43 (0, 0)) := heap_alloc_new w _
  have hs0 : w.heap.size < (w.alloc (.cells #[.int .i64 n, .int .u8 o, .int .u8 i] 43 (0, 0))).heap.size := by simp
  have HR0 := Lib.hid hR0
  clear hR0
  by_cases hlt : 2000 < l.length
  · have d1 : decide ((2000 : Int) < l.length) = true := decide_eq_true (by omega)
    clear hlt hv
    go_enter Tryd.func8, Tryd.ntmps8
    go_wp2_with fail
    refine (HS.out _ hE0).mono ?_
    rintro e w2 ⟨rfl, hb⟩
    have HB := Lib.hid (hB0.trans (hb.mono hB0.size))
    go_wp2_with fail
    go_ret
    exact ⟨rfl, HB.out⟩
  · have d1 : decide ((2000 : Int) < l.length) = false := decide_eq_false (by omega)
    have HC := Lib.hid (fun w (hv : BytesAt w (.slice s l.length d) l) => mixOn_any h _ l w hh hv hl)
    have HD := Lib.hid (fun w (hv : BytesAt w (.slice s l.length d) l) => refMixOn_any h _ l w hh hv hl)
    have HG := Lib.hid (fun w => roll_any h o i n w hh ho hi)
    have HI := Lib.hid (fun w => refRoll_any h o i n w hh ho hi)
    have HM := Lib.hid (fun w (hv : BytesAt w (.slice s l.length d) l) => mixAll_any _ l w hv hl)
    have HN := Lib.hid (fun w (hv : BytesAt w (.slice s l.length d) l) => refMix_any _ l w hv hl)
    clear hlt
    go_enter Tryd.func8, Tryd.ntmps8
    go_wp2_with fail
    refine (HC.out _ hv0).mono ?_
    rintro e w2 ⟨rfl, hb⟩
    have hB2 := hB0.trans (hb.mono hB0.size)
    have hR2 := (hb.block _ hs0).trans HR0.out
    have hv2 := hv.below hB2 (Nat.le_refl _)
    have hs2 := Nat.lt_of_lt_of_le hs0 hb.size
    have c0 : w2.cell? ⟨w.heap.size, 0, none⟩ = some (.int .i64 n) := by simp [World.cell?, hR2]
    have c1 : w2.cell? ⟨w.heap.size, 1, none⟩ = some (.int .u8 o) := by simp [World.cell?, hR2]
    have c2 : w2.cell? ⟨w.heap.size, 2, none⟩ = some (.int .u8 i) := by simp [World.cell?, hR2]
    have HR2 := Lib.hid hR2
    clear hR2 hb hB0 hE0 hv0 hs0
    go_wp2_with fail
    refine (HD.out _ hv2).mono ?_
    rintro e w3 ⟨rfl, rfl⟩
    go_wp2_with fail
    refine (HG.out _).mono ?_
    rintro e w3 ⟨rfl, hb⟩
    have hB3 := hB2.trans (hb.mono hB2.size)
    have hR3 := (hb.block _ hs2).trans HR2.out
    have hv3 := hv.below hB3 (Nat.le_refl _)
    have e0 : w3.cell? ⟨w.heap.size, 0, none⟩ = some (.int .i64 n) := by simp [World.cell?, hR3]
    have e1 : w3.cell? ⟨w.heap.size, 1, none⟩ = some (.int .u8 o) := by simp [World.cell?, hR3]
    have e2 : w3.cell? ⟨w.heap.size, 2, none⟩ = some (.int .u8 i) := by simp [World.cell?, hR3]
    clear hR3 hb hB2 hv2 hs2 c0 c1 c2
    go_wp2_with fail
    refine (HI.out _).mono ?_
    rintro e w4 ⟨rfl, rfl⟩
    go_wp2_with fail
    refine (HM.out _ hv3).mono ?_
    rintro e w4 ⟨rfl, hb⟩
    have hB4 := hB3.trans (hb.mono hB3.size)
    have hv4 := hv.below hB4 (Nat.le_refl _)
    have hE4 := hE.below hB4 h1
    clear hb hB3 hv3 e0 e1 e2
    go_wp2_with fail
    refine (HN.out _ hv4).mono ?_
    rintro e w5 ⟨rfl, rfl⟩
    go_wp2_with fail
    refine (HS.out _ hE4).mono ?_
    rintro e w5 ⟨rfl, hb⟩
    have hB5 := hB4.trans (hb.mono hB4.size)
    go_wp2_with fail
    go_ret
    exact ⟨rfl, hB5⟩
end Go.Proofs.YtadaohjphgpdnaaDoor
