/- WordsNames. -/
import Derived.Test.YtnmkcohfhomenaaDoorShown
namespace Go.Proofs.YtnmkcohfhomenaaDoor
open Go.RowKit

theorem intV_tuple (l : List UInt8) (low high : Int) : ∃ n e, intV l low high = .tuple #[.int .i64 n, .int .i64 e] := by
  unfold intV; split
  · exact ⟨_, _, rfl⟩
  · split
    · split
      · exact ⟨_, _, rfl⟩
      · exact ⟨_, _, rfl⟩
    · exact ⟨_, _, rfl⟩

set_option maxHeartbeats 1000000 in
set_option maxRecDepth 100000 in
theorem wordsNames_any (s : ByteArray) (low high : Int) (w : World) (hE : EnvD w) (l0 : -9223372036854775808 ≤ low) (l1 : low ≤ 9223372036854775807) (h0 : -9223372036854775808 ≤ high) (h1 : high ≤ 9223372036854775807) :
    Calls Tryd.prog 3 #[.string s, .int .i64 low, .int .i64 high] w fun e w' => e = .returned (.bool true) ∧ Below w.heap.size w w' := by
  have h9 := hE.env.nine
  by_cases hs : 1000 < s.size
  · have H1 := Lib.hid (shown_any w hE)
    clear hE
    go_enter Tryd.func3, Tryd.ntmps3
    go_wp2_with fail
    refine H1.out.mono ?_
    rintro e w1 ⟨rfl, hB1⟩
    go_wp2_with fail
    go_ret
    exact ⟨rfl, hB1⟩
  · have hs' : s.size ≤ 1000 := by omega
    obtain ⟨n, er, hv⟩ := intV_tuple s.data.toList low high
    have H1 := Lib.hid (int_any s low high w hE.env (by omega))
    rw [hv] at H1
    have H2 := Lib.hid (fun w => intR_any s low high w (by omega))
    rw [hv] at H2
    have H3 := Lib.hid (fun w => name_any s w (by unfold maxLen; omega))
    have H4 := Lib.hid (fun w => nameR_any s w (by unfold maxLen; omega))
    have H5 := Lib.hid (fun (w : World) (hE : EnvD w) => digits_any low w l0 l1 hE.tab)
    have H6 := Lib.hid (fun (w : World) => digitsR_any low.natAbs low w rfl l0 l1)
    have H7 := Lib.hid (fun (w : World) (hE : EnvD w) => digits_any high w h0 h1 hE.tab)
    have H8 := Lib.hid (fun (w : World) => digitsR_any high.natAbs high w rfl h0 h1)
    have HE := Lib.hid hE
    clear hv hE
    go_enter Tryd.func3, Tryd.ntmps3
    go_wp2_with fail
    refine H1.out.mono ?_
    rintro e w1 ⟨rfl, hB1⟩
    have hE1 := Lib.hid (HE.out.below hB1 h9)
    have hn1 := hE1.out.env.nine
    go_wp2_with fail
    refine (H2.out _).mono ?_
    rintro e w1' ⟨rfl, rfl⟩
    go_wp2_with fail
    refine (H3.out _).mono ?_
    rintro e w1' ⟨rfl, rfl⟩
    go_wp2_with fail
    refine (H4.out _).mono ?_
    rintro e w1' ⟨rfl, rfl⟩
    go_wp2_with fail
    refine (H5.out _ hE1.out).mono ?_
    rintro e w2 ⟨rfl, hB2⟩
    have hE2 := Lib.hid (hE1.out.below hB2 hn1)
    have hn2 := hE2.out.env.nine
    go_wp2_with fail
    refine (H6.out _).mono ?_
    rintro e w3 ⟨rfl, hB3⟩
    have hE3 := Lib.hid (hE2.out.below hB3 hn2)
    have hn3 := hE3.out.env.nine
    go_wp2_with fail
    refine (H7.out _ hE3.out).mono ?_
    rintro e w4 ⟨rfl, hB4⟩
    have hE4 := Lib.hid (hE3.out.below hB4 hn3)
    have hn4 := hE4.out.env.nine
    go_wp2_with fail
    refine (H8.out _).mono ?_
    rintro e w5 ⟨rfl, hB5⟩
    have hE5 := Lib.hid (hE4.out.below hB5 hn4)
    go_wp2_with fail
    refine (shown_any w5 hE5.out).mono ?_
    rintro e w6 ⟨rfl, hB6⟩
    go_wp2_with fail
    go_ret
    have s1 := hB1.size; have s2 := hB2.size; have s3 := hB3.size; have s4 := hB4.size; have s5 := hB5.size
    exact ⟨rfl, hB1.trans ((hB2.mono (by omega)).trans ((hB3.mono (by omega)).trans ((hB4.mono (by omega)).trans ((hB5.mono (by omega)).trans (hB6.mono (by omega))))))⟩
end Go.Proofs.YtnmkcohfhomenaaDoor
