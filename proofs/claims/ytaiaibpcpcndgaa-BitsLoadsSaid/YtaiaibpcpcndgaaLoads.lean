/- BitsLoads: the walk. -/
import Derived.Test.YtaiaibpcpcndgaaRef4
import Derived.Test.YtaiaibpcpcndgaaWords
import Derived.Test.YtaiaibpcpcndgaaAwake
namespace Go.Proofs.Ytaiaibpcpcndgaa
open Go.RowKit

set_option maxHeartbeats 4000000 in
set_option maxRecDepth 100000 in
theorem bitsLoads_any (n : Int) (u : Value) (l : List UInt8) (w : World) (l0 : -9223372036854775808 ≤ n) (l1 : n ≤ 9223372036854775807) (hv : BytesAt w u l) (hl : l.length ≤ maxLen) :
    Calls Try.prog 4 #[.int .i64 n, u] w fun e w' => e = .returned (.bool true) ∧ Below w.heap.size w w' := by
  obtain ⟨s, d, rfl⟩ : ∃ s d, u = .slice s l.length d := by
    rcases hv with ⟨a, d, rfl, rfl⟩ | ⟨b, o, d, rfl, _⟩
    · exact ⟨a, d, rfl⟩
    · exact ⟨some ⟨b, o, none⟩, d, rfl⟩
  have HV := Lib.hid hv
  have hl' := hl
  unfold maxLen at hl'
  clear hv
  by_cases h6 : 600 < l.length
  · go_enter Try.func4, Try.ntmps4
    go_wp2_with fail
    refine (awake_any w).mono ?_
    rintro e w1 ⟨rfl, hB1⟩
    go_wp2_with fail
    go_ret
    exact ⟨rfl, hB1⟩
  · by_cases hn : n < 0 ∨ 4096 < n
    · have H1 := Lib.hid (new_no n w hn)
      have H2 := Lib.hid (refNew_no n w hn)
      have H3 := Lib.hid (load_no n (.slice s l.length d) w hn)
      have H4 := Lib.hid (refLoad_no n (.slice s l.length d) w hn)
      clear hn
      go_enter Try.func4, Try.ntmps4
      go_wp2_with fail
      refine H1.out.mono ?_
      rintro e w1 ⟨rfl, rfl⟩
      go_wp2_with fail
      refine H2.out.mono ?_
      rintro e w1 ⟨rfl, rfl⟩
      go_wp2_with fail
      refine H3.out.mono ?_
      rintro e w1 ⟨rfl, rfl⟩
      go_wp2_with fail
      refine H4.out.mono ?_
      rintro e w1 ⟨rfl, rfl⟩
      go_wp2_with fail
      refine (awake_any w).mono ?_
      rintro e w1 ⟨rfl, hB1⟩
      go_wp2_with fail
      go_ret
      exact ⟨rfl, hB1⟩
    · obtain ⟨n, rfl⟩ : ∃ k : Nat, n = k := ⟨n.toNat, by omega⟩
      have hn4 : n ≤ 4096 := by omega
      clear hn
      have H1 := Lib.hid (new_any n w hn4)
      cases hx : loadOK n l with
      | true =>
        have HX := Lib.hid hx
        clear hx
        go_enter Try.func4, Try.ntmps4
        go_wp2_with fail
        refine H1.out.mono ?_
        rintro e w1 ⟨rfl, hm1, hB1, hs1⟩
        have HM1 := Lib.hid hm1
        have hb1 : w.heap.size < w1.heap.size := by omega
        clear hm1 hs1
        go_wp2_with fail
        refine (refNew_any n w1 hn4).mono ?_
        rintro e w2 ⟨rfl, hr2, hB2⟩
        have hBA := boolsAt_of_row (L := List.replicate n false) (v := .slice (some ⟨w1.heap.size, 0, none⟩) n n) (by rw [List.length_replicate]; exact hr2)
        have H3 := Lib.hid (same_any w.heap.size _ _ _ w2 (HM1.out.below hB2 hb1) hBA (by rw [List.length_replicate]; exact hn4))
        rw [beq_self_eq_true] at H3
        clear hr2 hBA
        go_wp2_with fail
        refine H3.out.mono ?_
        rintro e w3 ⟨rfl, hB3⟩
        have k2 : Below w.heap.size w w2 := hB1.trans (hB2.mono hB1.size)
        have k3 : Below w.heap.size w w3 := k2.trans (hB3.mono k2.size)
        have HV3 := Lib.hid (HV.out.below k3)
        clear hB1 hB2 hB3
        go_wp2_with fail
        refine (load_any n (.slice s l.length d) l w3 hn4 HV3.out hl).mono ?_
        rintro e w4 ⟨h4, -, hB4, hs4⟩
        obtain ⟨rfl, hm4⟩ := h4 HX.out
        have HM4 := Lib.hid hm4
        have HV4 := Lib.hid (HV3.out.below hB4)
        clear h4 hm4
        go_wp2_with fail
        refine (refLoad_any n (.slice s l.length d) l w4 hn4 HV4.out hl).mono ?_
        rintro e w5 ⟨h5, -, hB5⟩
        obtain ⟨v5, rfl, hv5⟩ := h5 HX.out
        have HV5 := Lib.hid hv5
        have HM5 := Lib.hid (HM4.out.below hB5 hs4)
        have hlt5 : w3.heap.size < w5.heap.size := Nat.lt_of_lt_of_le hs4 hB5.size
        have k5 : Below w.heap.size w w5 := (k3.trans (hB4.mono k3.size)).trans (hB5.mono (Nat.le_trans k3.size hB4.size))
        clear h5 hv5 hB4 hB5
        have H6 := Lib.hid (len_any w3.heap.size _ w5 HM5.out)
        rw [bitsN_len] at H6
        go_wp2_with fail
        refine H6.out.mono ?_
        rintro e w5' ⟨rfl, rfl⟩
        go_wp2_with fail
        refine (bytes_any w3.heap.size _ w5 HM5.out).mono ?_
        rintro e w6 ⟨v6, rfl, -, hv6, hB6⟩
        have HV6 := Lib.hid hv6
        have HM6 := Lib.hid (HM5.out.below hB6 hlt5)
        have HB6 := Lib.hid (HV5.out.below hB6)
        have hlt6 : w3.heap.size < w6.heap.size := Nat.lt_of_lt_of_le hlt5 hB6.size
        have k6 : Below w.heap.size w w6 := k5.trans (hB6.mono k5.size)
        clear hv6 hB6
        go_wp2_with fail
        refine (load_any n v6 _ w6 hn4 HV6.out (by rw [bytesL_len, bitsN_len]; unfold maxLen; omega)).mono ?_
        rintro e w7 ⟨h7, -, hB7, hs7⟩
        have hok7 : loadOK n (bytesL (bitsN l n)) = true := by
          have := loadOK_bytes (bitsN l n); rw [bitsN_len] at this; exact this
        obtain ⟨rfl, hm7⟩ := h7 hok7
        have hbk : bitsN (bytesL (bitsN l n)) n = bitsN l n := by
          have := bits_back (bitsN l n); rw [bitsN_len] at this; exact this
        rw [hbk] at hm7
        have HO7 := Lib.hid hm7
        have HM7 := Lib.hid (HM6.out.below hB7 hlt6)
        have HB7 := Lib.hid (HB6.out.below hB7)
        have hlt7 : w3.heap.size < w7.heap.size := Nat.lt_of_lt_of_le hlt6 hB7.size
        have k7 : Below w.heap.size w w7 := k6.trans (hB7.mono k6.size)
        clear h7 hok7 hbk hm7 hB7
        have H8 := Lib.hid (same_any w3.heap.size _ _ _ w7 HM7.out HB7.out (by rw [bitsN_len]; exact hn4))
        rw [beq_self_eq_true] at H8
        go_wp2_with fail
        refine H8.out.mono ?_
        rintro e w8 ⟨rfl, hB8⟩
        have HM8 := Lib.hid (HM7.out.below hB8 hlt7)
        have HO8 := Lib.hid (HO7.out.below hB8 hs7)
        have k8 : Below w.heap.size w w8 := k7.trans (hB8.mono k7.size)
        have hlt8 : w3.heap.size < w8.heap.size := Nat.lt_of_lt_of_le hlt7 hB8.size
        have hs8 : w6.heap.size < w8.heap.size := Nat.lt_of_lt_of_le hs7 hB8.size
        clear hB8
        have H9 := Lib.hid (sameM_any w3.heap.size w6.heap.size _ _ w8 HM8.out HO8.out)
        rw [beq_self_eq_true] at H9
        go_wp2_with fail
        refine H9.out.mono ?_
        rintro e w9 ⟨rfl, hB9⟩
        have HM9 := Lib.hid (HM8.out.below hB9 hlt8)
        have HO9 := Lib.hid (HO8.out.below hB9 hs8)
        have k9 : Below w.heap.size w w9 := k8.trans (hB9.mono k8.size)
        clear hB9
        have H10 := Lib.hid (sameM_any w6.heap.size w3.heap.size _ _ w9 HO9.out HM9.out)
        rw [beq_self_eq_true] at H10
        go_wp2_with fail
        refine H10.out.mono ?_
        rintro e w10 ⟨rfl, hB10⟩
        have k10 : Below w.heap.size w w10 := k9.trans (hB10.mono k9.size)
        clear hB10
        go_wp2_with fail
        refine (awake_any w10).mono ?_
        rintro e w11 ⟨rfl, hB11⟩
        go_wp2_with fail
        go_ret
        exact ⟨rfl, k10.trans (hB11.mono k10.size)⟩
      | false =>
        have HX := Lib.hid hx
        clear hx
        go_enter Try.func4, Try.ntmps4
        go_wp2_with fail
        refine H1.out.mono ?_
        rintro e w1 ⟨rfl, hm1, hB1, hs1⟩
        have HM1 := Lib.hid hm1
        have hb1 : w.heap.size < w1.heap.size := by omega
        clear hm1 hs1
        go_wp2_with fail
        refine (refNew_any n w1 hn4).mono ?_
        rintro e w2 ⟨rfl, hr2, hB2⟩
        have hBA := boolsAt_of_row (L := List.replicate n false) (v := .slice (some ⟨w1.heap.size, 0, none⟩) n n) (by rw [List.length_replicate]; exact hr2)
        have H3 := Lib.hid (same_any w.heap.size _ _ _ w2 (HM1.out.below hB2 hb1) hBA (by rw [List.length_replicate]; exact hn4))
        rw [beq_self_eq_true] at H3
        clear hr2 hBA
        go_wp2_with fail
        refine H3.out.mono ?_
        rintro e w3 ⟨rfl, hB3⟩
        have k2 : Below w.heap.size w w2 := hB1.trans (hB2.mono hB1.size)
        have k3 : Below w.heap.size w w3 := k2.trans (hB3.mono k2.size)
        have HV3 := Lib.hid (HV.out.below k3)
        clear hB1 hB2 hB3
        go_wp2_with fail
        refine (load_any n (.slice s l.length d) l w3 hn4 HV3.out hl).mono ?_
        rintro e w4 ⟨-, h4, hB4, hs4⟩
        obtain rfl := h4 HX.out
        have HV4 := Lib.hid (HV3.out.below hB4)
        clear h4
        go_wp2_with fail
        refine (refLoad_any n (.slice s l.length d) l w4 hn4 HV4.out hl).mono ?_
        rintro e w5 ⟨-, h5, hB5⟩
        obtain rfl := h5 HX.out
        have k5 : Below w.heap.size w w5 := (k3.trans (hB4.mono k3.size)).trans (hB5.mono (Nat.le_trans k3.size hB4.size))
        clear h5 hB4 hB5
        go_wp2_with fail
        refine (awake_any w5).mono ?_
        rintro e w6 ⟨rfl, hB6⟩
        go_wp2_with fail
        go_ret
        exact ⟨rfl, k5.trans (hB6.mono k5.size)⟩
end Go.Proofs.Ytaiaibpcpcndgaa
