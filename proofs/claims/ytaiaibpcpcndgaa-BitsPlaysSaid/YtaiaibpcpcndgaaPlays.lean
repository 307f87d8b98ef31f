/- BitsPlays: the walk. -/
import Derived.Test.YtaiaibpcpcndgaaDo
namespace Go.Proofs.Ytaiaibpcpcndgaa
open Go.RowKit

/-- A call, as data. -/
structure Ca where
  wh : Nat
  i : Int
  n : Int
  v : Bool
def Ca.ok (c : Ca) : Prop := c.wh ≤ 255 ∧ -9223372036854775808 ≤ c.i ∧ c.i ≤ 9223372036854775807 ∧ -9223372036854775808 ≤ c.n ∧ c.n ≤ 9223372036854775807
/-- The slice v reads as calls. -/
def CallsAt (w : World) (v : Value) (cl : List Ca) : Prop :=
  (∃ a c, v = .slice a 0 c ∧ cl = []) ∨
  ∃ b o c, v = .slice (some ⟨b, o, none⟩) cl.length c ∧ b < w.heap.size ∧ ∀ k (h : k < cl.length), w.cell? ⟨b, o + k * 4, none⟩ = some (.int .u8 cl[k].wh) ∧ w.cell? ⟨b, o + k * 4 + 1, none⟩ = some (.int .i64 cl[k].i) ∧ w.cell? ⟨b, o + k * 4 + 2, none⟩ = some (.int .i64 cl[k].n) ∧ w.cell? ⟨b, o + k * 4 + 3, none⟩ = some (.bool cl[k].v) ∧ cl[k].ok
theorem CallsAt.below {A B : World} {v : Value} {cl : List Ca} (h : CallsAt A v cl) (hk : Below A.heap.size A B) : CallsAt B v cl := by
  rcases h with h | ⟨b, o, c, rfl, hb, hc⟩
  · exact .inl h
  · refine .inr ⟨b, o, c, rfl, Nat.lt_of_lt_of_le hb hk.size, fun k hk' => ?_⟩
    obtain ⟨h0, h1, h2, h3, h4⟩ := hc k hk'
    exact ⟨(hk.cell (p := ⟨b, o + k * 4, none⟩) hb).trans h0, (hk.cell (p := ⟨b, o + k * 4 + 1, none⟩) hb).trans h1, (hk.cell (p := ⟨b, o + k * 4 + 2, none⟩) hb).trans h2, (hk.cell (p := ⟨b, o + k * 4 + 3, none⟩) hb).trans h3, h4⟩
theorem CallsAt.val {w : World} {v : Value} {cl : List Ca} (h : CallsAt w v cl) : ∃ s d, v = .slice s cl.length d := by
  rcases h with ⟨a, d, rfl, rfl⟩ | ⟨b, o, d, rfl, _⟩
  · exact ⟨a, d, rfl⟩
  · exact ⟨some ⟨b, o, none⟩, d, rfl⟩

set_option maxHeartbeats 4000000 in
set_option maxRecDepth 100000 in
theorem bitsPlays_any (n : Nat) (u cv : Value) (l : List UInt8) (cl : List Ca) (w : World) (hn : n ≤ 65535) (hv : BytesAt w u l) (hl : l.length ≤ maxLen) (hc : CallsAt w cv cl) (hcl : cl.length ≤ maxLen) :
    Calls Try.prog 3 #[.int .u16 n, u, cv] w fun e w' => e = .returned (.bool true) ∧ Below w.heap.size w w' := by
  obtain ⟨s, d, rfl⟩ := hc.val
  have HC := Lib.hid hc
  unfold maxLen at hcl
  clear hc
  by_cases h100 : 100 < cl.length
  · go_enter Try.func3, Try.ntmps3
    go_wp2_with fail
    refine (awake_any w).mono ?_
    rintro e w1 ⟨rfl, hB1⟩
    go_wp2_with fail
    go_ret
    exact ⟨rfl, hB1⟩
  · have H0 := Lib.hid (made_any n u l w hn hv hl)
    clear hv hl
    go_enter Try.func3, Try.ntmps3
    go_wp2_with fail
    refine H0.out.mono ?_
    rintro e w1 ⟨b0, v0, L0, rfl, hL0, hm0, hba0, hb0, hB1, hsep0⟩
    have hst : Hid (St w.heap.size w1 b0 v0 L0) := Lib.hid ⟨hm0, hba0, fun g o m c e => hsep0 g o ⟨m, c, e⟩, hb0⟩
    have HLE : Hid (L0.length ≤ 600) := Lib.hid (by omega)
    clear hL0 hm0 hba0 hb0 hsep0
    go_wp2_with fail
    go_loopw [7, 8, 9] (fun m7 v8 i9 wr => ∃ (k b : Nat) (v : Value) (L : List Bool), k ≤ cl.length ∧ m7 = .pointer (some ⟨b, 0, none⟩) ∧ v8 = v ∧ i9 = .int .i64 k ∧ Hid (St w.heap.size wr b v L) ∧ Hid (L.length ≤ 600) ∧ Below w.heap.size w wr) (fun _ _ i9 _ => cl.length - (intOf i9).toNat)
    case atStart => exact ⟨0, b0, v0, L0, Nat.zero_le _, rfl, rfl, rfl, hst, HLE, hB1⟩
    case round =>
      obtain ⟨k, b, v, L, hk, rfl, rfl, rfl, hs, hle, hbel⟩ := hrel
      clear hst HLE hB1
      by_cases hlt : k < cl.length
      · rcases HC.out.below hbel with ⟨a, d', hva, hl0⟩ | ⟨cb, o, d', hvb, hbl, hcell⟩
        · rw [hl0] at hlt; simp at hlt
        · obtain ⟨rfl, rfl⟩ : s = some ⟨cb, o, none⟩ ∧ d = d' := by cases hvb; exact ⟨rfl, rfl⟩
          obtain ⟨c0, c1, c2, c3, ok⟩ := hcell k hlt
          obtain ⟨wh, ci, cn, cx, hck⟩ : ∃ wh ci cn cx, cl[k] = Ca.mk wh ci cn cx := ⟨_, _, _, _, rfl⟩
          rw [hck] at c0 c1 c2 c3 ok
          obtain ⟨k1, k2, k3, k4, k5⟩ := ok
          simp only at c0 c1 c2 c3 k1 k2 k3 k4 k5
          have HD := Lib.hid (do_any w.heap.size b _ L wh ci cn cx wr hs.out (by have := hle.out; omega) hbel.size k1 k2 k3 k4 k5)
          clear hcell hvb hck
          go_wp2_with fail
          refine HD.out.mono ?_
          rintro e w2 ⟨b2, v2, L2, rfl, hs2, hl2, hB2⟩
          have HS2 := Lib.hid hs2
          have HL2 : Hid (L2.length ≤ 600) := Lib.hid (by rw [hl2]; exact hle.out)
          have hbel2 := hbel.trans hB2
          have Q := Lib.hid (same_any b2 L2 L2 v2 w2 hs2.map hs2.list (by have := HL2.out; omega))
          rw [beq_self_eq_true] at Q
          clear hs2 hl2 hB2
          go_wp2_with fail
          refine Q.out.mono ?_
          rintro e w3 ⟨rfl, hB3⟩
          have HS3 := Lib.hid (HS2.out.below hB3)
          have hbel3 := hbel2.trans (hB3.mono hbel2.size)
          clear hB3
          go_wp2_with fail
          go_roundw
          case rel => exact ⟨k + 1, b2, v2, L2, by omega, rfl, rfl, by go_num, HS3, HL2, hbel3⟩
          case measure => simp [intOf]; omega
      · go_wp2_with fail
        refine (awake_any wr).mono ?_
        rintro e w2 ⟨rfl, hB2⟩
        go_wp2_with fail
        go_ret
        exact ⟨rfl, hbel.trans (hB2.mono hbel.size)⟩
end Go.Proofs.Ytaiaibpcpcndgaa
