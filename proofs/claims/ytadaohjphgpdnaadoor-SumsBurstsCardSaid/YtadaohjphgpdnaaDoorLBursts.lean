/- The law SumsBursts: the walk. -/
import Derived.Test.YtadaohjphgpdnaaDoorApp
namespace Go.Proofs.YtadaohjphgpdnaaDoor
open Go.RowKit

theorem turn8 (c j : Nat) (hc : c < 256) (hj : j < 8) : bits .xor .u8 (c : Int) (2 ^ j % 256) = ((c ^^^ 2 ^ j : Nat) : Int) := by
  have hp : (2 : Nat) ^ j < 2 ^ 8 := Nat.pow_lt_pow_right (by omega) hj
  have e : (2 : Int) ^ j % 256 = ((2 ^ j : Nat) : Int) := by
    have e : (2 : Int) ^ j = ((2 ^ j : Nat) : Int) := by simp
    rw [e]
    generalize (2 : Nat) ^ j = p at hp
    omega
  rw [e]
  have hx := byte_xor_lt hc (show (2 : Nat) ^ j < 256 by omega)
  have h1 : ∀ a : Nat, a < 256 → (BitVec.ofInt 8 (a : Int)).toNat = a := fun a ha => by rw [BitVec.ofInt_natCast, BitVec.toNat_ofNat]; exact Nat.mod_eq_of_lt (by omega)
  show IntKind.u8.wrap ((BitVec.ofInt 8 (c : Int) ^^^ BitVec.ofInt 8 ((2 ^ j : Nat) : Int)).toNat : Int) = _
  rw [BitVec.toNat_xor, h1 c hc, h1 _ (by omega), IntKind.wrap_u8']
  omega

set_option maxHeartbeats 2000000 in
theorem sumsBursts_any (v : Value) (l : List UInt8) (bit pat : Nat) (w : World) (hE : Env w) (hv : BytesAt w v l) (hl : l.length ≤ maxLen) (hbit : bit < 65536) (hpat : pat < 4294967296) :
    Calls Tryd.prog 9 #[v, .int .u16 bit, .int .u32 pat] w fun e w' => e = .returned (.bool true) ∧ Below w.heap.size w w' := by
  obtain ⟨s, d, rfl⟩ := hv.shape
  have HS := Lib.hid (fun w (hE : Env w) => shown_any w hE)
  have h1 := hE.one
  by_cases hlt : 500 < l.length
  · have d1 : decide ((500 : Int) < l.length) = true := decide_eq_true (by omega)
    clear hlt hv
    go_enter Tryd.func9, Tryd.ntmps9
    go_wp2_with fail
    refine (HS.out _ hE).mono ?_
    rintro e w2 ⟨rfl, hb⟩
    go_wp2_with fail
    go_ret
    exact ⟨rfl, hb⟩
  · have d1 : decide ((500 : Int) < l.length) = false := decide_eq_false (by omega)
    by_cases h0 : l.length = 0
    · have d2 : ((l.length : Int) == 0) = true := by rw [h0]; rfl
      clear hlt hv h0
      go_enter Tryd.func9, Tryd.ntmps9
      go_wp2_with fail
      refine (HS.out _ hE).mono ?_
      rintro e w2 ⟨rfl, hb⟩
      go_wp2_with fail
      go_ret
      exact ⟨rfl, hb⟩
    · have d2 : ((l.length : Int) == 0) = false := by rw [beq_eq_false_iff_ne]; omega
      have HV := Lib.hid hv
      have hn : 0 < l.length := by omega
      have hle : l.length ≤ 500 := by omega
      obtain ⟨p, hp⟩ : ∃ p, bit % (8 * l.length) = p := ⟨_, rfl⟩
      have hp8 : p < 8 * l.length := by rw [← hp]; exact Nat.mod_lt _ (by omega)
      have hpI : (bit : Int) % (8 * (l.length : Int)) = p := by rw [← hp]; simp
      have HC := Lib.hid (fun w (hE : Env w) (hv : BytesAt w (.slice s l.length d) l) => crcAll_any _ l w hE hv hl)
      have HCL := Lib.hid (fun (L : List UInt8) (hL : L.length = l.length) u w (hE : Env w) (hv : BytesAt w u L) => crcAll_any u L w hE hv (by omega))
      have hB0 := (Below.refl w.heap.size w).alloc (Nat.le_refl _) (.cells #[] 5 (0, 0))
      have HO0 := Lib.hid (made0 w w.heap.size (Nat.le_refl _))
      have HV0 := Lib.hid (hv.below hB0 (Nat.le_refl _))
      clear hlt h0 hv hp
      go_enter Tryd.func9, Tryd.ntmps9
      go_wp2_with (at_builtin; refine wpList_append_bytes (by rfl) _ _ (by rfl) w.heap.size (.slice (some ⟨w.heap.size, 0, none⟩) 0 0) (.slice s l.length d) 0 [] l (by rfl) (by rfl) HO0.out ⟨_, _, rfl⟩ HV0.out (by omega) (by simp) ?_; intro g cap w1 hown hgr; rw [Nat.zero_add, List.nil_append] at hown; rw [Nat.zero_add])
      have HB1 := Lib.hid (hB0.grown hgr (by simp) (fun k e => (HO0.out.lt k e).1))
      have HOW := Lib.hid (show OwnBytes w1 w.heap.size g cap l from hown)
      clear hgr hown HO0 HV0 hB0
      go_wp2_with fail
      go_loopw [8, 9] (fun c i wr => ∃ (k : Nat) (cb : Bool), k ≤ 32 ∧ i = .int .i64 k ∧ c = .bool cb ∧ Hid (cb = true ↔ burst p k l.length pat ≠ 0) ∧ Hid (∃ L : List UInt8, L.length = l.length ∧ OwnBytes wr w.heap.size g cap L ∧ numV L = burst p k l.length pat ^^^ numV l) ∧ Hid (Below w.heap.size w wr)) (fun _ i _ => 32 - (intOf i).toNat)
      case atStart => exact ⟨0, false, by omega, rfl, rfl, Lib.hid (by rw [burst_zero]; simp), Lib.hid ⟨l, rfl, HOW.out, by rw [burst_zero, Nat.zero_xor]⟩, HB1⟩
      case round =>
        obtain ⟨k, cb, hk, rfl, rfl, hcb, hrow, hB⟩ := hrel
        obtain ⟨L, hL, hown, hnum⟩ := hrow.out
        have HLL := Lib.hid hL
        have HOW2 := Lib.hid hown
        have HNUM := Lib.hid hnum
        clear hL hown hnum HOW HB1
        by_cases hlt : k < 32
        · by_cases hc : pat / 2 ^ k % 2 = 1
          · have t1 : (((pat : Int) / 2 ^ k).tmod 2 == 1) = true := by
              have e : ((pat : Int) / 2 ^ k) = ((pat / 2 ^ k : Nat) : Int) := by simp
              rw [e, Int.tmod_eq_emod_of_nonneg (Int.natCast_nonneg _), beq_iff_eq]
              generalize pat / 2 ^ k = z at hc
              omega
            by_cases hat : p + k < 8 * l.length
            · have t2 : decide ((p : Int) + k < 8 * l.length) = true := decide_eq_true (by omega)
              have hq : (p + k) / 8 < L.length := by rw [HLL.out]; omega
              have hcell := HOW2.out.cell ((p + k) / 8) hq
              have hfz := HOW2.out.frozen ((p + k) / 8)
              have hby := byte_lt L ((p + k) / 8) hq
              have hT := turn8 L[(p + k) / 8].toNat ((p + k) % 8) hby (by omega)
              have i1 : 0 ≤ ((p : Int) + k) / 8 := by omega
              have i2 : ((p : Int) + k) / 8 < l.length := by omega
              have i3 : (((p : Int) + k) / 8).toNat = (p + k) / 8 := by omega
              have i4 : (((p : Int) + k) % 8).toNat = (p + k) % 8 := by omega
              have HS1 := Lib.hid (burst_succ p k l.length pat)
              have hcc : pat / 2 ^ k % 2 = 1 ∧ p + k < 8 * l.length := ⟨hc, hat⟩
              have HNZ := Lib.hid (burst_set hcc)
              have HS2 := Lib.hid (show burst p (k + 1) l.length pat = 2 ^ (p + k) ^^^ burst p k l.length pat by rw [HS1.out, if_pos hcc])
              have hxl := byte_xor_lt hby (show 2 ^ ((p + k) % 8) < 256 by
                have : (2 : Nat) ^ ((p + k) % 8) < 2 ^ 8 := Nat.pow_lt_pow_right (by omega) (by omega)
                omega)
              have HTN := Lib.hid (show (L[(p + k) / 8].toNat ^^^ 2 ^ ((p + k) % 8)).toUInt8.toNat = L[(p + k) / 8].toNat ^^^ 2 ^ ((p + k) % 8) by rw [Nat.toUInt8_eq, UInt8.toNat_ofNat']; omega)
              have hset := HOW2.out.set ((p + k) / 8) (L[(p + k) / 8].toNat ^^^ 2 ^ ((p + k) % 8)).toUInt8
              rw [HTN.out] at hset
              have hnt := numV_turn L (p + k) hq _ HTN.out
              have HROW := Lib.hid (show ∃ L' : List UInt8, L'.length = l.length ∧ OwnBytes (wr.setCell ⟨g, (p + k) / 8, none⟩ (.int .u8 (L[(p + k) / 8].toNat ^^^ 2 ^ ((p + k) % 8) : Nat))).drew w.heap.size g cap L' ∧ numV L' = burst p (k + 1) l.length pat ^^^ numV l from
                ⟨_, by rw [List.length_set]; exact HLL.out, hset, by rw [hnt, HNUM.out, HS2.out, Nat.xor_assoc]⟩)
              have hge := HOW2.out.ge
              have HB2 := Lib.hid ((hB.out.setCell (p := ⟨g, (p + k) / 8, none⟩) hge.1 (.int .u8 (L[(p + k) / 8].toNat ^^^ 2 ^ ((p + k) % 8) : Nat))).drew)
              clear hc hcc hset hnt hxl
              go_wp2_with fail
              go_region
              go_wp2_with fail
              go_roundw
              case rel => exact ⟨k + 1, true, by omega, by go_num, rfl, Lib.hid (by simpa using HNZ.out), HROW, HB2⟩
              case measure => simp [intOf]; omega
            · have t2 : decide ((p : Int) + k < 8 * l.length) = false := decide_eq_false (by omega)
              have HS2 := Lib.hid (show burst p (k + 1) l.length pat = burst p k l.length pat by rw [burst_succ, if_neg (fun h => hat h.2), Nat.zero_xor])
              clear hc
              go_wp2_with fail
              go_roundw
              case rel => exact ⟨k + 1, cb, by omega, by go_num, rfl, by rw [HS2.out]; exact hcb, by rw [HS2.out]; exact hrow, hB⟩
              case measure => simp [intOf]; omega
          · have t1 : (((pat : Int) / 2 ^ k).tmod 2 == 1) = false := by
              have e : ((pat : Int) / 2 ^ k) = ((pat / 2 ^ k : Nat) : Int) := by simp
              rw [e, Int.tmod_eq_emod_of_nonneg (Int.natCast_nonneg _), beq_eq_false_iff_ne]
              generalize pat / 2 ^ k = z at hc
              omega
            have HS2 := Lib.hid (show burst p (k + 1) l.length pat = burst p k l.length pat by rw [burst_succ, if_neg (fun h => hc h.1), Nat.zero_xor])
            clear hc
            go_wp2_with fail
            go_roundw
            case rel => exact ⟨k + 1, cb, by omega, by go_num, rfl, by rw [HS2.out]; exact hcb, by rw [HS2.out]; exact hrow, hB⟩
            case measure => simp [intOf]; omega
        · obtain rfl : k = 32 := by omega
          have HCRC := Lib.hid (burst_crc l L p l.length pat rfl HLL.out hp8 hpat HNUM.out)
          have hx : (((crcV l : Int) != (crcV L : Int)) == cb) = true := by
            rw [beq_iff_eq, Bool.eq_iff_iff, hcb.out, bne_iff_ne]
            constructor
            · intro h e; exact h (by rw [HCRC.out.2 e])
            · intro h e; exact h (HCRC.out.1 (by omega))
          have HA := Lib.hid (HC.out wr (hE.below hB.out h1) (HV.out.below hB.out (Nat.le_refl _)))
          clear hcb hrow
          go_wp2_with fail
          refine HA.out.mono ?_
          rintro e w2 ⟨rfl, hb2⟩
          have hB2 := hB.out.trans (hb2.mono hB.out.size)
          have HOW3 := HOW2.out.below hb2
          have HA2 := Lib.hid (HCL.out L HLL.out (.slice (some ⟨g, 0, none⟩) l.length cap) w2 (hE.below hB2 h1) (by have := HOW3.at_; rwa [HLL.out] at this))
          clear hb2 HOW3
          go_wp2_with fail
          refine HA2.out.mono ?_
          rintro e w3 ⟨rfl, hb3⟩
          have hB3 := hB2.trans (hb3.mono hB2.size)
          have HA3 := Lib.hid (HS.out w3 (hE.below hB3 h1))
          clear hb3 HA2
          go_wp2_with fail
          refine HA3.out.mono ?_
          rintro e w4 ⟨rfl, hb4⟩
          have hB4 := hB3.trans (hb4.mono hB3.size)
          go_wp2_with fail
          go_ret
          exact ⟨rfl, hB4⟩
end Go.Proofs.YtadaohjphgpdnaaDoor
