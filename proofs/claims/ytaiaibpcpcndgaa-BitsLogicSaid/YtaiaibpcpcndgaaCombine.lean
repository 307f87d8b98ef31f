/- combine, And, Or, Xor: the walks. -/
import Derived.Test.YtaiaibpcpcndgaaPairs
import Derived.Deep.RegionWith
namespace Go.Proofs.Ytaiaibpcpcndgaa
open Go.RowKit

theorem calm' {P : Program} {f : FuncId} {args : Array Value} {w : World} {v : Value} (h : Calls P f args w fun e w' => e = .returned v ∧ w = w') :
    Calls P f args w fun e w' => e = .returned v ∧ w' = w := h.mono fun _ _ ⟨he, hm⟩ => ⟨he, hm.symm⟩

set_option maxHeartbeats 2000000 in
theorem combine_and (b c : Nat) (L M : List Bool) (w : World) (hb : MapAt w b L) (hc : MapAt w c M) (hl : L.length = M.length) :
    Calls Try.prog 53 #[.pointer (some ⟨b, 0, none⟩), .pointer (some ⟨c, 0, none⟩), .func (.func 54) #[] #[]] w (NewPair (andL L M) w) := by
  have HM1 := Lib.hid (isMade_any b L w hb)
  have HM2 := Lib.hid (isMade_any c M w hc)
  have h1 := hb.size
  have h2 := hc.size
  have hbl := hb.lt
  have hcl := hc.lt
  have hL := hb.2
  have hle : ((L.length : Int) != M.length) = false := by simp; omega
  have HB := Lib.hid hb
  have HC := Lib.hid hc
  have HL := Lib.hid hl
  clear hb hc hl
  go_enter Try.func53, Try.ntmps53
  go_wp2_with fail
  refine HM1.out.mono ?_
  rintro e w' ⟨rfl, rfl⟩
  go_wp2_with fail
  refine HM2.out.mono ?_
  rintro e w' ⟨rfl, rfl⟩
  go_wp2_with fail
  go_quiet (fail)
  go_wp2_with fail
  obtain ⟨w0, hw0⟩ : ∃ w0, w.drewN nq = w0 := ⟨_, rfl⟩
  have hsz : w0.heap.size = w.heap.size := by rw [← hw0]; rfl
  have hB0 : Below w.heap.size w w0 := by rw [← hw0]; exact ⟨rfl, rfl, rfl, Nat.le_refl _, fun _ _ => rfl⟩
  have HBl := Lib.hid (blank_any L.length w0 hL)
  rw [hw0]
  rw [hsz] at HBl
  refine HBl.out.mono ?_
  rintro e w1 ⟨rfl, hm, hb, hs⟩
  have hlt1 : w.heap.size < w1.heap.size := by omega
  have hb1 : Below w.heap.size w w1 := hB0.trans hb
  have HM := Lib.hid hm
  rw [← partK_zero (fun i => (L.getD i false) && (M.getD i false))] at HM
  clear hm hs hb hw0 hsz
  go_wp2_with fail
  go_loopw [32] (fun i wr => ∃ k : Nat, k ≤ 64 ∧ i = .int .i64 k ∧ Hid (MapAt wr w.heap.size (partK (fun i => (L.getD i false) && (M.getD i false)) L.length (64 * k))) ∧ Below w.heap.size w wr ∧ w.heap.size < wr.heap.size) (fun i _ => 64 - (intOf i).toNat)
  case atStart => exact ⟨0, Nat.zero_le _, rfl, HM, hb1, hlt1⟩
  case round =>
    obtain ⟨k, hk, rfl, hm, hbel, hlt2⟩ := hrel
    by_cases hlt : k < 64
    · have c1 := (HB.out.below hbel hbl).word k hlt
      have c2 := (HC.out.below hbel hcl).word k hlt
      have f1 := hm.out.frozen (2 + k)
      have c3 := hm.out.word k hlt
      have HF := Lib.hid (fun w => andF_any (wordV L k) (wordV M k) w (wordV_lt _ _) (wordV_lt _ _))
      have HJ := Lib.hid (wordV_join (fun x y => x && y) L M k (wordV L k &&& wordV M k) rfl HL.out (fun i => by simp))
      have HS := Lib.hid (hm.out.setWord (P' := partK (fun i => (L.getD i false) && (M.getD i false)) L.length (64 * (k + 1))) k hlt (by rw [partK_len, partK_len]) (fun j hj => wordV_part _ _ _ _ hj))
      generalize wordV L k &&& wordV M k = z at *
      generalize wordV L k = x at *
      generalize wordV M k = y at *
      go_wp2_with fail
      go_region_with ((go_at_call 54; refine (HF.out _).mono ?_; rintro e w2 ⟨rfl, rfl⟩))
      all_goals go_wp2_with fail
      all_goals
        go_roundw
        case rel =>
          have hst := HS.out
          rw [HJ.out] at hst
          exact ⟨k + 1, by omega, by go_num, Lib.hid hst, (hbel.setCell (p := ⟨w.heap.size, 2 + k, none⟩) (Nat.le_refl _) _).drew, by simpa using hlt2⟩
        case measure => simp [intOf]; omega
    · obtain rfl : k = 64 := by omega
      have HP := Lib.hid (partK_past (fun i => (L.getD i false) && (M.getD i false)) L.length (64 * 64) hL)
      have HX := Lib.hid (hm.out)
      rw [HP.out] at HX
      clear hm
      go_wp2_with fail
      go_ret2
      exact ⟨_, rfl, Nat.le_refl _, HX.out, hbel⟩

set_option maxHeartbeats 2000000 in
theorem combine_or (b c : Nat) (L M : List Bool) (w : World) (hb : MapAt w b L) (hc : MapAt w c M) (hl : L.length = M.length) :
    Calls Try.prog 53 #[.pointer (some ⟨b, 0, none⟩), .pointer (some ⟨c, 0, none⟩), .func (.func 55) #[] #[]] w (NewPair (orL L M) w) := by
  have HM1 := Lib.hid (isMade_any b L w hb)
  have HM2 := Lib.hid (isMade_any c M w hc)
  have h1 := hb.size
  have h2 := hc.size
  have hbl := hb.lt
  have hcl := hc.lt
  have hL := hb.2
  have hle : ((L.length : Int) != M.length) = false := by simp; omega
  have HB := Lib.hid hb
  have HC := Lib.hid hc
  have HL := Lib.hid hl
  clear hb hc hl
  go_enter Try.func53, Try.ntmps53
  go_wp2_with fail
  refine HM1.out.mono ?_
  rintro e w' ⟨rfl, rfl⟩
  go_wp2_with fail
  refine HM2.out.mono ?_
  rintro e w' ⟨rfl, rfl⟩
  go_wp2_with fail
  go_quiet (fail)
  go_wp2_with fail
  obtain ⟨w0, hw0⟩ : ∃ w0, w.drewN nq = w0 := ⟨_, rfl⟩
  have hsz : w0.heap.size = w.heap.size := by rw [← hw0]; rfl
  have hB0 : Below w.heap.size w w0 := by rw [← hw0]; exact ⟨rfl, rfl, rfl, Nat.le_refl _, fun _ _ => rfl⟩
  have HBl := Lib.hid (blank_any L.length w0 hL)
  rw [hw0]
  rw [hsz] at HBl
  refine HBl.out.mono ?_
  rintro e w1 ⟨rfl, hm, hb, hs⟩
  have hlt1 : w.heap.size < w1.heap.size := by omega
  have hb1 : Below w.heap.size w w1 := hB0.trans hb
  have HM := Lib.hid hm
  rw [← partK_zero (fun i => (L.getD i false) || (M.getD i false))] at HM
  clear hm hs hb hw0 hsz
  go_wp2_with fail
  go_loopw [32] (fun i wr => ∃ k : Nat, k ≤ 64 ∧ i = .int .i64 k ∧ Hid (MapAt wr w.heap.size (partK (fun i => (L.getD i false) || (M.getD i false)) L.length (64 * k))) ∧ Below w.heap.size w wr ∧ w.heap.size < wr.heap.size) (fun i _ => 64 - (intOf i).toNat)
  case atStart => exact ⟨0, Nat.zero_le _, rfl, HM, hb1, hlt1⟩
  case round =>
    obtain ⟨k, hk, rfl, hm, hbel, hlt2⟩ := hrel
    by_cases hlt : k < 64
    · have c1 := (HB.out.below hbel hbl).word k hlt
      have c2 := (HC.out.below hbel hcl).word k hlt
      have f1 := hm.out.frozen (2 + k)
      have c3 := hm.out.word k hlt
      have HF := Lib.hid (fun w => orF_any (wordV L k) (wordV M k) w (wordV_lt _ _) (wordV_lt _ _))
      have HJ := Lib.hid (wordV_join (fun x y => x || y) L M k (wordV L k ||| wordV M k) rfl HL.out (fun i => by simp))
      have HS := Lib.hid (hm.out.setWord (P' := partK (fun i => (L.getD i false) || (M.getD i false)) L.length (64 * (k + 1))) k hlt (by rw [partK_len, partK_len]) (fun j hj => wordV_part _ _ _ _ hj))
      generalize wordV L k ||| wordV M k = z at *
      generalize wordV L k = x at *
      generalize wordV M k = y at *
      go_wp2_with fail
      go_region_with ((go_at_call 55; refine (HF.out _).mono ?_; rintro e w2 ⟨rfl, rfl⟩))
      all_goals go_wp2_with fail
      all_goals
        go_roundw
        case rel =>
          have hst := HS.out
          rw [HJ.out] at hst
          exact ⟨k + 1, by omega, by go_num, Lib.hid hst, (hbel.setCell (p := ⟨w.heap.size, 2 + k, none⟩) (Nat.le_refl _) _).drew, by simpa using hlt2⟩
        case measure => simp [intOf]; omega
    · obtain rfl : k = 64 := by omega
      have HP := Lib.hid (partK_past (fun i => (L.getD i false) || (M.getD i false)) L.length (64 * 64) hL)
      have HX := Lib.hid (hm.out)
      rw [HP.out] at HX
      clear hm
      go_wp2_with fail
      go_ret2
      exact ⟨_, rfl, Nat.le_refl _, HX.out, hbel⟩

set_option maxHeartbeats 2000000 in
theorem combine_xor (b c : Nat) (L M : List Bool) (w : World) (hb : MapAt w b L) (hc : MapAt w c M) (hl : L.length = M.length) :
    Calls Try.prog 53 #[.pointer (some ⟨b, 0, none⟩), .pointer (some ⟨c, 0, none⟩), .func (.func 56) #[] #[]] w (NewPair (xorL L M) w) := by
  have HM1 := Lib.hid (isMade_any b L w hb)
  have HM2 := Lib.hid (isMade_any c M w hc)
  have h1 := hb.size
  have h2 := hc.size
  have hbl := hb.lt
  have hcl := hc.lt
  have hL := hb.2
  have hle : ((L.length : Int) != M.length) = false := by simp; omega
  have HB := Lib.hid hb
  have HC := Lib.hid hc
  have HL := Lib.hid hl
  clear hb hc hl
  go_enter Try.func53, Try.ntmps53
  go_wp2_with fail
  refine HM1.out.mono ?_
  rintro e w' ⟨rfl, rfl⟩
  go_wp2_with fail
  refine HM2.out.mono ?_
  rintro e w' ⟨rfl, rfl⟩
  go_wp2_with fail
  go_quiet (fail)
  go_wp2_with fail
  obtain ⟨w0, hw0⟩ : ∃ w0, w.drewN nq = w0 := ⟨_, rfl⟩
  have hsz : w0.heap.size = w.heap.size := by rw [← hw0]; rfl
  have hB0 : Below w.heap.size w w0 := by rw [← hw0]; exact ⟨rfl, rfl, rfl, Nat.le_refl _, fun _ _ => rfl⟩
  have HBl := Lib.hid (blank_any L.length w0 hL)
  rw [hw0]
  rw [hsz] at HBl
  refine HBl.out.mono ?_
  rintro e w1 ⟨rfl, hm, hb, hs⟩
  have hlt1 : w.heap.size < w1.heap.size := by omega
  have hb1 : Below w.heap.size w w1 := hB0.trans hb
  have HM := Lib.hid hm
  rw [← partK_zero (fun i => (L.getD i false) ^^ (M.getD i false))] at HM
  clear hm hs hb hw0 hsz
  go_wp2_with fail
  go_loopw [32] (fun i wr => ∃ k : Nat, k ≤ 64 ∧ i = .int .i64 k ∧ Hid (MapAt wr w.heap.size (partK (fun i => (L.getD i false) ^^ (M.getD i false)) L.length (64 * k))) ∧ Below w.heap.size w wr ∧ w.heap.size < wr.heap.size) (fun i _ => 64 - (intOf i).toNat)
  case atStart => exact ⟨0, Nat.zero_le _, rfl, HM, hb1, hlt1⟩
  case round =>
    obtain ⟨k, hk, rfl, hm, hbel, hlt2⟩ := hrel
    by_cases hlt : k < 64
    · have c1 := (HB.out.below hbel hbl).word k hlt
      have c2 := (HC.out.below hbel hcl).word k hlt
      have f1 := hm.out.frozen (2 + k)
      have c3 := hm.out.word k hlt
      have HF := Lib.hid (fun w => xorF_any (wordV L k) (wordV M k) w (wordV_lt _ _) (wordV_lt _ _))
      have HJ := Lib.hid (wordV_join (fun x y => x ^^ y) L M k (wordV L k ^^^ wordV M k) rfl HL.out (fun i => by simp))
      have HS := Lib.hid (hm.out.setWord (P' := partK (fun i => (L.getD i false) ^^ (M.getD i false)) L.length (64 * (k + 1))) k hlt (by rw [partK_len, partK_len]) (fun j hj => wordV_part _ _ _ _ hj))
      generalize wordV L k ^^^ wordV M k = z at *
      generalize wordV L k = x at *
      generalize wordV M k = y at *
      go_wp2_with fail
      go_region_with ((go_at_call 56; refine (HF.out _).mono ?_; rintro e w2 ⟨rfl, rfl⟩))
      all_goals go_wp2_with fail
      all_goals
        go_roundw
        case rel =>
          have hst := HS.out
          rw [HJ.out] at hst
          exact ⟨k + 1, by omega, by go_num, Lib.hid hst, (hbel.setCell (p := ⟨w.heap.size, 2 + k, none⟩) (Nat.le_refl _) _).drew, by simpa using hlt2⟩
        case measure => simp [intOf]; omega
    · obtain rfl : k = 64 := by omega
      have HP := Lib.hid (partK_past (fun i => (L.getD i false) ^^ (M.getD i false)) L.length (64 * 64) hL)
      have HX := Lib.hid (hm.out)
      rw [HP.out] at HX
      clear hm
      go_wp2_with fail
      go_ret2
      exact ⟨_, rfl, Nat.le_refl _, HX.out, hbel⟩
end Go.Proofs.Ytaiaibpcpcndgaa
