/- The reference's Same, of equal lists; its Digits. -/
import Derived.Test.YtnmkcohfhomenaaDoorList
namespace Go.Proofs.YtnmkcohfhomenaaDoor
open Go.RowKit

set_option maxHeartbeats 1000000 in
set_option maxRecDepth 100000 in
theorem same_some (b1 o1 c1 b2 o2 c2 : Nat) (fs : List (ByteArray × Bool)) (w : World)
    (hc1 : ∀ k (h : k < fs.length), w.cell? ⟨b1, o1 + k * 2, none⟩ = some (.string fs[k].1) ∧ w.cell? ⟨b1, o1 + k * 2 + 1, none⟩ = some (.bool fs[k].2))
    (hc2 : ∀ k (h : k < fs.length), w.cell? ⟨b2, o2 + k * 2, none⟩ = some (.string fs[k].1) ∧ w.cell? ⟨b2, o2 + k * 2 + 1, none⟩ = some (.bool fs[k].2))
    (hl : fs.length ≤ 140737488355328) :
    Calls Tryd.prog 25 #[.slice (some ⟨b1, o1, none⟩) fs.length c1, .slice (some ⟨b2, o2, none⟩) fs.length c2] w fun e w' => e = .returned (.bool true) ∧ Below w.heap.size w w' := by
  have HC1 := Lib.hid hc1
  have HC2 := Lib.hid hc2
  clear hc1 hc2
  go_enter Tryd.func25, Tryd.ntmps25
  go_wp2
  go_loopw [5] (fun i wr => ∃ k : Nat, k ≤ fs.length ∧ i = .int .i64 k ∧ ∃ n, wr = w.drewN n) (fun i _ => fs.length - (intOf i).toNat)
  case atStart => exact ⟨0, Nat.zero_le _, rfl, 0, rfl⟩
  case round =>
    obtain ⟨k, hk, rfl, n, rfl⟩ := hrel
    by_cases hlt : k < fs.length
    · obtain ⟨s, q, hsq⟩ : ∃ s q, fs[k] = (s, q) := ⟨_, _, rfl⟩
      have h0 := (HC1.out k hlt).1
      have h1 := (HC1.out k hlt).2
      have h2 := (HC2.out k hlt).1
      have h3 := (HC2.out k hlt).2
      rw [hsq] at h0 h1 h2 h3
      clear hsq
      have i00 : (0 : Int) ≤ (k : Int) := Int.natCast_nonneg _
      have i01 : (k : Int) < (fs.length : Int) := by omega
      go_wp2_with fail
      go_quiet (fail)
      go_wp2
      go_roundw
      case rel => exact ⟨k + 1, by omega, by go_num, _, rfl⟩
      case measure => simp [intOf]; omega
    · go_wp2
      go_ret
      exact ⟨rfl, below_drewN (Below.refl _ _) _⟩

theorem same_nil (a1 a2 : Option Addr) (c1 c2 : Nat) (w : World) :
    Calls Tryd.prog 25 #[.slice a1 0 c1, .slice a2 0 c2] w fun e w' => e = .returned (.bool true) ∧ Below w.heap.size w w' := by
  go_enter Tryd.func25, Tryd.ntmps25
  go_wp2
  refine wp_loop_rounds 1 ?_
  rw [rounds_succ]
  go_wp2
  go_ret
  exact ⟨rfl, Below.refl _ _⟩

/-- Same of two lists that hold the same fields. -/
theorem same_any (v1 v2 : Value) (fs : List (ByteArray × Bool)) (w : World) (h1 : FieldsAt w v1 fs) (h2 : FieldsAt w v2 fs) (hl : fs.length ≤ 140737488355328) :
    Calls Tryd.prog 25 #[v1, v2] w fun e w' => e = .returned (.bool true) ∧ Below w.heap.size w w' := by
  rcases h1 with ⟨a1, c1, rfl, rfl⟩ | ⟨b1, o1, c1, rfl, hb1, hc1⟩
  · rcases h2 with ⟨a2, c2, rfl, _⟩ | ⟨b2, o2, c2, rfl, hb2, hc2⟩
    · exact same_nil a1 a2 c1 c2 w
    · exact same_nil a1 _ c1 c2 w
  · rcases h2 with ⟨a2, c2, rfl, rfl⟩ | ⟨b2, o2, c2, rfl, hb2, hc2⟩
    · exact same_nil _ a2 c1 c2 w
    · exact same_some b1 o1 c1 b2 o2 c2 fs w hc1 hc2 hl

/-- 'string([]byte{x})'. -/
theorem conv_one (c : UInt8) (x : Int) (h : (c.toNat : Int) = x) (W : World) :
    (convert 38 9 (.slice (some ⟨W.heap.size, 0, none⟩) 1 1)).run Tryd.prog (W.alloc (.cells #[.int .u8 x] 5)) = .ok (.string ⟨#[c]⟩) (W.alloc (.cells #[.int .u8 x] 5)) := by
  subst h
  refine run_convert_bytes_back _ _ _ _ ⟨W.heap.size, 0, none⟩ 1 [c] Tryd.underlying38 Tryd.underlying5 Tryd.underlying9 fun j hj => ?_
  have : j = 0 := by simp at hj; exact hj
  subst this
  exact World.news_of_block (cs := #[.int .u8 c.toNat]) (heap_alloc_new W _) 0 _ rfl

theorem conv_cell (c : UInt8) (x : Int) (h : (c.toNat : Int) = x) (W : World) (g : Nat) (hc : W.cell? ⟨g, 0, none⟩ = some (.int .u8 x)) :
    (convert 38 9 (.slice (some ⟨g, 0, none⟩) 1 1)).run Tryd.prog W = .ok (.string ⟨#[c]⟩) W := by
  subst h
  refine run_convert_bytes_back _ _ _ _ ⟨g, 0, none⟩ 1 [c] Tryd.underlying38 Tryd.underlying5 Tryd.underlying9 fun j hj => ?_
  have : j = 0 := by simp at hj; exact hj
  subst this
  exact hc

/-! ### Digits -/
theorem itoa_small (n : Int) (h0 : 0 ≤ n) (h1 : n ≤ 9) : Lib.itoa n = [UInt8.ofNat (48 + n.toNat)] := by
  unfold Lib.itoa; rw [if_neg (by omega), Lib.decDigits_one (by omega)]
theorem itoa_minus (n : Int) (h : n < 0) : Lib.itoa n = 45 :: Lib.itoa (-n) := by
  unfold Lib.itoa; rw [if_pos h, if_neg (by omega)]; congr 2; omega
theorem itoa_pos (n : Int) (h : 9 < n) : Lib.itoa n = Lib.itoa (n / 10) ++ [UInt8.ofNat (48 + n.toNat % 10)] := by
  unfold Lib.itoa; rw [if_neg (by omega), if_neg (by omega), Lib.decDigits, dif_neg (by omega)]
  have : (n / 10).toNat = n.toNat / 10 := by omega
  rw [this]
theorem itoa_low (n : Int) (h : n < -9) : Lib.itoa n = Lib.itoa (-((-n) / 10)) ++ [UInt8.ofNat (48 + (-n).toNat % 10)] := by
  rw [itoa_minus n (by omega), itoa_pos (-n) (by omega), itoa_minus (-((-n) / 10)) (by omega), Int.neg_neg]; rfl

set_option maxHeartbeats 1000000 in
theorem digitsR_small (n : Int) (w : World) (n0 : 0 ≤ n) (n9 : n ≤ 9) :
    Calls Tryd.prog 18 #[.int .i64 n] w fun e w' => e = .returned (.string ⟨(Lib.itoa n).toArray⟩) ∧ Below w.heap.size w w' := by
  obtain ⟨c, hc⟩ : ∃ c, UInt8.ofNat (48 + n.toNat) = c := ⟨_, rfl⟩
  have HF := Lib.hid (itoa_small n (by omega) (by omega))
  rw [hc] at HF
  have hcd : (c.toNat : Int) = 48 + n := by rw [← hc, UInt8.toNat_ofNat']; omega
  have hcv := conv_one c (48 + n) hcd
  have w1 : IntKind.i64.wrap (48 + n) = 48 + n := IntWalk.i64_in _ (by omega)
  have w2 : IntKind.u8.wrap (48 + n) = 48 + n := IntWalk.u8_in _ (by omega)
  clear hc
  have a0 : ¬ 9 < n := by omega
  have a1 : ¬ n < -9 := by omega
  go_enter Tryd.func18, Tryd.ntmps18
  go_wp2
  go_ret
  exact ⟨congrArg (fun z : List UInt8 => Ending.returned (.string ⟨z.toArray⟩)) HF.out.symm, (Below.refl _ _).alloc (Nat.le_refl _) _⟩

set_option maxHeartbeats 1000000 in
set_option maxRecDepth 100000 in
theorem digitsR_any (m : Nat) : ∀ (n : Int) (w : World), n.natAbs = m → -9223372036854775808 ≤ n → n ≤ 9223372036854775807 →
    Calls Tryd.prog 18 #[.int .i64 n] w fun e w' => e = .returned (.string ⟨(Lib.itoa n).toArray⟩) ∧ Below w.heap.size w w' := by
  induction m using Nat.strongRecOn with
  | _ m ih =>
  intro n w hm h0 h1
  by_cases hs : n < -9 ∨ 9 < n
  · rcases hs with hs | hs
    · have HF := Lib.hid (itoa_low n hs)
      obtain ⟨q, hq⟩ : ∃ q, -((-n) / 10) = q := ⟨_, rfl⟩
      have q0 : q < 0 := by omega
      have q1 : -9223372036854775808 ≤ q := by omega
      have q2 : q.natAbs < m := by omega
      have HD := Lib.hid (fun w => ih q.natAbs q2 q w rfl q1 (by omega))
      have hla : (Lib.itoa q).length ≤ 21 := Lib.itoa_length_le _ q1 (by omega)
      have hsa : (⟨(Lib.itoa q).toArray⟩ : ByteArray).size ≤ 21 := by rw [← size_len]; exact hla
      obtain ⟨d, hd⟩ : ∃ d, (-n) % 10 = d := ⟨_, rfl⟩
      have d0 : 0 ≤ d := by omega
      have d1 : d ≤ 9 := by omega
      have e1 : Int.tdiv n 10 = q := by
        have := Int.tdiv_eq_ediv_of_nonneg (a := -n) (b := 10) (by omega)
        rw [Int.neg_tdiv] at this; omega
      have e2 : Int.tmod n 10 = -d := by
        have := Int.tmod_eq_emod_of_nonneg (a := -n) (b := 10) (by omega)
        rw [Int.neg_tmod] at this; omega
      have w1 : IntKind.i64.wrap (48 + d) = 48 + d := IntWalk.i64_in _ (by omega)
      have w2 : IntKind.u8.wrap (48 + d) = 48 + d := IntWalk.u8_in _ (by omega)
      have w3 : IntKind.i64.wrap q = q := IntWalk.i64_in _ (by omega)
      have w4 : IntKind.i64.wrap d = d := IntWalk.i64_in _ (by omega)
      obtain ⟨c, hc⟩ : ∃ c, UInt8.ofNat (48 + (-n).toNat % 10) = c := ⟨_, rfl⟩
      have hcd : (c.toNat : Int) = 48 + d := by rw [← hc, UInt8.toNat_ofNat']; omega
      have hcv := conv_one c (48 + d) hcd
      have HCC := Lib.hid (conv_cell c (48 + d) hcd)
      have hcv0 := conv_cell c (48 + d) hcd (w.alloc (.cells #[.int .u8 (48 + d)] 5)).drew w.heap.size (World.news_of_block (cs := #[.int .u8 (48 + d)]) (heap_alloc_new w _) 0 _ rfl)
      have hcc : ¬ 9223372036854775807 < (Lib.itoa q).length + 1 := by omega
      rw [hc, hq] at HF
      have hsc : ((⟨(Lib.itoa q).toArray⟩ : ByteArray) ++ ⟨#[c]⟩).size ≤ 22 := by
        rw [ByteArray.size_append]; exact Nat.add_le_add hsa (Nat.le_refl 1)
      have HJ : Hid ((⟨(Lib.itoa q).toArray⟩ : ByteArray) ++ ⟨#[c]⟩ = ⟨(Lib.itoa n).toArray⟩) := Lib.hid (by rw [HF.out]; apply ByteArray.ext; simp)
      clear hc hcd hq ih hd
      by_cases hz : d = 0
      · subst hz
        rw [show (48 : Int) + 0 = 48 from rfl] at w1 w2 hcv hcv0 HCC
        go_enter Tryd.func18, Tryd.ntmps18
        go_wp2_with fail
        go_region_law ((first
          | (go_simp; go_at_call 18; refine (HD.out (w.alloc (.cells #[.int .u8 48] 5)).drew).mono ?_; rintro e wd ⟨rfl, hBd⟩; have hsd := hBd.size; have hce := (hBd.cell (p := ⟨w.heap.size, 0, none⟩) (by simp)).trans (World.news_of_block (cs := #[.int .u8 48]) (heap_alloc_new w _) 0 _ rfl); have hcw := HCC.out wd w.heap.size hce; have hBB := ((Below.refl w.heap.size w).alloc (Nat.le_refl _) (.cells #[.int .u8 48] 5)).drew.trans (hBd.mono (by simp)))
          | (go_simp; go_at_call 18; refine (HD.out w.drew).mono ?_; rintro e wd ⟨rfl, hBd⟩; have hsd : w.heap.size ≤ wd.heap.size := hBd.size; have hBB := ((Below.refl w.heap.size w).drew.trans hBd).alloc hsd (.cells #[.int .u8 48] 5))))
        all_goals go_wp2
        all_goals go_ret
        all_goals exact ⟨congrArg (fun z => Ending.returned (.string z)) HJ.out, hBB⟩
      · have hz' : -d < 0 := by omega
        go_enter Tryd.func18, Tryd.ntmps18
        go_wp2_with fail
        go_region_law ((first
          | (go_simp; go_at_call 18; refine (HD.out (w.alloc (.cells #[.int .u8 (48 + d)] 5)).drew).mono ?_; rintro e wd ⟨rfl, hBd⟩; have hsd := hBd.size; have hce := (hBd.cell (p := ⟨w.heap.size, 0, none⟩) (by simp)).trans (World.news_of_block (cs := #[.int .u8 (48 + d)]) (heap_alloc_new w _) 0 _ rfl); have hcw := HCC.out wd w.heap.size hce; have hBB := ((Below.refl w.heap.size w).alloc (Nat.le_refl _) (.cells #[.int .u8 (48 + d)] 5)).drew.trans (hBd.mono (by simp)))
          | (go_simp; go_at_call 18; refine (HD.out w.drew).mono ?_; rintro e wd ⟨rfl, hBd⟩; have hsd : w.heap.size ≤ wd.heap.size := hBd.size; have hBB := ((Below.refl w.heap.size w).drew.trans hBd).alloc hsd (.cells #[.int .u8 (48 + d)] 5))))
        all_goals go_wp2
        all_goals go_ret
        all_goals exact ⟨congrArg (fun z => Ending.returned (.string z)) HJ.out, hBB⟩
    · have HF := Lib.hid (itoa_pos n hs)
      have HD := Lib.hid (fun w => ih (n / 10).natAbs (by omega) (n / 10) w rfl (by omega) (by omega))
      have hla : (Lib.itoa (n / 10)).length ≤ 21 := Lib.itoa_length_le _ (by omega) (by omega)
      have hsa : (⟨(Lib.itoa (n / 10)).toArray⟩ : ByteArray).size ≤ 21 := by rw [← size_len]; exact hla
      have e1 : Int.tdiv n 10 = n / 10 := by rw [Int.tdiv_eq_ediv_of_nonneg (by omega)]
      have e2 : Int.tmod n 10 = n % 10 := by rw [Int.tmod_eq_emod_of_nonneg (by omega)]
      clear ih
      go_enter Tryd.func18, Tryd.ntmps18
      go_wp2_with fail
      obtain ⟨d, hd⟩ : ∃ d, n % 10 = d := ⟨_, rfl⟩
      have d0 : 0 ≤ d := by omega
      have d1 : d ≤ 9 := by omega
      have w1 : IntKind.i64.wrap (48 + d) = 48 + d := IntWalk.i64_in _ (by omega)
      have w2 : IntKind.u8.wrap (48 + d) = 48 + d := IntWalk.u8_in _ (by omega)
      have w3 : IntKind.i64.wrap (n / 10) = n / 10 := IntWalk.i64_in _ (by omega)
      obtain ⟨c, hc⟩ : ∃ c, UInt8.ofNat (48 + n.toNat % 10) = c := ⟨_, rfl⟩
      have hcd : (c.toNat : Int) = 48 + d := by rw [← hc, UInt8.toNat_ofNat']; omega
      have hcv := conv_one c (48 + d) hcd
      have HCC := Lib.hid (conv_cell c (48 + d) hcd)
      have hcv0 := conv_cell c (48 + d) hcd (w.alloc (.cells #[.int .u8 (48 + d)] 5)).drew w.heap.size (World.news_of_block (cs := #[.int .u8 (48 + d)]) (heap_alloc_new w _) 0 _ rfl)
      have hcc : ¬ 9223372036854775807 < (Lib.itoa (n / 10)).length + 1 := by omega
      rw [hc] at HF
      have hsc : ((⟨(Lib.itoa (n / 10)).toArray⟩ : ByteArray) ++ ⟨#[c]⟩).size ≤ 22 := by
        rw [ByteArray.size_append]; exact Nat.add_le_add hsa (Nat.le_refl 1)
      have HJ : Hid ((⟨(Lib.itoa (n / 10)).toArray⟩ : ByteArray) ++ ⟨#[c]⟩ = ⟨(Lib.itoa n).toArray⟩) := Lib.hid (by rw [HF.out]; apply ByteArray.ext; simp)
      clear hc hcd
      rw [hd]
      go_region_law ((first
        | (go_simp; go_at_call 18; refine (HD.out (w.alloc (.cells #[.int .u8 (48 + d)] 5)).drew).mono ?_; rintro e wd ⟨rfl, hBd⟩; have hsd := hBd.size; have hce := (hBd.cell (p := ⟨w.heap.size, 0, none⟩) (by simp)).trans (World.news_of_block (cs := #[.int .u8 (48 + d)]) (heap_alloc_new w _) 0 _ rfl); have hcw := HCC.out wd w.heap.size hce; have hBB := ((Below.refl w.heap.size w).alloc (Nat.le_refl _) (.cells #[.int .u8 (48 + d)] 5)).drew.trans (hBd.mono (by simp)))
        | (go_simp; go_at_call 18; refine (HD.out w.drew).mono ?_; rintro e wd ⟨rfl, hBd⟩; have hsd : w.heap.size ≤ wd.heap.size := hBd.size; have hBB := ((Below.refl w.heap.size w).drew.trans hBd).alloc hsd (.cells #[.int .u8 (48 + d)] 5))))
      all_goals go_wp2
      all_goals go_ret
      all_goals exact ⟨congrArg (fun z => Ending.returned (.string z)) HJ.out, hBB⟩
  · by_cases hn : n < 0
    · have HF := Lib.hid (itoa_minus n hn)
      obtain ⟨q, hq⟩ : ∃ q, -n = q := ⟨_, rfl⟩
      have q0 : 0 ≤ q := by omega
      have q1 : q ≤ 9 := by omega
      rw [hq] at HF
      have hnq : n = -q := by omega
      have a0 : ¬ 9 < n := by omega
      have a1 : ¬ n < -9 := by omega
      have HI := Lib.hid (itoa_small q q0 q1)
      have HP : Hid ((⟨#[45]⟩ : ByteArray) ++ ⟨(Lib.itoa q).toArray⟩ = ⟨(Lib.itoa n).toArray⟩) := Lib.hid (by rw [HF.out]; apply ByteArray.ext; simp)
      have hcc : ¬ 9223372036854775807 < 1 + (Lib.itoa q).length := by rw [HI.out]; simp
      have hcs : ((⟨#[45]⟩ : ByteArray) ++ ⟨(Lib.itoa q).toArray⟩).size ≤ 2 := by rw [HI.out, ByteArray.size_append]; exact Nat.le_refl 2
      have hcl : (⟨(Lib.itoa q).toArray⟩ : ByteArray).size ≤ 1 := by rw [HI.out]; exact Nat.le_refl 1
      have HD := Lib.hid (digitsR_small q w q0 q1)
      have w1 : IntKind.i64.wrap q = q := IntWalk.i64_in _ (by omega)
      clear ih hs
      go_enter Tryd.func18, Tryd.ntmps18
      go_wp2_with fail
      refine HD.out.mono ?_
      rintro e wd ⟨rfl, hBd⟩
      go_wp2_with fail
      go_ret
      exact ⟨congrArg (fun z => Ending.returned (.string z)) HP.out, hBd⟩
    · exact digitsR_small n w (by omega) (by omega)
end Go.Proofs.YtnmkcohfhomenaaDoor
