/- The law DeviceKnown: the walk. -/
import Derived.Test.YtpboknepfjeljaaKnown
namespace Go.Proofs.Ytpboknepfjeljaa
open Go.RowKit Go.MapKept
attribute [local go_sem ↓] loadS_eq storeS_eq loadW_eq storeW_eq allocS_eq neqS_eq eqlS_eq alloc64_eq
attribute [local go_sem ↓] Go.wp_at_zero Go.wp_at_succ
set_option maxRecDepth 100000
attribute [local irreducible] World.setCells

set_option maxHeartbeats 4000000 in
theorem known_any (w : World) : Calls Try.prog 10 #[] w fun e w' => e = .returned (.bool true) ∧ Below w.heap.size w w' := by
  obtain ⟨N, hN⟩ : ∃ N, w.heap.size = N := ⟨_, rfl⟩
  obtain ⟨F0, hF0⟩ : ∃ F : Nat → Prop, (fun _ => False) = F := ⟨_, rfl⟩
  have HM0 : Hid (Many N F0 w []) := Lib.hid (by rw [← hF0, ← hN]; exact Many.none w)
  have HS0 : Hid (N ≤ w.heap.size) := Lib.hid (Nat.le_of_eq hN.symm)
  rw [hN]
  clear hN hF0
  have haS := run_allocS
  have hsN := run_storeS_new
  go_enter Try.func10, Try.ntmps10
  go_wp2_with fail
  refine (new64_many HM0.out HS0.out).mono ?_
  rintro e w1 ⟨b, rfl, hm, hb⟩
  have HK1 : Hid (KK N F0 w b (newD 64) w1) := Lib.hid ⟨hm, hb.mono HS0.out, Nat.le_trans HS0.out hb.size⟩
  clear hm hb HM0 HS0
  go_wp2_with fail
  refine (awake_any w1).mono ?_
  rintro e w2 ⟨rfl, hb⟩
  have HK2 := Lib.hid (HK1.out.low hb)
  clear hb HK1
  go_wp2_with fail
  refine (ones_any w2).mono ?_
  rintro e w3 ⟨rfl, hb⟩
  have HK3 := Lib.hid (HK2.out.low hb)
  clear hb HK2
  go_wp2_with fail
  refine (HK3.out.write 5 (Sec.fill 1 1) k_1.1 k_1.2.1).mono ?_
  rintro e w4 ⟨rfl, h, hr⟩
  have HK4 : Hid (KK N F0 w b (tookD (newD 64) 5 (Sec.fill 1 1)) w4) := Lib.hid h
  clear h HK3 hr
  go_wp2_with fail
  refine (HK4.out.flush k_1.2.2.1 k_1.2.2.2).mono ?_
  rintro e w5 ⟨rfl, h⟩
  have HK5 : Hid (KK N F0 w b kA w5) := Lib.hid h
  clear h HK4
  go_wp2_with fail
  refine (twos_any w5).mono ?_
  rintro e w6 ⟨rfl, hb⟩
  have HK6 := Lib.hid (HK5.out.low hb)
  clear hb HK5
  go_wp2_with fail
  refine (HK6.out.write 5 (Sec.fill 2 2) k_2.1 k_2.2.1).mono ?_
  rintro e w7 ⟨rfl, h, hr⟩
  have HK7 : Hid (KK N F0 w b kB w7) := Lib.hid h
  clear h HK6 hr
  go_wp2_with fail
  refine (HK7.out.crash (.slice none 0 0) [] (ints_none _) (Nat.zero_le _) none_safe k_2.2.2.1 k_2.2.2.2).mono ?_
  rintro e w8 ⟨rfl, h, hr⟩
  have HK8 : Hid (KK N F0 w b kC w8) := Lib.hid h
  clear h HK7 hr
  go_wp2_with fail
  refine (HK8.out.read 5 k_3.1 k_3.2.1).mono ?_
  rintro e w9 ⟨rfl, hb⟩
  have HK9 := Lib.hid (HK8.out.low hb)
  clear hb HK8
  go_wp2_with fail
  obtain ⟨X, hXe⟩ : ∃ x, w9.heap.size = x := ⟨_, rfl⟩
  obtain ⟨W1, hW1⟩ : ∃ W, w9.alloc (.cells (Sec.fill 1 1).A 50 (0, 0)) = W := ⟨_, rfl⟩
  rw [hW1, hXe]
  obtain ⟨F1, hF1⟩ : ∃ F : Nat → Prop, (fun k => F0 k ∨ k = X) = F := ⟨_, rfl⟩
  have HX : Hid (Blk F1 W1 X (.cells (Sec.fill 1 1).A 50 (0, 0))) := Lib.hid ⟨by rw [← hW1, ← hXe]; exact heap_alloc_new _ _, by rw [← hF1]; exact .inr rfl⟩
  have HK1 : Hid (KK N F1 w b kC W1) := Lib.hid (by rw [← hF1, ← hW1]; exact HK9.out.mark (Below.one _ _) X (by omega) (by rw [World.size_alloc]; omega))
  clear HK9 hXe hW1 hF1 haS hsN
  have hq : ∀ W, (neqS (.agg (Sec.fill 1 1).A) (.agg (Sec.fill 1 1).A)).run Try.prog W = .ok (.bool false) W := fun W => by have h := run_neqS W (Sec.fill 1 1) (Sec.fill 1 1); rw [decide_eq_true rfl] at h; exact h
  have HKd : Hid (KK N F1 w b kC W1.drew) := Lib.hid ⟨HK1.out.many.mem (Mem.drew W1), HK1.out.below.drew, HK1.out.size⟩
  have HBd : Hid (Kept (Out N F1) W1 W1.drew) := Lib.hid (Kept.refl _ W1).drew
  go_wp2
  have HKS := Lib.hid (fun (W : World) (h : Kept (Out N F1) W1 W) => (show ((loadS (.pointer (some ⟨X, 0, none⟩))).run Try.prog W = .ok (.agg (Sec.fill 1 1).A) W ∧ Hid (Kept (Out N F1) W1 W)) from ⟨run_loadS_block ((h.block X HX.out.lt (fun e => e.2 HX.out.mem)).trans HX.out.at_), Lib.hid h⟩))
  have HT1 := Lib.hid (HKS.out W1 (Kept.refl _ _))
  have HT2 := Lib.hid (fun (W : World) (h : ((loadS (.pointer (some ⟨X, 0, none⟩))).run Try.prog W = .ok (.agg (Sec.fill 1 1).A) W ∧ Hid (Kept (Out N F1) W1 W))) => HKS.out W.drew h.2.out.drew)
  have HTB := Lib.hid (fun (W W' : World) (h : ((loadS (.pointer (some ⟨X, 0, none⟩))).run Try.prog W = .ok (.agg (Sec.fill 1 1).A) W ∧ Hid (Kept (Out N F1) W1 W))) (hn : N ≤ W.heap.size) (hb : Below W.heap.size W W') => HKS.out W' (h.2.out.below hb h.2.out.size))
  have HTA := Lib.hid (fun (W : World) (x : Obj) (h : ((loadS (.pointer (some ⟨X, 0, none⟩))).run Try.prog W = .ok (.agg (Sec.fill 1 1).A) W ∧ Hid (Kept (Out N F1) W1 W))) => HKS.out (W.alloc x) (h.2.out.alloc x))
  have HF : Hid (∀ W, Calls Try.prog 32 #[] W fun e w' => e = .returned (.agg (Sec.fill 1 1).A) ∧ Below W.heap.size W w') := Lib.hid ones_any
  rw [show Op.load 50 (Operand.tmp 7) = ldX from rfl]
  have hld : ldX = Op.load 50 (Operand.tmp 7) := rfl
  go_region_held3 (fun W => ((loadS (.pointer (some ⟨X, 0, none⟩))).run Try.prog W = .ok (.agg (Sec.fill 1 1).A) W ∧ Hid (Kept (Out N F1) W1 W))) (first | assumption | exact HT1.out | exact HT2.out _ (by assumption) | exact HT2.out _ HT1.out | exact HTA.out _ _ (by assumption) | exact HTA.out _ _ (HT2.out _ HT1.out)) ((first | (go_at_call 32; (with_reducible refine (HF.out _).mono ?_); rintro e wz ⟨rfl, hbz⟩; have HKz := Lib.hid (HKd.out.low hbz); have hSz := HKS.out wz (HBd.out.below hbz HBd.out.size); have HXz := Lib.hid (hSz.2.out)) | fail))
  all_goals
    clear hq HKd HBd HT1 HT2 HTB HTA HF hld HKS
    have HX1 : Hid (Blk F1 wz X (.cells (Sec.fill 1 1).A 50 (0, 0))) := Lib.hid ⟨(HXz.out.block X HX.out.lt (fun e => e.2 HX.out.mem)).trans HX.out.at_, HX.out.mem⟩
    obtain ⟨w1, hw1⟩ : ∃ W, wz = W := ⟨_, rfl⟩
    rw [hw1] at HKz HX1 ⊢
    have HK1 := HKz
    clear HX HXz HKz hSz hw1
    go_wp2_with fail
    refine (HK1.out.limit 1 k_3.2.2.1 k_3.2.2.2).mono ?_
    rintro e w2 ⟨rfl, h, hr⟩
    have HK2 : Hid (KK N F1 w b kL w2) := Lib.hid h
    have HX2 := Lib.hid (HX1.out.ran hr)
    clear HX1
    clear h HK1 hr
    go_wp2_with fail
    refine (ones_any w2).mono ?_
    rintro e w3 ⟨rfl, hb⟩
    have HK3 := Lib.hid (HK2.out.low hb)
    have HX3 := Lib.hid (HX2.out.below hb (Nat.le_refl _))
    clear HX2
    clear hb HK2
    go_wp2_with fail
    refine (HK3.out.write 6 (Sec.fill 1 1) k_4.1 k_4.2.1).mono ?_
    rintro e w4 ⟨rfl, h, hr⟩
    have HK4 : Hid (KK N F1 w b kW w4) := Lib.hid h
    have HX4 := Lib.hid (HX3.out.ran hr)
    clear HX3
    clear h HK3 hr
    go_wp2_with fail
    refine (twos_any w4).mono ?_
    rintro e w5 ⟨rfl, hb⟩
    have HK5 := Lib.hid (HK4.out.low hb)
    have HX5 := Lib.hid (HX4.out.below hb (Nat.le_refl _))
    clear HX4
    clear hb HK4
    go_wp2_with fail
    refine (HK5.out.write 6 (Sec.fill 2 2) k_4.2.2.1 k_4.2.2.2).mono ?_
    rintro e w6 ⟨rfl, h, hr⟩
    have HK6 : Hid (KK N F1 w b kO w6) := Lib.hid h
    have HX6 := Lib.hid (HX5.out.ran hr)
    clear HX5
    clear h HK5 hr
    go_wp2_with fail
    refine (HK6.out.read 6 k_5.1 k_5.2.1).mono ?_
    rintro e w7 ⟨rfl, hb⟩
    have HK7 := Lib.hid (HK6.out.low hb)
    have HX7 := Lib.hid (HX6.out.below hb (Nat.le_refl _))
    clear HX6
    clear hb HK6
    have HON : Hid (Calls Try.prog 31 #[.pointer (some ⟨b, 0, none⟩)] w7 fun e w' => e = .returned (.bool false) ∧ w7 = w') := Lib.hid (on_many (l1 := []) HK7.out.many HK7.out.size)
    go_wp2_with fail
    refine HON.out.mono ?_
    rintro e w' ⟨rfl, rfl⟩
    clear HON
    go_wp2_with fail
    refine (HK7.out.crash0 k_5.2.2.1 k_5.2.2.2).mono ?_
    rintro e w8 ⟨rfl, h, hk⟩
    have HK8 : Hid (KK N F1 w b kZ w8) := Lib.hid h
    have HX8 : Hid (Blk F1 w8 X (.cells (Sec.fill 1 1).A 50 (0, 0))) := Lib.hid ⟨(hk.block X HX7.out.lt (fun e => e.2 HX7.out.mem)).trans HX7.out.at_, HX7.out.mem⟩
    clear h hk HK7 HX7
    go_wp2_with fail
    refine (HK8.out.read 6 k_6.1 k_6.2.1).mono ?_
    rintro e w9 ⟨rfl, hb⟩
    have HK9 := Lib.hid (HK8.out.low hb)
    have HX9 := Lib.hid (HX8.out.below hb (Nat.le_refl _))
    clear HX8
    clear hb HK8
    have hst : (storeS (.pointer (some ⟨X, 0, none⟩)) (.agg (Sec.fill 1 1).A)).run Try.prog w9 = .ok () w9 := by have h := run_storeS_block HX9.out.at_ (Sec.fill 1 1); rw [setRow_self _ _ _ _ _ HX9.out.at_] at h; exact h
    go_wp2_with fail
    refine (new_no 63 w9 rfl).mono ?_
    rintro e w' ⟨rfl, rfl⟩
    clear hst
    obtain ⟨W1, hW1⟩ : ∃ W, w9 = W := ⟨_, rfl⟩
    rw [hW1] at HK9 HX9 ⊢
    have HX := HX9
    have HK1 := HK9
    clear hW1 HK9 HX9
    have hq : ∀ W, (eqlS (.agg (Sec.fill 1 1).A) (.agg (Sec.fill 1 1).A)).run Try.prog W = .ok (.bool true) W := fun W => by have h := run_eqlS W (Sec.fill 1 1) (Sec.fill 1 1); rw [decide_eq_true rfl] at h; exact h
    have HKd : Hid (KK N F1 w b kZ W1.drew) := Lib.hid ⟨HK1.out.many.mem (Mem.drew W1), HK1.out.below.drew, HK1.out.size⟩
    have HBd : Hid (Kept (Out N F1) W1 W1.drew) := Lib.hid (Kept.refl _ W1).drew
    have HTKN : Hid (∀ wr, KK N F1 w b kZ wr → Calls Try.prog 24 #[.pointer (some ⟨b, 0, none⟩)] wr fun e w' => e = .returned (.int .i64 3) ∧ wr = w') := Lib.hid (fun wr h => taken_many (l1 := []) h.many h.size)
    go_wp2
    have HKS := Lib.hid (fun (W : World) (h : Kept (Out N F1) W1 W) => (show ((loadS (.pointer (some ⟨X, 0, none⟩))).run Try.prog W = .ok (.agg (Sec.fill 1 1).A) W ∧ Hid (Kept (Out N F1) W1 W)) from ⟨run_loadS_block ((h.block X HX.out.lt (fun e => e.2 HX.out.mem)).trans HX.out.at_), Lib.hid h⟩))
    have HT1 := Lib.hid (HKS.out W1 (Kept.refl _ _))
    have HT2 := Lib.hid (fun (W : World) (h : ((loadS (.pointer (some ⟨X, 0, none⟩))).run Try.prog W = .ok (.agg (Sec.fill 1 1).A) W ∧ Hid (Kept (Out N F1) W1 W))) => HKS.out W.drew h.2.out.drew)
    have HTB := Lib.hid (fun (W W' : World) (h : ((loadS (.pointer (some ⟨X, 0, none⟩))).run Try.prog W = .ok (.agg (Sec.fill 1 1).A) W ∧ Hid (Kept (Out N F1) W1 W))) (hn : N ≤ W.heap.size) (hb : Below W.heap.size W W') => HKS.out W' (h.2.out.below hb h.2.out.size))
    have HTA := Lib.hid (fun (W : World) (x : Obj) (h : ((loadS (.pointer (some ⟨X, 0, none⟩))).run Try.prog W = .ok (.agg (Sec.fill 1 1).A) W ∧ Hid (Kept (Out N F1) W1 W))) => HKS.out (W.alloc x) (h.2.out.alloc x))
    have HF : Hid (∀ W, Calls Try.prog 32 #[] W fun e w' => e = .returned (.agg (Sec.fill 1 1).A) ∧ Below W.heap.size W w') := Lib.hid ones_any
    rw [show Op.load 50 (Operand.tmp 7) = ldX from rfl]
    have hld : ldX = Op.load 50 (Operand.tmp 7) := rfl
    go_region_held3 (fun W => ((loadS (.pointer (some ⟨X, 0, none⟩))).run Try.prog W = .ok (.agg (Sec.fill 1 1).A) W ∧ Hid (Kept (Out N F1) W1 W))) (first | assumption | exact HT1.out | exact HT2.out _ (by assumption) | exact HT2.out _ HT1.out | exact HTA.out _ _ (by assumption) | exact HTA.out _ _ (HT2.out _ HT1.out)) ((first | (go_at_call 32; (with_reducible refine (HF.out _).mono ?_); rintro e wz ⟨rfl, hbz⟩; first | (have HKz := Lib.hid (HKd.out.low hbz); have hSz := HKS.out wz (HBd.out.below hbz HBd.out.size)) | (have HKe := Lib.hid (HKc.out.low hbz); have hSe := HKS.out wz (hSc.2.out.below hbz hSc.2.out.size))) | (go_at_call 24; (with_reducible refine (HTKN.out _ HKz.out).mono ?_); rintro e w' ⟨rfl, rfl⟩) | (go_at_call 26; (with_reducible refine (HKz.out.crash0 k_6.2.2.2.1 k_6.2.2.2.2.1).mono ?_); rintro e wc ⟨rfl, h, hk⟩; have HKc := Lib.hid h; have hSc := HKS.out wc (hSz.2.out.trans hk); clear h hk) | (go_at_call 30; (with_reducible refine (HKe.out.write 64 (Sec.fill 1 1) k_6.2.2.2.2.2.1 k_6.2.2.2.2.2.2).mono ?_); rintro e wy ⟨rfl, h, hr⟩; have HKy := Lib.hid h; have hSy := HKS.out wy (hSe.2.out.trans hr.kept); clear h hr) | fail))
    all_goals
      go_wp2
      go_ret
      exact ⟨rfl, HKy.out.below⟩
end Go.Proofs.Ytpboknepfjeljaa
