/- The reference's Seal, Open. (The seat with cards.) -/
import Derived.Test.YtnocmkjaifjgfaaDoorRSeal
import Derived.Test.YtnocmkjaifjgfaaDoorRRefB
import Derived.Test.YtnocmkjaifjgfaaDoorRRefG
namespace Go.Proofs.YtnocmkjaifjgfaaDoor.R
open Go.RowKit
attribute [local go_sem ↓] appB_eq

theorem one_app {W : World} {x : Value} {l : List UInt8} (hx : BytesAt W x l) (hl : l.length ≤ 900000) :
    ∃ g c w', (appB 22 #[.slice (some ⟨W.heap.size, 0, none⟩) 0 0, x]).run Tryd.prog (W.alloc (.cells #[] 5 (0, 0))) = .ok (.slice (some ⟨g, 0, none⟩) l.length c) w' ∧ Row w' W.heap.size (.slice (some ⟨g, 0, none⟩) l.length c) l ∧ Below W.heap.size W w' := by
  obtain ⟨i0, hi, hz0, hz1, hz2⟩ := info_parts infoByte
  have hA := (Below.refl W.heap.size W).alloc (Nat.le_refl _) (.cells #[] 5 (0, 0))
  have h0 : (W.alloc (.cells #[] 5 (0, 0))).ownsRow W.heap.size 5 1 (.slice (some ⟨W.heap.size, 0, none⟩) 0 0) 0 [] := ⟨by simp, .inr ⟨W.heap.size, 0, #[], rfl, Nat.le_refl _, heap_alloc_new W _, Nat.le_refl _, by unfold maxLen; omega, by simp, by simp⟩⟩
  obtain ⟨g1, c1, w1, hr1, ho1, hk1⟩ := app_src (ty := 22) Tryd.underlying22 hi hz0 hz1 hz2 rfl (by decide) h0 (srcBytes (hx.below hA (Nat.le_refl _))) (by omega) (by omega) (by simp)
  rw [Nat.zero_add] at hr1 ho1
  exact ⟨g1, c1, w1, hr1, by unfold Row; simpa using ho1, hA.trans (hk1.toBelow (by simp) (fun k hk e => by omega))⟩
theorem refCrc_at (v : Value) (l : List UInt8) (w : World) (hv : BytesAt w v l) (hl : l.length ≤ maxLen) :
    Calls Tryd.prog 22 #[v] w fun e w' => e = .returned (.int .u32 (crcV l : Nat)) ∧ w = w' := refCrc_any v l w hv hl

set_option maxRecDepth 100000 in
theorem refSeal_any (v : Value) (l : List UInt8) (w : World) (hv : BytesAt w v l) (hl : l.length ≤ 800000) :
    Calls Tryd.prog 15 #[v] w fun e w' => ∃ u, e = .returned u ∧ BytesAt w' u (sealL l) ∧ Below w.heap.size w w' := by
  have HV := Lib.hid hv
  obtain ⟨g1, c1, w1, hr1, ho1, hb1⟩ := one_app hv (by omega)
  obtain ⟨a, d, rfl⟩ := hv.shape
  have hc := crcV_lt l
  have hcw : IntKind.u64.wrap (crcV l : Int) = crcV l := by rw [IntKind.wrap_u64]; omega
  have HL := Lib.hid (show sealL l = l ++ lowL (crcV l) 4 from rfl)
  have HX := Lib.hid (refCrc_at _ l w1 (HV.out.below hb1 (Nat.le_refl _)) (by unfold maxLen; omega))
  have HLO := Lib.hid (show Calls Tryd.prog 27 #[.int .u64 (crcV l : Nat), .int .i64 4] w1 (OutPost w1 (lowL (crcV l) 4)) from low_any (crcV l) 4 w1 (by omega) (by omega))
  have HLN := Lib.hid (lowL_len 4 (crcV l))
  have HO1 := Lib.hid ho1
  have HB1 := Lib.hid hb1
  generalize crcV l = c at *
  clear hv ho1 hb1
  go_enter Tryd.func15, Tryd.ntmps15
  go_wp2_with fail
  refine HX.out.mono ?_
  rintro e w2 ⟨rfl, rfl⟩
  go_wp2_with fail
  refine HLO.out.mono ?_
  rintro e w3 ⟨v3, rfl, hr3, hb3⟩
  obtain ⟨v4, w4, hr4, hrow4, hm4⟩ := run_append_row (ty := 22) (HO1.out.kept (Kept.of_below hb3 (fun _ => False)) (fun _ _ h => h)) hr3.at_ (by rw [HLN.out]; decide) (by rw [HLN.out]; omega) (Nat.le_trans HB1.out.size hb3.size)
  obtain ⟨a3, d3, rfl⟩ := hr3.shape
  rw [HLN.out] at hr4 ⊢
  have hr4' : Sem.run Tryd.prog (appB 22 #[.slice (some ⟨g1, 0, none⟩) l.length c1, .slice a3 4 d3]) w3 = .ok v4 w4 := hr4
  have HB3 := Lib.hid (HB1.out.trans (hb3.mono HB1.out.size))
  have HB4 := Lib.hid (HB3.out.trans (hm4.kept.toBelow HB3.out.size (fun i hi e => by have := (HO1.out.ge e).1; omega)))
  have HR4 := Lib.hid hrow4
  clear hr3 hb3 hr4 hrow4 hm4
  go_wp2_with fail
  go_ret
  exact ⟨_, rfl, by rw [HL.out]; exact HR4.out.at_, HB4.out⟩
end Go.Proofs.YtnocmkjaifjgfaaDoor.R
