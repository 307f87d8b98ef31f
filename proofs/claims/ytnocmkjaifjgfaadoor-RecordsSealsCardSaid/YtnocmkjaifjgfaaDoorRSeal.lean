/- Seal, Open. (The seat with cards.) -/
import Derived.Test.YtnocmkjaifjgfaaDoorRPad2
import Derived.Test.YtnocmkjaifjgfaaDoorCrc
import Derived.Test.YtnocmkjaifjgfaaDoorREncA
import Derived.Test.YtnocmkjaifjgfaaDoorRDecA
import Derived.Deep.RegionHeld3
namespace Go.Proofs.YtnocmkjaifjgfaaDoor.R
open Go.RowKit

def sealL (l : List UInt8) : List UInt8 := l ++ lowL (crcV l) 4
theorem crc_at (v : Value) (l : List UInt8) (w : World) (hE : Env w) (hv : BytesAt w v l) (hl : l.length ≤ maxLen) :
    Calls Tryd.prog 20 #[v] w fun e w' => e = .returned (.int .u32 (crcV l : Nat)) ∧ Below w.heap.size w w' := crcAll_any v l w hE hv hl

set_option maxRecDepth 100000 in
theorem seal_any (v : Value) (l : List UInt8) (w : World) (hE : Env w) (hv : BytesAt w v l) (hl : l.length ≤ 800000) :
    Calls Tryd.prog 14 #[v] w fun e w' => ∃ u, e = .returned u ∧ BytesAt w' u (sealL l) ∧ Below w.heap.size w w' := by
  have HV := Lib.hid hv
  have HE := Lib.hid hE
  have HC := Lib.hid (clone_any v l w hv (by omega))
  obtain ⟨a, d, rfl⟩ := hv.shape
  have hc := crcV_lt l
  have hcw : IntKind.u64.wrap (crcV l : Int) = crcV l := by rw [IntKind.wrap_u64]; omega
  have HL := Lib.hid (show sealL l = l ++ lowL (crcV l) 4 from rfl)
  clear hv hE
  go_enter Tryd.func14, Tryd.ntmps14
  go_wp2_with fail
  refine HC.out.mono ?_
  rintro e w2 ⟨v2, rfl, hr2, hb2⟩
  have HB2 := Lib.hid hb2
  have HR2 := Lib.hid hr2
  have HX := Lib.hid (crc_at _ l w2 (HE.out.below hb2 HE.out.one) (HV.out.below hb2 (Nat.le_refl _)) (by unfold maxLen; omega))
  clear hr2 hb2
  go_wp2_with fail
  refine HX.out.mono ?_
  rintro e w3 ⟨rfl, hb3⟩
  have HB3 := Lib.hid (HB2.out.trans (hb3.mono HB2.out.size))
  have HR3 := Lib.hid (HR2.out.kept (Kept.of_below hb3 (fun _ => False)) (fun _ _ h => h))
  have HN := Lib.hid (appendNumber_any w.heap.size (crcV l) 4 v2 l w3 (by omega) (by omega) (by omega) HR3.out HB3.out.size)
  generalize crcV l = c at *
  clear hb3
  go_wp2_with fail
  refine HN.out.mono ?_
  rintro e w4 ⟨v4, rfl, hr4, hm4⟩
  have HR4 := Lib.hid hr4
  have HB4 := Lib.hid (HB3.out.trans (hm4.kept.toBelow HB3.out.size (fun i hi e => by have := (HR3.out.ge e).1; omega)))
  clear hr4 hm4
  go_wp2_with fail
  go_ret
  exact ⟨_, rfl, by rw [HL.out]; exact HR4.out.at_, HB4.out⟩

theorem neN2 {a b : Nat} (h : ¬ a = b) : ((a : Int) != (b : Int)) = true := by simp; omega
def openE (l : List UInt8) : Nat := if l.length < 4 then 10 else if numL (l.drop (l.length - 4)) = crcV (l.take (l.length - 4)) then 0 else 6
def openL (l : List UInt8) : List UInt8 := if openE l = 0 then l.take (l.length - 4) else []
set_option maxHeartbeats 2000000 in
set_option maxRecDepth 100000 in
theorem open_any (a : Option Addr) (d : Nat) (l : List UInt8) (w : World) (hE : Env w) (hv : BytesAt w (.slice a l.length d) l) (hld : l.length ≤ d) (hl : l.length ≤ 800000) :
    Calls Tryd.prog 7 #[.slice a l.length d] w fun e w' => ∃ u, e = .returned (.tuple #[u, .int .i64 (openE l : Nat)]) ∧ BytesAt w' u (openL l) ∧ Below w.heap.size w w' := by
  have HV := Lib.hid hv
  have HE := Lib.hid hE
  have HL := Lib.hid (show openL l = if openE l = 0 then l.take (l.length - 4) else [] from rfl)
  clear hv hE
  have hw1 : IntKind.i64.wrap ((l.length : Int) - 4) = (l.length : Int) - 4 := IntWalk.i64_in _ (by omega)
  by_cases h4 : l.length < 4
  · have d1 : decide ((l.length : Int) - 4 < 0) = true := decide_eq_true (by omega)
    have HO := Lib.hid (show openE l = 10 by unfold openE; rw [if_pos h4])
    clear h4
    go_enter Tryd.func7, Tryd.ntmps7
    go_wp2_with fail
    go_ret2
    exact ⟨_, by rw [HO.out]; rfl, by rw [HL.out, if_neg (by rw [HO.out]; decide)]; exact BytesAt.none_ _ _, Below.refl _ _⟩
  obtain ⟨m, hm⟩ : ∃ m, l.length - 4 = m := ⟨_, rfl⟩
  have HO := Lib.hid (show openE l = if numL (l.drop m) = crcV (l.take m) then 0 else 6 by unfold openE; rw [if_neg h4, hm])
  rw [hm] at HL
  have hml : (l.length : Int) - 4 = (m : Int) := by omega
  rw [hml] at hw1
  obtain ⟨g, o, rfl, hg⟩ := bytes_some2 HV.out (by omega)
  have hmd : m ≤ d := by omega
  have hnd : ¬ d = m := by omega
  have hml2 : m ≤ l.length := by omega
  have hlm : l.length - m = 4 := by omega
  have hdl : (l.drop m).length = 4 := by rw [List.length_drop]; omega
  have htl : (l.take m).length = m := by rw [List.length_take]; omega
  have h4d : 4 ≤ d - m := by omega
  have HNU := Lib.hid (fun W (hW : Below w.heap.size w W) => number_any (.slice (some ⟨g, o + m, none⟩) 4 (d - m)) (l.drop m) W (by
    have := (BytesAt.drop (d' := d - m) HV.out m hml2).below hW (Nat.le_refl _)
    rw [hlm] at this
    exact this) (by omega))
  have HCR := Lib.hid (fun W (hW : Below w.heap.size w W) => crc_at (.slice (some ⟨g, o, none⟩) m d) (l.take m) W (HE.out.below hW HE.out.one) ((HV.out.take m hml2).below hW (Nat.le_refl _)) (by unfold maxLen; omega))
  have HCL := Lib.hid (fun W (hW : Below w.heap.size w W) => clone_any (.slice (some ⟨g, o, none⟩) m d) (l.take m) W ((HV.out.take m hml2).below hW (Nat.le_refl _)) (by omega))
  have hnl := numL_lt (l.drop m)
  have hcl := crcV_lt (l.take m)
  have hcw : IntKind.u64.wrap (crcV (l.take m) : Int) = crcV (l.take m) := by rw [IntKind.wrap_u64]; omega
  rw [hdl] at hnl
  have HNX := Lib.hid (fun W W' (h : Below w.heap.size w W) (h' : Below W.heap.size W W') => h.trans (h'.mono h.size))
  have HSD := Lib.hid (fun W (h : Below w.heap.size w W) => below_drew h)
  have HR0 := Lib.hid (Below.refl w.heap.size w)
  have d1 : decide ((m : Int) < 0) = false := decide_eq_false (by omega)
  have HLM := Lib.hid hm
  clear hm hdl htl h4
  have hor : (numL (l.drop m) = crcV (l.take m)) ∨ ¬ (numL (l.drop m) = crcV (l.take m)) := Classical.em _
  generalize numL (l.drop m) = x at *
  generalize crcV (l.take m) = y at *
  have hbq : ((x : Int) != (y : Int)) = decide (x ≠ y) := by
    by_cases h : x = y
    · subst h; simp
    · have : ((x : Int) != y) = true := neN2 h
      rw [this]; exact (decide_eq_true h).symm
  rcases hor with h | h
  · have HZ := Lib.hid (show openE l = 0 by rw [HO.out, if_pos h])
    have hb : ((x : Int) != (y : Int)) = false := by rw [hbq]; exact decide_eq_false (fun k => k h)
    clear h hbq
    go_enter Tryd.func7, Tryd.ntmps7
    go_wp2_with fail
    go_region_held3 (fun W' => Below w.heap.size w W') (first | assumption | exact HR0.out | exact HSD.out _ (by assumption) | exact HSD.out _ HR0.out)
      ((first
        | (go_at_call 19; (with_reducible refine (HNU.out _ ?hs).mono ?_); (case hs => first | assumption | exact HSD.out _ (by assumption) | exact HSD.out _ HR0.out); rintro e wz ⟨rfl, rfl⟩)
        | (go_at_call 20; (with_reducible refine (HCR.out _ ?hs).mono ?_); (case hs => first | assumption | exact HSD.out _ (by assumption) | exact HSD.out _ HR0.out); rintro e wz ⟨rfl, hbz⟩; have hPz := HNX.out _ _ (by first | assumption | exact HSD.out _ (by assumption) | exact HSD.out _ HR0.out) hbz)))
    all_goals
      have HP := Lib.hid hPz
      clear hPz hbz
      go_wp2_with fail
      refine (HCL.out _ HP.out).mono ?_
      rintro e wq ⟨vq, rfl, hrq, hbq⟩
      have HR := Lib.hid hrq
      have HB := Lib.hid (HP.out.trans (hbq.mono HP.out.size))
      clear hrq hbq
      go_wp2_with fail
      go_ret2
      exact ⟨_, by rw [HZ.out]; rfl, by rw [HL.out, if_pos HZ.out]; exact HR.out.at_, HB.out⟩
  · have HZ := Lib.hid (show openE l = 6 by rw [HO.out, if_neg h])
    have hb : ((x : Int) != (y : Int)) = true := neN2 h
    clear h hbq
    go_enter Tryd.func7, Tryd.ntmps7
    go_wp2_with fail
    go_region_held3 (fun W' => Below w.heap.size w W') (first | assumption | exact HR0.out | exact HSD.out _ (by assumption) | exact HSD.out _ HR0.out)
      ((first
        | (go_at_call 19; (with_reducible refine (HNU.out _ ?hs).mono ?_); (case hs => first | assumption | exact HSD.out _ (by assumption) | exact HSD.out _ HR0.out); rintro e wz ⟨rfl, rfl⟩)
        | (go_at_call 20; (with_reducible refine (HCR.out _ ?hs).mono ?_); (case hs => first | assumption | exact HSD.out _ (by assumption) | exact HSD.out _ HR0.out); rintro e wz ⟨rfl, hbz⟩; have hPz := HNX.out _ _ (by first | assumption | exact HSD.out _ (by assumption) | exact HSD.out _ HR0.out) hbz)))
    all_goals
      have HP := Lib.hid hPz
      clear hPz hbz
      go_wp2_with fail
      go_ret2
      exact ⟨_, by rw [HZ.out]; rfl, by rw [HL.out, if_neg (by rw [HZ.out]; decide)]; exact BytesAt.none_ _ _, HP.out⟩
end Go.Proofs.YtnocmkjaifjgfaaDoor.R
