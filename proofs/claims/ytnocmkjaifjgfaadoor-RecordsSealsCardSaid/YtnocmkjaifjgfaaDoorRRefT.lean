/- The reference's Open, Unpad. (The seat with cards.) -/
import Derived.Test.YtnocmkjaifjgfaaDoorRRefS
namespace Go.Proofs.YtnocmkjaifjgfaaDoor.R
open Go.RowKit
attribute [local go_sem ↓] appB_eq

set_option maxHeartbeats 2000000 in
set_option maxRecDepth 100000 in
theorem refOpen_any (a : Option Addr) (d : Nat) (l : List UInt8) (w : World) (hv : BytesAt w (.slice a l.length d) l) (hld : l.length ≤ d) (hl : l.length ≤ 800000) :
    Calls Tryd.prog 8 #[.slice a l.length d] w fun e w' => ∃ u, e = .returned (.tuple #[u, .int .i64 (openE l : Nat)]) ∧ BytesAt w' u (openL l) ∧ Below w.heap.size w w' := by
  have HV := Lib.hid hv
  have HL := Lib.hid (show openL l = if openE l = 0 then l.take (l.length - 4) else [] from rfl)
  clear hv
  have hw1 : IntKind.i64.wrap ((l.length : Int) - 4) = (l.length : Int) - 4 := IntWalk.i64_in _ (by omega)
  by_cases h4 : l.length < 4
  · have d1 : decide ((l.length : Int) - 4 < 0) = true := decide_eq_true (by omega)
    have HO := Lib.hid (show openE l = 10 by unfold openE; rw [if_pos h4])
    clear h4
    go_enter Tryd.func8, Tryd.ntmps8
    go_wp2_with fail
    go_ret2
    exact ⟨_, by rw [HO.out]; rfl, by rw [HL.out, if_neg (by rw [HO.out]; decide)]; exact BytesAt.none_ _ _, Below.refl _ _⟩
  obtain ⟨m, hm⟩ : ∃ m, l.length - 4 = m := ⟨_, rfl⟩
  have HO := Lib.hid (show openE l = if numL (l.drop m) = crcV (l.take m) then 0 else 6 by unfold openE; rw [if_neg h4, hm])
  rw [hm] at HL
  have hml : (l.length : Int) - 4 = (m : Int) := by omega
  rw [hml] at hw1
  obtain ⟨g, o, rfl, hg⟩ := bytes_some2 HV.out (by omega)
  have hmd : m ≤ d := by omega
  have hnd : ¬ d = m := by omega
  have hml2 : m ≤ l.length := by omega
  have hlm : l.length - m = 4 := by omega
  have hdl : (l.drop m).length = 4 := by rw [List.length_drop]; omega
  have htl : (l.take m).length = m := by rw [List.length_take]; omega
  have HNU := Lib.hid (fun W (hW : Below w.heap.size w W) => refNumber_any (.slice (some ⟨g, o + m, none⟩) 4 (d - m)) (l.drop m) W (by
    have := (BytesAt.drop (d' := d - m) HV.out m hml2).below hW (Nat.le_refl _)
    rw [hlm] at this
    exact this) (by omega))
  have HCR := Lib.hid (fun W (hW : Below w.heap.size w W) => refCrc_at (.slice (some ⟨g, o, none⟩) m d) (l.take m) W ((HV.out.take m hml2).below hW (Nat.le_refl _)) (by unfold maxLen; omega))
  obtain ⟨g1, c1, w1, hr1, ho1, hb1⟩ := one_app (W := w.drew) (x := .slice (some ⟨g, o, none⟩) m d) ((HV.out.take m (d' := d) hml2).below (below_drew (Below.refl _ w)) (Nat.le_refl _)) (by omega)
  rw [htl] at hr1
  have hr1' : Sem.run Tryd.prog (appB 22 #[.slice (some ⟨w.heap.size, 0, none⟩) 0 0, .slice (some ⟨g, o, none⟩) m d]) ((w.alloc (.cells #[] 5 (0, 0))).drew) = .ok (.slice (some ⟨g1, 0, none⟩) m c1) w1 := hr1
  have HR1 : Hid (Row w1 w.heap.size (.slice (some ⟨g1, 0, none⟩) m c1) (l.take m)) := Lib.hid (by rw [htl] at ho1; exact ho1)
  have HB1 : Hid (Below w.heap.size w w1) := Lib.hid ((below_drew (Below.refl _ w)).trans hb1)
  have hnl := numL_lt (l.drop m)
  have hcl := crcV_lt (l.take m)
  have hcw : IntKind.u64.wrap (crcV (l.take m) : Int) = crcV (l.take m) := by rw [IntKind.wrap_u64]; omega
  rw [hdl] at hnl
  have HSD := Lib.hid (fun W (h : Below w.heap.size w W) => below_drew h)
  have HR0 := Lib.hid (Below.refl w.heap.size w)
  have d1 : decide ((m : Int) < 0) = false := decide_eq_false (by omega)
  have HLM := Lib.hid hm
  clear hm hdl htl h4 hr1 ho1 hb1
  have hor : (numL (l.drop m) = crcV (l.take m)) ∨ ¬ (numL (l.drop m) = crcV (l.take m)) := Classical.em _
  generalize numL (l.drop m) = x at *
  generalize crcV (l.take m) = y at *
  rcases hor with h | h
  · have HZ := Lib.hid (show openE l = 0 by rw [HO.out, if_pos h])
    have hb : ((y : Int) != (x : Int)) = false := by rw [h]; simp
    clear h
    go_enter Tryd.func8, Tryd.ntmps8
    go_wp2_with fail
    go_region_held3 (fun W' => Below w.heap.size w W') (first | assumption | exact HR0.out | exact HSD.out _ (by assumption) | exact HSD.out _ HR0.out)
      ((first
        | (go_at_call 23; (with_reducible refine (HNU.out _ ?hs).mono ?_); (case hs => first | assumption | exact HSD.out _ (by assumption) | exact HSD.out _ HR0.out); rintro e wz ⟨rfl, rfl⟩)
        | (go_at_call 22; (with_reducible refine (HCR.out _ ?hs).mono ?_); (case hs => first | assumption | exact HSD.out _ (by assumption) | exact HSD.out _ HR0.out); rintro e wz ⟨rfl, rfl⟩)))
    all_goals
      go_wp2_with fail
      go_ret2
      exact ⟨_, by rw [HZ.out]; rfl, by rw [HL.out, if_pos HZ.out]; exact HR1.out.at_, HB1.out⟩
  · have HZ := Lib.hid (show openE l = 6 by rw [HO.out, if_neg h])
    have hb : ((y : Int) != (x : Int)) = true := neN2 (fun k => h k.symm)
    clear h
    go_enter Tryd.func8, Tryd.ntmps8
    go_wp2_with fail
    go_region_held3 (fun W' => Below w.heap.size w W') (first | assumption | exact HR0.out | exact HSD.out _ (by assumption) | exact HSD.out _ HR0.out)
      ((first
        | (go_at_call 23; (with_reducible refine (HNU.out _ ?hs).mono ?_); (case hs => first | assumption | exact HSD.out _ (by assumption) | exact HSD.out _ HR0.out); rintro e wz ⟨rfl, rfl⟩)
        | (go_at_call 22; (with_reducible refine (HCR.out _ ?hs).mono ?_); (case hs => first | assumption | exact HSD.out _ (by assumption) | exact HSD.out _ HR0.out); rintro e wz ⟨rfl, rfl⟩)))
    all_goals
      go_wp2_with fail
      go_ret2
      exact ⟨_, by rw [HZ.out]; rfl, by rw [HL.out, if_neg (by rw [HZ.out]; decide)]; exact BytesAt.none_ _ _, HSD.out _ HR0.out⟩

set_option maxHeartbeats 2000000 in
set_option maxRecDepth 100000 in
theorem refUnpad_any (a : Option Addr) (d : Nat) (l : List UInt8) (w : World) (hv : BytesAt w (.slice a l.length d) l) (hld : l.length ≤ d) (hl : l.length ≤ 800000) :
    Calls Tryd.prog 12 #[.slice a l.length d] w fun e w' => ∃ v, e = .returned (.tuple #[v, .int .i64 (unpadE l : Nat)]) ∧ BytesAt w' v (unpadL l) ∧ Below w.heap.size w w' := by
  have HV := Lib.hid hv
  have HE := Lib.hid (show unpadE l = if 0 < keepN l l.length ∧ (l.getD (keepN l l.length - 1) 0).toNat = 1 then 0 else 6 from rfl)
  have HL := Lib.hid (show unpadL l = if unpadE l = 0 then l.take (keepN l l.length - 1) else [] from rfl)
  have hw1 : IntKind.i64.wrap ((l.length : Int) - 1) = (l.length : Int) - 1 := IntWalk.i64_in _ (by omega)
  clear hv
  go_enter Tryd.func12, Tryd.ntmps12
  go_wp2_with fail
  go_loop [4] (fun i => ∃ k : Nat, k ≤ l.length ∧ i = .int .i64 ((k : Int) - 1) ∧ Hid (keepN l l.length = keepN l k)) (fun i => (intOf i + 1).toNat)
  case atStart => exact ⟨l.length, by omega, rfl, Lib.hid rfl⟩
  case round =>
    obtain ⟨k, hk, rfl, hE⟩ := hrel
    cases k with
    | zero =>
      have HZ := Lib.hid (show unpadE l = 6 by rw [HE.out, hE.out, if_neg (fun h => by have := keepN_le l 0; omega)])
      rw [show ((0 : Nat) : Int) - 1 = -1 from rfl]
      go_wp2_with fail
      go_ret2
      exact ⟨_, by rw [HZ.out]; rfl, by rw [HL.out, if_neg (by rw [HZ.out]; decide)]; exact BytesAt.none_ _ _, Below.refl _ _⟩
    | succ j =>
      rw [show ((j + 1 : Nat) : Int) - 1 = (j : Int) from by omega]
      have hjl : j < l.length := by omega
      obtain ⟨g, o, rfl, hg⟩ := bytes_some2 HV.out (by omega)
      rcases HV.out with ⟨_, _, _, hl0⟩ | ⟨g2, i, c, hva, _, hcs⟩
      · rw [hl0] at hjl; simp at hjl
      obtain ⟨rfl, rfl⟩ : g = g2 ∧ o = i := by injection hva with h1; injection h1 with h1; injection h1 with h1 h2; exact ⟨h1, h2⟩
      have hcl := hcs j hjl
      have hby := byte_lt l j hjl
      have HS := Lib.hid (show keepN l (j + 1) = if l[j].toNat = 0 then keepN l j else j + 1 by
        rw [keepN, List.getD_eq_getElem?_getD, List.getElem?_eq_getElem hjl]; rfl)
      have HG := Lib.hid (show (l.getD j 0).toNat = l[j].toNat by rw [List.getD_eq_getElem?_getD, List.getElem?_eq_getElem hjl]; rfl)
      have hjd : j ≤ d := by omega
      have hjw : IntKind.i64.wrap ((j : Int) - 1) = (j : Int) - 1 := IntWalk.i64_in _ (by omega)
      obtain ⟨g1, c1, w1, hr1, ho1, hb1⟩ := one_app (W := w) (x := .slice (some ⟨g, o, none⟩) j d) (HV.out.take j (d' := d) (by omega)) (by rw [List.length_take]; omega)
      have htl : (l.take j).length = j := by rw [List.length_take]; omega
      rw [htl] at hr1 ho1
      have HR1 := Lib.hid ho1
      have HB1 := Lib.hid hb1
      generalize l[j].toNat = z at *
      clear hva hcs htl ho1 hb1
      by_cases h0 : z = 0
      · subst h0
        go_wp2_with fail
        go_round
        case rel => exact ⟨j, by omega, by go_num, Lib.hid (by rw [hE.out, HS.out, if_pos rfl])⟩
        case measure => simp [intOf]
      · have hz : ((z : Int) == 0) = false := by simp; omega
        have HF := Lib.hid (show keepN l l.length = j + 1 by rw [hE.out, HS.out, if_neg h0])
        rw [HF.out, Nat.add_sub_cancel] at HE HL
        rw [HG.out] at HE
        by_cases h1 : z = 1
        · subst h1
          have HZ := Lib.hid (show unpadE l = 0 by rw [HE.out, if_pos ⟨by omega, rfl⟩])
          go_wp2_with fail
          go_ret2
          exact ⟨_, by rw [HZ.out]; rfl, by rw [HL.out, if_pos HZ.out]; exact HR1.out.at_, HB1.out⟩
        · have hz1 : ((z : Int) != 1) = true := by simp; omega
          have HZ := Lib.hid (show unpadE l = 6 by rw [HE.out, if_neg (fun h => h1 h.2)])
          go_wp2_with fail
          go_ret2
          exact ⟨_, by rw [HZ.out]; rfl, by rw [HL.out, if_neg (by rw [HZ.out]; decide)]; exact BytesAt.none_ _ _, Below.refl _ _⟩
end Go.Proofs.YtnocmkjaifjgfaaDoor.R
