/- The law SumsParts: the walk. -/
import Derived.Test.YtadaohjphgpdnaaDoorApp
import Derived.Test.YtadaohjphgpdnaaDoorMixP
import Derived.Test.YtadaohjphgpdnaaDoorZerosP
import Derived.Test.YtadaohjphgpdnaaDoorPatch
import Derived.Deep.RegionHeld3
import Derived.Deep.DrawnRows
import Derived.Laws.MakeOwn
import Derived.Laws.OwnMore
namespace Go.Proofs.YtadaohjphgpdnaaDoor
open Go.RowKit

/-- What lies there, all along the walk. -/
structure PS (w : World) (va vb tv : Value) (a b : List UInt8) (W : World) : Prop where
  env : Env W
  ha : BytesAt W va a
  hb : BytesAt W vb b
  ht : BytesAt W tv (a ++ b)
  bel : Below w.heap.size w W
theorem PS.next {w : World} {va vb tv : Value} {a b : List UInt8} {W W' : World} (h : PS w va vb tv a b W) (hb : Below W.heap.size W W') : PS w va vb tv a b W' :=
  ⟨h.env.below hb h.env.one, h.ha.below hb (Nat.le_refl _), h.hb.below hb (Nat.le_refl _), h.ht.below hb (Nat.le_refl _), h.bel.trans (hb.mono h.bel.size)⟩
theorem drew_below (W : World) : Below W.heap.size W W.drew := ⟨rfl, rfl, rfl, Nat.le_refl _, fun _ _ => rfl⟩

theorem make_bytes (n : Nat) (hn : n ≤ 1000) : ∃ Z : Array Value, Z = (Lib.byteCells (List.replicate n 0)).toArray ∧ ∀ W, (Instr.makeSlice 23 (.int .u16 (n : Int)) (.int .u16 (n : Int))).run Tryd.prog W = .ok (.slice (some ⟨W.heap.size, 0, none⟩) n n) (W.alloc (.cells Z 5)) := by
  obtain ⟨i0, hi, hz0, hz1, hz2⟩ := info_parts Tryd.infoByte
  refine ⟨_, rfl, fun W => ?_⟩
  have h := run_make (P := Tryd.prog) (w := W) 23 5 i0 (.int .u8 0) Tryd.underlying23 hi hz0 .u16 .u16 (n : Int) (n : Int) (by omega) (by omega) (by rw [hz2]; omega) (by omega)
  rw [h, Int.toNat_natCast, hz1, Nat.mul_one]
  have e : madeCells (Value.int .u8 0).cells n = (Lib.byteCells (List.replicate n 0)).toArray := by
    apply Array.ext'
    show (madeCells #[.int .u8 0] n).toList = _
    rw [toList_madeCells_one]
    simp [Lib.byteCells]
  rw [e]

theorem parts_shown (va vb : Value) (a b : List UInt8) (n : Nat) (w : World) (hE : Env w) (hva : BytesAt w va a) (hvb : BytesAt w vb b) (h : 1000 < a.length ∨ 1000 < b.length ∨ 1000 < n) :
    Calls Tryd.prog 10 #[va, vb, .int .u16 n] w fun e w' => e = .returned (.bool true) ∧ Below w.heap.size w w' := by
  have HS := Lib.hid (shown_any w hE)
  obtain ⟨s, d, rfl⟩ := hva.shape
  obtain ⟨s', d', rfl⟩ := hvb.shape
  have hd : decide ((1000 : Int) < a.length) = true ∨ (decide ((1000 : Int) < a.length) = false ∧ decide ((1000 : Int) < b.length) = true) ∨ (decide ((1000 : Int) < a.length) = false ∧ decide ((1000 : Int) < b.length) = false ∧ decide ((1000 : Int) < n) = true) := by
    by_cases h1 : 1000 < a.length
    · exact .inl (decide_eq_true (by omega))
    by_cases h2 : 1000 < b.length
    · exact .inr (.inl ⟨decide_eq_false (by omega), decide_eq_true (by omega)⟩)
    · exact .inr (.inr ⟨decide_eq_false (by omega), decide_eq_false (by omega), decide_eq_true (by omega)⟩)
  clear hva hvb h
  rcases hd with d1 | ⟨d1, d2⟩ | ⟨d1, d2, d3⟩
  all_goals
    go_enter Tryd.func10, Tryd.ntmps10
    go_wp2_with fail
    refine HS.out.mono ?_
    rintro e w2 ⟨rfl, hb⟩
    go_wp2_with fail
    go_ret
    exact ⟨rfl, hb⟩

attribute [local go_sem ↓] Go.wp_at_zero Go.wp_at_succ
set_option maxHeartbeats 4000000 in
theorem parts_main (va vb : Value) (a b : List UInt8) (n : Nat) (w : World) (hE : Env w) (hva : BytesAt w va a) (hvb : BytesAt w vb b) (ha : a.length ≤ 1000) (hb : b.length ≤ 1000) (hn : n ≤ 1000) :
    Calls Tryd.prog 10 #[va, vb, .int .u16 n] w fun e w' => e = .returned (.bool true) ∧ Below w.heap.size w w' := by
  have hab : (a ++ b).length = a.length + b.length := List.length_append
  have HC1 := Lib.hid (fun tv W (h : PS w va vb tv a b W) => crcAll_any va a W h.env h.ha (by unfold maxLen; omega))
  have HC2 := Lib.hid (fun tv W (h : PS w va vb tv a b W) => crcAll_any vb b W h.env h.hb (by unfold maxLen; omega))
  have HCO := Lib.hid (fun tv W (h : PS w va vb tv a b W) => combine_any (crcV a) (crcV b) b.length W (crcV_lt a) (crcV_lt b) h.env)
  have HZE := Lib.hid (fun tv W (h : PS w va vb tv a b W) => zeros_any (crcV a) n W (crcV_lt a) h.env)
  have HMA := Lib.hid (fun tv W (h : PS w va vb tv a b W) => mixAll_any va a W h.ha (by unfold maxLen; omega))
  have HMO := Lib.hid (fun tv W (h : PS w va vb tv a b W) => mixOn_any (mixV a) vb b W (mixV_lt a) h.hb (by unfold maxLen; omega))
  have HON := Lib.hid (fun tv W (h : PS w va vb tv a b W) => on_any (crcV a) vb b W (crcV_lt a) h.env h.hb (by unfold maxLen; omega))
  have HCX := Lib.hid (fun tv W (h : PS w va vb tv a b W) => crcAll_any tv (a ++ b) W h.env h.ht (by unfold maxLen; omega))
  have HMX := Lib.hid (fun tv W (h : PS w va vb tv a b W) => mixAll_any tv (a ++ b) W h.ht (by unfold maxLen; omega))
  have HOZ := Lib.hid (fun tv W (zv : Value) (h : PS w va vb tv a b W) (hz : BytesAt W zv (List.replicate n 0)) => on_any (crcV a) zv (List.replicate n 0) W (crcV_lt a) h.env hz (by rw [List.length_replicate]; unfold maxLen; omega))
  have HSH := Lib.hid (fun tv W (h : PS w va vb tv a b W) => shown_any W h.env)
  have HB0 := Lib.hid ((Below.refl w.heap.size w).alloc (Nat.le_refl _) (.cells #[] 5 (0, 0)))
  have HO0 := Lib.hid (made0 w w.heap.size (Nat.le_refl _))
  have HVA := Lib.hid (hva.below HB0.out (Nat.le_refl _))
  have HVB := Lib.hid hvb
  have HVA0 := Lib.hid hva
  have HE := Lib.hid hE
  have h1 := hE.one
  obtain ⟨Z, hZ, hmk⟩ := make_bytes n hn
  have HZN := Lib.hid (fun W => bytes_new W (List.replicate n 0) Z 5 (0, 0) hZ n List.length_replicate)
  rw [show cN (crcV a) (crcV b) b.length = crcV (a ++ b) from by rw [show cN (crcV a) (crcV b) b.length = combineV (crcV a) (crcV b) b.length from by unfold cN; rw [inZ_yes (by omega)]; rfl, combine_crc], show zE (b.length : Int) = 0 from by unfold zE; rw [inZ_yes (by omega)]; rfl] at HCO
  rw [zN_yes (by omega), zerosE_on, show zE (n : Int) = 0 from by unfold zE; rw [inZ_yes (by omega)]; rfl] at HZE
  rw [mix_parts, mixE_parts] at HMO
  rw [show crcOn (crcV a) b = crcV (a ++ b) from by unfold crcV; rw [crcOn_append]] at HON
  have HAPP := Lib.hid (show Lib.byteCells a ++ Lib.byteCells b = Lib.byteCells (a ++ b) by simp [Lib.byteCells])
  have HAB := Lib.hid hab
  generalize crcOn (crcV a) (List.replicate n 0) = zr at *
  generalize crcV (a ++ b) = cx at *
  generalize mixV (a ++ b) = mx at *
  generalize crcV a = ca at *
  generalize crcV b = cb at *
  generalize mixV a = ma at *
  obtain ⟨s, d, rfl⟩ := hva.shape
  obtain ⟨s', d', rfl⟩ := hvb.shape
  have d1 : decide ((1000 : Int) < a.length) = false := decide_eq_false (by omega)
  have d2 : decide ((1000 : Int) < b.length) = false := decide_eq_false (by omega)
  have d3 : decide ((1000 : Int) < n) = false := decide_eq_false (by omega)
  have e1 : ((cx : Int) == cx) = true := beq_self_eq_true _
  have e2 : ((zr : Int) == zr) = true := beq_self_eq_true _
  have e3 : ((mx : Int) == mx) = true := beq_self_eq_true _
  clear hva hvb hE hab hZ
  go_enter Tryd.func10, Tryd.ntmps10
  go_wp2_with (first
    | (at_builtin; refine wpList_append_bytes (by rfl) _ _ (by rfl) w.heap.size (.slice (some ⟨w.heap.size, 0, none⟩) 0 0) (.slice s a.length d) 0 [] a (by rfl) (by rfl) HO0.out ⟨_, _, rfl⟩ HVA.out (by omega) (by simp) ?_; intro g cap w1 hown hgr; rw [Nat.zero_add, List.nil_append] at hown; rw [Nat.zero_add]; have HB1 := Lib.hid (HB0.out.grown hgr (by simp) (fun k e => (HO0.out.lt k e).1)); have HOW := Lib.hid (show OwnBytes w1 w.heap.size g cap a from hown); clear hgr hown)
    | (at_builtin; refine wpList_append_bytes (by rfl) _ _ (by rfl) w.heap.size (.slice (some ⟨g, 0, none⟩) a.length cap) (.slice s' b.length d') a.length (Lib.byteCells a) b (by rfl) (by rfl) HOW.out ⟨_, _, rfl⟩ (HVB.out.below HB1.out (Nat.le_refl _)) (by omega) HB1.out.size ?_; intro g2 cap2 w2 hown hgr; rw [HAPP.out, ← HAB.out] at hown; rw [← HAB.out]; have HB2 := Lib.hid (HB1.out.grown hgr HB1.out.size (fun k e => (HOW.out.lt k e).1)); have HOW2 := Lib.hid (show OwnBytes w2 w.heap.size g2 cap2 (a ++ b) from hown); clear hgr hown))
  have HP0 := Lib.hid (show PS w (.slice s a.length d) (.slice s' b.length d') (.slice (some ⟨g2, 0, none⟩) (a.length + b.length) cap2) a b w2 from ⟨HE.out.below HB2.out h1, HVA0.out.below HB2.out (Nat.le_refl _), HVB.out.below HB2.out (Nat.le_refl _), by have := HOW2.out.at_; rw [HAB.out] at this; exact this, HB2.out⟩)
  clear HO0 HOW HOW2 HB0 HB1 HB2 HVA HVA0 HVB HAPP HE
  refine (HC1.out _ _ HP0.out).mono ?_
  rintro e w3 ⟨rfl, hbz⟩
  have HP1 := Lib.hid (HP0.out.next hbz)
  clear hbz HP0
  go_wp2_with fail
  refine (HC2.out _ _ HP1.out).mono ?_
  rintro e w4 ⟨rfl, hbz⟩
  have HP2 := Lib.hid (HP1.out.next hbz)
  clear hbz HP1
  go_wp2_with fail
  refine (HCO.out _ _ HP2.out).mono ?_
  rintro e w5 ⟨rfl, hbz⟩
  have HP3 := Lib.hid (HP2.out.next hbz)
  clear hbz HP2
  go_wp2_with fail
  refine (HC1.out _ _ HP3.out).mono ?_
  rintro e w6 ⟨rfl, hbz⟩
  have HP4 := Lib.hid (HP3.out.next hbz)
  clear hbz HP3
  go_wp2_with fail
  refine (HZE.out _ _ HP4.out).mono ?_
  rintro e w7 ⟨rfl, hbz⟩
  have HP5 := Lib.hid (HP4.out.next hbz)
  clear hbz HP4
  go_wp2_with fail
  refine (HMA.out _ _ HP5.out).mono ?_
  rintro e w8 ⟨rfl, hbz⟩
  have HP6 := Lib.hid (HP5.out.next hbz)
  clear hbz HP5
  go_wp2_with fail
  refine (HMO.out _ _ HP6.out).mono ?_
  rintro e w9 ⟨rfl, hbz⟩
  have HP7 := Lib.hid (HP6.out.next hbz)
  clear hbz HP6
  go_wp2_with fail
  clear HC2 HCO HZE HMA HMO
  have HNX := Lib.hid (fun W W' (h : PS w (.slice s a.length d) (.slice s' b.length d') (.slice (some ⟨g2, 0, none⟩) (a.length + b.length) cap2) a b W) (hb : Below W.heap.size W W') => h.next hb)
  have HSD := Lib.hid (fun W (h : PS w (.slice s a.length d) (.slice s' b.length d') (.slice (some ⟨g2, 0, none⟩) (a.length + b.length) cap2) a b W) => h.next (drew_below W))
  have HSA := Lib.hid (fun W ob (h : PS w (.slice s a.length d) (.slice s' b.length d') (.slice (some ⟨g2, 0, none⟩) (a.length + b.length) cap2) a b W) => h.next ((Below.refl W.heap.size W).alloc (Nat.le_refl _) ob))
  go_region_held3 (fun W' => PS w (.slice s a.length d) (.slice s' b.length d') (.slice (some ⟨g2, 0, none⟩) (a.length + b.length) cap2) a b W') (first | assumption | exact HP7.out | exact HSD.out _ (by assumption) | exact HSA.out _ _ (by assumption))
    ((first
      | (go_at_call 14; (with_reducible refine (HC1.out (.slice (some ⟨g2, 0, none⟩) (a.length + b.length) cap2) _ ?hs).mono ?_); (case hs => assumption); rintro e wz ⟨rfl, hbz⟩; have hPz := HNX.out _ _ (by assumption) hbz)
      | (go_at_call 14; (with_reducible refine (HCX.out (.slice (some ⟨g2, 0, none⟩) (a.length + b.length) cap2) _ ?hs).mono ?_); (case hs => assumption); rintro e wz ⟨rfl, hbz⟩; have hPz := HNX.out _ _ (by assumption) hbz)
      | (go_at_call 16; (with_reducible refine (HON.out (.slice (some ⟨g2, 0, none⟩) (a.length + b.length) cap2) _ ?hs).mono ?_); (case hs => assumption); rintro e wz ⟨rfl, hbz⟩; have hPz := HNX.out _ _ (by assumption) hbz)
      | (go_at_call 16; (with_reducible refine (HOZ.out (.slice (some ⟨g2, 0, none⟩) (a.length + b.length) cap2) _ _ ?hs ?hz).mono ?_); (case hs => assumption); (case hz => first | exact (HZN.out _).heap' rfl | exact (((HZN.out _).heap' rfl).below hbz (Nat.le_refl _)).heap' rfl); rintro e wz ⟨rfl, hbz⟩; have hPz := HNX.out _ _ (by assumption) hbz)
      | (go_at_call 31; (with_reducible refine (HMX.out (.slice (some ⟨g2, 0, none⟩) (a.length + b.length) cap2) _ ?hs).mono ?_); (case hs => assumption); rintro e wz ⟨rfl, hbz⟩; have hPz := HNX.out _ _ (by assumption) hbz)
      | (go_at_call 13; (with_reducible refine (HSH.out (.slice (some ⟨g2, 0, none⟩) (a.length + b.length) cap2) _ ?hs).mono ?_); (case hs => assumption); rintro e wz ⟨rfl, hbz⟩; have hPz := HNX.out _ _ (by assumption) hbz)))
  all_goals
    have hfin := hPz.bel
    go_wp2_with fail
    go_ret
    exact ⟨rfl, hfin⟩

theorem sumsParts_any (va vb : Value) (a b : List UInt8) (n : Nat) (w : World) (hE : Env w) (hva : BytesAt w va a) (hvb : BytesAt w vb b) :
    Calls Tryd.prog 10 #[va, vb, .int .u16 n] w fun e w' => e = .returned (.bool true) ∧ Below w.heap.size w w' := by
  by_cases h : 1000 < a.length ∨ 1000 < b.length ∨ 1000 < n
  · exact parts_shown va vb a b n w hE hva hvb h
  · exact parts_main va vb a b n w hE hva hvb (by omega) (by omega) (by omega)
end Go.Proofs.YtadaohjphgpdnaaDoor
