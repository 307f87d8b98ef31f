/- checkKeep, Crash. -/
import Derived.Test.YtpboknepfjeljaaWrite
namespace Go.Proofs.Ytpboknepfjeljaa
open Go.RowKit Go.MapKept
attribute [local go_sem ↓] loadS_eq storeS_eq loadW_eq storeW_eq allocW_eq boxW_eq clearX_eq updX_eq appW_eq bslW_eq bldW_eq boxS_eq
set_option maxRecDepth 100000

/-- The slice v reads as integers. -/
def IntsAt (w : World) (v : Value) (L : List Int) : Prop :=
  (∃ a c, v = .slice a 0 c ∧ L = []) ∨
  ∃ g o c, v = .slice (some ⟨g, o, none⟩) L.length c ∧ g < w.heap.size ∧ ∀ k (h : k < L.length), w.cell? ⟨g, o + k, none⟩ = some (.int .i64 L[k])
theorem IntsAt.below {n : Nat} {A B : World} {v : Value} {L : List Int} (h : IntsAt A v L) (hk : Below n A B) (hn : A.heap.size ≤ n) : IntsAt B v L := by
  rcases h with h | ⟨g, o, c, rfl, hg, hc⟩
  · exact .inl h
  · exact .inr ⟨g, o, c, rfl, Nat.lt_of_lt_of_le hg hk.size, fun k hkl => by rw [hk.cell (p := ⟨g, o + k, none⟩) (by show g < n; omega)]; exact hc k hkl⟩
theorem IntsAt.kept {X : Nat → Prop} {A B : World} {v : Value} {L : List Int} (h : IntsAt A v L) (hk : Kept X A B) (hx : offX X v) : IntsAt B v L := by
  rcases h with h | ⟨g, o, c, rfl, hg, hc⟩
  · exact .inl h
  · by_cases h0 : L.length = 0
    · have : L = [] := List.eq_nil_of_length_eq_zero h0
      subst this; exact .inl ⟨_, _, rfl, rfl⟩
    · exact .inr ⟨g, o, c, rfl, Nat.lt_of_lt_of_le hg hk.size, fun k hkl => by rw [hk.cell hg (hx g o _ c rfl h0)]; exact hc k hkl⟩
theorem IntsAt.val {w : World} {v : Value} {L : List Int} (h : IntsAt w v L) : ∃ a c, v = .slice a L.length c := by
  rcases h with ⟨a, c, rfl, rfl⟩ | ⟨g, o, c, rfl, _⟩
  · exact ⟨a, c, rfl⟩
  · exact ⟨_, c, rfl⟩
theorem IntsAt.some_ {w : World} {a : Option Addr} {c : Nat} {L : List Int} (h : IntsAt w (.slice a L.length c) L) (h0 : 0 < L.length) : ∃ g o, a = some ⟨g, o, none⟩ ∧ ∀ k (h : k < L.length), w.cell? ⟨g, o + k, none⟩ = some (.int .i64 L[k]) := by
  rcases h with ⟨a', c', hv, rfl⟩ | ⟨g, o, c', hv, _, hc⟩
  · simp at h0
  · cases hv; exact ⟨g, o, rfl, hc⟩

theorem ascB_iff : ∀ (L : List Int), ascB L = true ↔ ∀ i (h : i + 1 < L.length), L[i] < L[i + 1]
  | [] => by simp [ascB]
  | [a] => by simp [ascB]
  | a :: b :: r => by
    have ih := ascB_iff (b :: r)
    simp only [ascB, Bool.and_eq_true, decide_eq_true_eq, ih]
    constructor
    · rintro ⟨h1, h2⟩ i hi
      cases i with
      | zero => exact h1
      | succ i => exact h2 i (by simpa using hi)
    · intro h
      exact ⟨h 0 (by simp), fun i hi => h (i + 1) (by simpa using hi)⟩
theorem keepE_7 {n : Nat} {L : List Int} {k : Nat} (hk : k < L.length) (h : inS n L[k] = false) : keepE n L = 7 := by
  unfold keepE
  rw [if_neg]
  intro ha
  have := List.all_eq_true.1 ha L[k] (List.getElem_mem hk)
  rw [h] at this; cases this
theorem keepE_6 {n : Nat} {L : List Int} {j : Nat} (ha : L.all (inS n) = true) (h1 : 1 ≤ j) (hj : j < L.length) (h : L[j] ≤ L[j - 1]) : keepE n L = 6 := by
  unfold keepE
  rw [if_pos ha, if_neg]
  intro hb
  have := (ascB_iff L).1 hb (j - 1) (by omega)
  have e : L[j - 1 + 1]'(by omega) = L[j] := by congr 1; omega
  omega
theorem keepE_0 {n : Nat} {L : List Int} (ha : L.all (inS n) = true) (h : ∀ i (h : i + 1 < L.length), L[i] < L[i + 1]) : keepE n L = 0 := by
  unfold keepE
  rw [if_pos ha, if_pos ((ascB_iff L).2 h)]
theorem all_take {p : Int → Bool} {L : List Int} {k : Nat} (hk : k < L.length) (h : (L.take k).all p = true) (h2 : p L[k] = true) : (L.take (k + 1)).all p = true := by
  rw [List.take_succ_eq_append_getElem hk, List.all_append, h]; simp [h2]

set_option maxHeartbeats 2000000 in
theorem checkKeep_any {w : World} {b m : Nat} {vs vc : Value} {D : Dv} (hp : DevP w b m vs vc D) (v : Value) (L : List Int) (hv : IntsAt w v L) (hL : L.length ≤ maxLen) :
    Calls Try.prog 50 #[.pointer (some ⟨b, 0, none⟩), v] w fun e w' => e = .returned (.int .i64 (keepE D.ca.length L)) ∧ Mem w w' := by
  unfold maxLen at hL
  obtain ⟨a, c, rfl⟩ := hv.val
  have h2 := hp.cells.2.2.1
  obtain ⟨ac, cc, rfl, -, -⟩ := hp.cav
  have hca := hp.ok.ca
  have HV := Lib.hid hv
  clear hp hv
  go_enter Try.func50, Try.ntmps50
  go_wp2
  go_loop [10] (fun i => ∃ k : Nat, k ≤ L.length ∧ i = .int .i64 k ∧ Hid ((L.take k).all (inS D.ca.length) = true)) (fun i => L.length - (intOf i).toNat)
  case atStart => exact ⟨0, Nat.zero_le _, rfl, Lib.hid rfl⟩
  case round =>
    obtain ⟨k, hk, rfl, HA⟩ := hrel
    by_cases hlt : k < L.length
    · obtain ⟨g, o, rfl, hc⟩ := HV.out.some_ (by omega)
      have hck := hc k hlt
      clear hc
      by_cases c1 : L[k] < 0
      · have d1 : decide (L[k] < 0) = true := by simpa using c1
        have HE := Lib.hid (keepE_7 (n := D.ca.length) hlt (inS_no (by omega)))
        generalize L[k] = x at *
        go_wp2
        go_ret
        exact ⟨ret_int HE.out.symm, Mem.refl _⟩
      · have d1 : decide (L[k] < 0) = false := by simpa using c1
        by_cases c2 : (D.ca.length : Int) ≤ L[k]
        · have d2 : decide ((D.ca.length : Int) ≤ L[k]) = true := by simpa using c2
          have HE := Lib.hid (keepE_7 (n := D.ca.length) hlt (inS_no (by omega)))
          generalize L[k] = x at *
          go_wp2
          go_ret
          exact ⟨ret_int HE.out.symm, Mem.refl _⟩
        · have d2 : decide ((D.ca.length : Int) ≤ L[k]) = false := by simpa using c2
          have HB := Lib.hid (all_take hlt HA.out (inS_mk (by omega) (by omega)))
          generalize L[k] = x at *
          go_wp2
          go_round
          case rel => exact ⟨k + 1, by omega, by go_num, HB⟩
          case measure => simp [intOf]; omega
    · obtain rfl : k = L.length := by omega
      have HA2 : Hid (L.all (inS D.ca.length) = true) := Lib.hid (by have := HA.out; rwa [List.take_length] at this)
      clear HA hlt hk
      go_wp2
      go_loopw [7] (fun i wr => ∃ j : Nat, 1 ≤ j ∧ (j ≤ L.length ∨ j = 1) ∧ i = .int .i64 j ∧ Hid (∀ i (h : i + 1 < j) (h2 : i + 1 < L.length), L[i]'(by omega) < L[i + 1]) ∧ Hid (Mem w wr)) (fun i _ => L.length - (intOf i).toNat)
      case atStart => exact ⟨1, Nat.le_refl _, .inr rfl, rfl, Lib.hid (fun i h => by omega), Lib.hid (Mem.refl _)⟩
      case round =>
        obtain ⟨j, hj1, hj2, rfl, HI, HM⟩ := hrel
        by_cases hlt : j < L.length
        · obtain ⟨g, o, rfl, hc⟩ := (HV.out.below (HM.out.below w.heap.size) (Nat.le_refl _)).some_ (by omega)
          have hck := hc j hlt
          have hck1 := hc (j - 1) (by omega)
          have i1 : ((j : Int) - 1).toNat = j - 1 := by omega
          have i2 : 0 ≤ (j : Int) - 1 ∧ (j : Int) - 1 < L.length := by omega
          have i3 : IntKind.i64.wrap ((j : Int) - 1) = (j : Int) - 1 := IntWalk.i64_in _ (by omega)
          clear hc
          by_cases c1 : L[j] ≤ L[j - 1]
          · have d1 : decide (L[j] ≤ L[j - 1]) = true := by simpa using c1
            have HE := Lib.hid (keepE_6 HA2.out hj1 hlt c1)
            generalize L[j] = x at *
            generalize L[j - 1] = y at *
            go_wp2
            go_quiet (fail)
            go_wp2
            go_ret
            exact ⟨ret_int HE.out.symm, HM.out.trans ⟨rfl, rfl, rfl, rfl⟩⟩
          · have d1 : decide (L[j] ≤ L[j - 1]) = false := by simpa using c1
            have HI2 : Hid (∀ i (h : i + 1 < j + 1) (h2 : i + 1 < L.length), L[i]'(by omega) < L[i + 1]) := Lib.hid (fun i h h2 => by
              by_cases e : i + 1 < j
              · exact HI.out i e h2
              · have e1 : i = j - 1 := by omega
                subst e1
                have e2 : L[j - 1 + 1]'h2 = L[j] := by congr 1; omega
                omega)
            generalize L[j] = x at *
            generalize L[j - 1] = y at *
            go_wp2
            go_quiet (fail)
            go_wp2
            go_roundw
            case rel => exact ⟨j + 1, by omega, by omega, by go_num, HI2, Lib.hid (HM.out.trans ⟨rfl, rfl, rfl, rfl⟩)⟩
            case measure => simp [intOf]; omega
        · have HE := Lib.hid (keepE_0 HA2.out (fun i h => HI.out i (by omega) h))
          have d1 : decide ((j : Int) < L.length) = false := by simp; omega
          go_wp2
          go_ret
          exact ⟨ret_int HE.out.symm, HM.out⟩

theorem keptV_take (ca : List Wr) (L : List Int) (k i : Nat) (hk : k < L.length) (hi : L[k] = i) (hil : i < ca.length) : keptV ca (L.take (k + 1)) = keptV ca (L.take k) ++ [ca[i]] := by
  unfold keptV
  rw [List.take_succ_eq_append_getElem hk, List.filterMap_append]
  simp [hi, hil]
theorem crash_none {w : World} {v : Value} (u : Value) (hc : Calls Try.prog 43 #[v] w fun e w' => e = .returned (.bool false) ∧ w = w') :
    Calls Try.prog 26 #[v, u] w fun e w' => e = .returned (.int .i64 1) ∧ w = w' := by
  have HC := Lib.hid hc
  clear hc
  go_enter Try.func26, Try.ntmps26
  go_wp2_with fail
  refine HC.out.mono ?_
  rintro e w' ⟨rfl, rfl⟩
  go_wp2_with fail
  go_ret
  exact ⟨rfl, rfl⟩
theorem DevP.mem {w w' : World} {b m : Nat} {vs vc : Value} {D : Dv} (h : DevP w b m vs vc D) (k : Mem w w') : DevP w' b m vs vc D := h.below (k.below w.heap.size) (Nat.le_refl _)
theorem DevAt.mem {w w' : World} {b : Nat} {X : Nat → Prop} {D : Dv} (h : DevAt w b X D) (k : Mem w w') : DevAt w' b X D := h.below (k.below w.heap.size) (Nat.le_refl _)

set_option maxHeartbeats 2000000 in
theorem crash_any {w : World} {b : Nat} {X : Nat → Prop} {D : Dv} (h : DevAt w b X D) (v : Value) (L : List Int) (hv : IntsAt w v L) (hL : L.length ≤ maxLen) (hx : offX X v) :
    Calls Try.prog 26 #[.pointer (some ⟨b, 0, none⟩), v] w fun e w' => e = .returned (.int .i64 (keepE D.ca.length L)) ∧ Step b X (crashD D L) w w' := by
  have HC := Lib.hid (isMade_any h)
  have H := Lib.hid h
  have HV := Lib.hid hv
  have HX := Lib.hid hx
  obtain ⟨a, c, rfl⟩ := hv.val
  obtain ⟨m, vs, vc, hp, hX1, hX2, hX3, hX4⟩ := h.parts
  have HP := Lib.hid hp
  have HK := Lib.hid (checkKeep_any hp _ L hv hL)
  unfold maxLen at hL
  have hca := hp.ok.ca
  obtain ⟨ac, cc, rfl, hnone, hsome⟩ := hp.cav
  have HN := Lib.hid hnone
  have HS := Lib.hid hsome
  clear h hv hx hp hnone hsome
  by_cases he : keepE D.ca.length L = 0
  · have HE := Lib.hid he
    have hall : L.all (inS D.ca.length) = true := by
      unfold keepE at he
      cases hq : L.all (inS D.ca.length) with
      | true => rfl
      | false => rw [hq] at he; cases he
    have HALL := Lib.hid hall
    rw [he] at HK ⊢
    have haw := run_allocW
    clear he hall
    go_enter Try.func26, Try.ntmps26
    go_wp2_with fail
    refine HC.out.mono ?_
    rintro e w' ⟨rfl, rfl⟩
    go_wp2_with fail
    refine HK.out.mono ?_
    rintro e w1 ⟨rfl, hm1⟩
    have HP1 := Lib.hid (HP.out.mem hm1)
    have HK1 := Lib.hid ((Kept.refl (fun k => vs.ownBlock = some k) w).mem hm1)
    clear hm1
    go_wp2_with fail
    go_loopw [19] (fun i wr => ∃ k : Nat, k ≤ L.length ∧ i = .int .i64 k ∧ Hid (DevP wr b m vs (.slice ac D.ca.length cc) { D with st := settleV D.st (keptV D.ca (L.take k)) }) ∧ Hid (Kept (fun k => vs.ownBlock = some k) w wr)) (fun i _ => L.length - (intOf i).toNat)
    case atStart => exact ⟨0, Nat.zero_le _, rfl, Lib.hid (by simpa [settleV, keptV] using HP1.out), HK1⟩
    case round =>
      obtain ⟨k, hk, rfl, HD, HKr⟩ := hrel
      by_cases hlt : k < L.length
      · have hin := List.all_eq_true.1 HALL.out L[k] (List.getElem_mem hlt)
        obtain ⟨i, hi, hil⟩ := inS_nat hin
        obtain ⟨g, o, rfl, hcell⟩ := (HV.out.kept HKr.out (fun g o n c e hn hx => HX.out g o n c e hn (hX3 g hx))).some_ (by omega)
        obtain ⟨gc, rfl⟩ : ∃ g, ac = some ⟨g, 0, none⟩ := by
          cases ac with
          | none => have := HN.out rfl; rw [this] at hil; simp at hil
          | some p => obtain ⟨g, rfl⟩ := HS.out p rfl; exact ⟨g, rfl⟩
        have hck := hcell k hlt
        rw [hi] at hck
        have hld := run_loadW_elem (wrs_of_row HD.out.cas) i hil
        rw [Nat.zero_add] at hld
        have h2 := HD.out.cells.2.2.1
        have HA := Lib.hid (apply_any HD.out D.ca[i] (by
          have := HD.out.ok.ats D.ca[i] (List.getElem_mem hil)
          exact inS_mk this.1 this.2))
        have HT := Lib.hid (keptV_take D.ca L k i hlt hi hil)
        have hil2 : (i : Int) < (D.ca.length : Int) := by omega
        clear hin hi hcell
        go_wp2_with fail
        refine HA.out.mono ?_
        rintro e w2 ⟨rfl, hp2, hk2⟩
        have HP2 := Lib.hid hp2
        have HK2 := Lib.hid (HKr.out.trans hk2)
        clear hp2 hk2
        go_wp2_with fail
        go_roundw
        case rel => exact ⟨k + 1, by omega, by go_num, Lib.hid (by rw [HT.out, settleV_snoc]; exact HP2.out), HK2⟩
        case measure => simp [intOf]; omega
      · have HQ := Lib.hid (empty_any HD.out)
        have HT := Lib.hid (take_all L hlt)
        have d1 : decide ((k : Int) < L.length) = false := by simp; omega
        go_wp2_with fail
        refine HQ.out.mono ?_
        rintro e w2 ⟨rfl, hp2, hk2⟩
        obtain ⟨-, -, -, -, -, g5, g6⟩ := hp2.cells
        have f5 := hp2.frozen 5
        have f6 := hp2.frozen 6
        have HF : Hid (Step b X (crashD D L) w ((w2.setCell ⟨b, 5, none⟩ (.int .i64 (-1))).setCell ⟨b, 6, none⟩ (.bool false))) := Lib.hid (by
          have e1 : crashD D L = crashedD D L := by unfold crashD; rw [if_pos HE.out]
          rw [e1]
          have o := hp2.ok
          have hp3 := (hp2.set5 (-1) ⟨o.s0, o.s1, o.ca, o.ats, o.t0, o.t1, by show (-1 : Int) ≤ -1; omega, by show (-1 : Int) ≤ _; omega⟩).set6 false
          rw [HT.out] at hp3
          have hk3 : Kept X w w2 := (HKr.out.mono fun k e => hX3 k e).trans (hk2.mono fun k e => by rcases e with rfl | rfl <;> assumption)
          have hk4 := Kept.setCell (X := X) (Kept.setCell (X := X) hk3 ⟨b, 5, none⟩ hX1 (.int .i64 (-1))) ⟨b, 6, none⟩ hX1 (.bool false)
          exact Step.mk' H.out hX1 hX2 hX3 hp3 hk4 (fun g hg => by cases hg))
        clear hp2 hk2
        go_wp2
        go_ret
        exact ⟨rfl, HF.out⟩
  · have he2 : (keepE D.ca.length L == 0) = false := by simpa using he
    have he3 : (keepE D.ca.length L != 0) = true := by simpa using he
    have HF : Hid (crashD D L = D) := Lib.hid (by unfold crashD; rw [if_neg he])
    generalize keepE D.ca.length L = er at *
    clear he
    go_enter Try.func26, Try.ntmps26
    go_wp2_with fail
    refine HC.out.mono ?_
    rintro e w' ⟨rfl, rfl⟩
    go_wp2_with fail
    refine HK.out.mono ?_
    rintro e w1 ⟨rfl, hm1⟩
    have HS1 := Lib.hid (Step.same H.out (hm1.below w.heap.size))
    clear hm1
    go_wp2_with fail
    go_ret
    exact ⟨rfl, by rw [HF.out]; exact HS1.out⟩
end Go.Proofs.Ytpboknepfjeljaa
