/- sector, Read. -/
import Derived.Test.YtbaibmndmcdfdaaDoorDLook
import Derived.Test.YtbaibmndmcdfdaaDoorDFill
namespace Go.Proofs.YtbaibmndmcdfdaaDoor.D
open Go.RowKit Go.MapKept
attribute [local go_sem ↓] loadS_eq storeS_eq allocS_eq lookM_eq
set_option maxRecDepth 100000

theorem DevP.below {n : Nat} {w w' : World} {b m : Nat} {vs vc : Value} {D : Dv} (h : DevP w b m vs vc D) (hb : Below n w w') (hn : w.heap.size ≤ n) : DevP w' b m vs vc D := by
  have hl : ∀ {k}, k < w.heap.size → k < n := fun h => by omega
  exact h.kept (Below.kept hb (fun k => n ≤ k) (fun k _ h => by omega)) (by have := h.lt; omega) (by have := h.map.lt; omega) (fun g hg => by have := (h.sts.lt g hg).2; omega) (fun g hg => by have := (h.cas.lt g hg).2; omega)

set_option maxHeartbeats 1000000 in
theorem sector_any {w : World} {b : Nat} {X : Nat → Prop} {D : Dv} (h : DevAt w b X D) (n : Nat) (hn : n < D.st.length) :
    Calls Tryd.prog 51 #[.pointer (some ⟨b, 0, none⟩), .int .i64 (n : Int)] w fun e w' => e = .returned (.agg (readsV D.st D.ca n).A) ∧ Below w.heap.size w w' := by
  have ha := run_allocS
  obtain ⟨m, vs, vc, hp0, _⟩ := h.parts
  have hs1 := hp0.ok.s1
  have hca := hp0.ok.ca
  obtain ⟨w1, hw1⟩ : ∃ w1, w.alloc (.cells Sec.zero.A 27 (0, 0)) = w1 := ⟨_, rfl⟩
  have HA := Lib.hid ha
  have hb0 : Below w.heap.size w w1 := by rw [← hw1]; exact (Below.refl _ _).alloc (Nat.le_refl _) _
  have hp := hp0.below hb0 (Nat.le_refl _)
  have h1 := hp.cells.2.1
  have h2 := hp.cells.2.2.1
  have h3 := hp.cells.2.2.2.1
  have hlk := run_lookM (c := (n : Int)) hp.map
  have hcb : ∀ s : Sec, (storeS (.pointer (some ⟨w.heap.size, 0, none⟩)) (.agg s.A)).run Tryd.prog w1 = .ok () (w1.setRow w.heap.size s.A) ∧ (w1.setRow w.heap.size s.A).heap[w.heap.size]? = some (.cells s.A 27 (0, 0)) ∧ Below w.heap.size w (w1.setRow w.heap.size s.A) :=
    fun s => cell_block (w := w) (n := (w.alloc (.cells Sec.zero.A 27 (0, 0))).heap.size) (by rw [← hw1]; exact Below.refl _ _) s rfl
  have haw : allocS.run Tryd.prog w = .ok (.pointer (some ⟨w.heap.size, 0, none⟩)) w1 := by rw [← hw1]; exact ha w
  rcases readsV_new D.st n _ D.ca rfl with ⟨e1, e2⟩ | ⟨i, x, e1, e2, e3⟩
  · obtain ⟨g, c, _, rfl, _⟩ := hp.stv
    have hld := run_loadS_elem (secs_of_row hp.sts) n hn
    rw [Nat.zero_add] at hld
    rw [e1] at hlk
    obtain ⟨q1, q2, q3⟩ := hcb D.st[n]
    have HE : Hid (readsV D.st D.ca n = D.st[n]) := Lib.hid (by rw [e2, Int.toNat_natCast, List.getD_eq_getElem?_getD, List.getElem?_eq_getElem hn]; rfl)
    have HQ2 := Lib.hid q2
    have HQ3 := Lib.hid q3
    have HN := Lib.hid hn
    have hnI : (n : Int) < (D.st.length : Int) := by omega
    clear h hp hp0 hb0 hcb e1 e2 q2 q3 hw1 ha
    simp only [Option.getD_none, Option.isSome_none] at hlk
    go_enter Tryd.func51, Tryd.ntmps51
    go_wp2
    exact bodyPost_ret (bodyRet_sec rfl rfl HQ2.out) rfl ⟨by rw [HE.out], HQ3.out⟩
  · have hi : i < D.ca.length := by
      rcases Nat.lt_or_ge i D.ca.length with hh | hh
      · exact hh
      · rw [List.getElem?_eq_none hh] at e2; cases e2
    rw [List.getElem?_eq_getElem hi] at e2
    injection e2 with e2
    obtain ⟨a, c, rfl, hnone, hsome⟩ := hp.cav
    obtain ⟨g, rfl⟩ : ∃ g, a = some ⟨g, 0, none⟩ := by
      cases a with
      | none => have := hnone rfl; rw [this] at hi; simp at hi
      | some p => obtain ⟨g, rfl⟩ := hsome p rfl; exact ⟨g, rfl⟩
    have hld := run_loadD_elem (wrs_of_row hp.cas) i hi
    rw [Nat.zero_add, e2] at hld
    rw [e1] at hlk
    obtain ⟨q1, q2, q3⟩ := hcb x.data
    have HE : Hid (readsV D.st D.ca n = x.data) := Lib.hid e3
    have HQ2 := Lib.hid q2
    have HQ3 := Lib.hid q3
    have HN := Lib.hid hn
    have hiI : (i : Int) < (D.ca.length : Int) := by omega
    clear h hp hp0 hb0 hcb e1 e2 e3 q2 q3 hw1 ha hnone hsome
    simp only [Option.getD_some, Option.isSome_some] at hlk
    go_enter Tryd.func51, Tryd.ntmps51
    go_wp2
    exact bodyPost_ret (bodyRet_sec rfl rfl HQ2.out) rfl ⟨by rw [HE.out], HQ3.out⟩

theorem bodyRet_sec2 {fn : Func} {p q : Tmp} (h : fn.results = #[.cell p 27, .tmp q]) {tmps : Array Value} {w : World} {g : Nat} {s : Sec} {v : Value} (hp : tmps.getD p undef = .pointer (some ⟨g, 0, none⟩)) (hq : tmps.getD q undef = v) (hg : w.heap[g]? = some (.cells s.A 27 (0, 0))) :
    (results fn tmps).run Tryd.prog w = .ok (.tuple #[.agg s.A, v]) w := by
  have hl : (loadVar 27 ⟨g, 0, none⟩).run Tryd.prog w = .ok (.agg s.A) w := run_loadVar_row (P := Tryd.prog) w g 27 27 s.A (0, 0) _ hg Tryd.underlying27 rfl (by rw [szSec, s.A_size])
  subst hq
  have hp' : tmps[p]?.getD undef = .pointer (some ⟨g, 0, none⟩) := by simpa using hp
  simp [results, h, hp', asAddr, hl]
theorem run_buildS (w : World) : (Instr.build 27 #[]).run Tryd.prog w = .ok (.agg Sec.zero.A) w := by kernel_rfl
noncomputable def buildS (x : Array (Nat × Value)) : Sem Value := Instr.build 27 x
theorem buildS_eq (x : Array (Nat × Value)) : Instr.build 27 x = buildS x := rfl
attribute [local go_sem ↓] buildS_eq
theorem read_none {w : World} {v : Value} (n : Int) (hc : ∀ w1, Below w.heap.size w w1 → Calls Tryd.prog 37 #[v] w1 fun e w' => e = .returned (.bool false) ∧ w1 = w') :
    Calls Tryd.prog 39 #[v, .int .i64 n] w fun e w' => e = .returned (.tuple #[.agg Sec.zero.A, .int .i64 1]) ∧ Below w.heap.size w w' := by
  obtain ⟨w1, hw1⟩ : ∃ w1, w.alloc (.cells Sec.zero.A 27 (0, 0)) = w1 := ⟨_, rfl⟩
  have hb0 : Below w.heap.size w w1 := by rw [← hw1]; exact (Below.refl _ _).alloc (Nat.le_refl _) _
  have HC := Lib.hid (reach_none n (hc w1 hb0))
  have haw : allocS.run Tryd.prog w = .ok (.pointer (some ⟨w.heap.size, 0, none⟩)) w1 := by rw [← hw1]; exact run_allocS w
  obtain ⟨q1, q2, q3⟩ := cell_block (w := w) (w1 := w1) (n := (w.alloc (.cells Sec.zero.A 27 (0, 0))).heap.size) (by rw [← hw1]; exact Below.refl _ _) Sec.zero rfl
  have hbs := fun w => (show (buildS #[]).run Tryd.prog w = _ from run_buildS w)
  have HQ2 := Lib.hid q2
  have HQ3 := Lib.hid q3
  clear hc hw1 hb0 q2 q3
  go_enter Tryd.func39, Tryd.ntmps39
  go_wp2_with fail
  refine HC.out.mono ?_
  rintro e w' ⟨rfl, rfl⟩
  go_wp2_with fail
  exact bodyPost_ret (v := .tuple #[.agg Sec.zero.A, .int .i64 1]) (bodyRet_sec2 rfl rfl rfl HQ2.out) rfl ⟨rfl, HQ3.out⟩
set_option maxHeartbeats 1000000 in
theorem read_any {w : World} {b : Nat} {X : Nat → Prop} {D : Dv} (h : DevAt w b X D) (n : Int) :
    Calls Tryd.prog 39 #[.pointer (some ⟨b, 0, none⟩), .int .i64 n] w fun e w' => e = .returned (.tuple #[.agg (readD D n).A, .int .i64 (readE D n)]) ∧ Below w.heap.size w w' := by
  obtain ⟨w1, hw1⟩ : ∃ w1, w.alloc (.cells Sec.zero.A 27 (0, 0)) = w1 := ⟨_, rfl⟩
  have hb0 : Below w.heap.size w w1 := by rw [← hw1]; exact (Below.refl _ _).alloc (Nat.le_refl _) _
  have h1 := h.below hb0 (Nat.le_refl _)
  have HC := Lib.hid (reach_any h1 n)
  have haw : allocS.run Tryd.prog w = .ok (.pointer (some ⟨w.heap.size, 0, none⟩)) w1 := by rw [← hw1]; exact run_allocS w
  have hbs := fun w => (show (buildS #[]).run Tryd.prog w = _ from run_buildS w)
  by_cases he : readE D n = 0
  · obtain ⟨k, rfl, hk, hv⟩ : ∃ k : Nat, n = k ∧ k < D.st.length ∧ readD D n = readsV D.st D.ca n := by
      unfold readE at he; unfold readD
      cases ho : D.off with
      | true => rw [ho] at he; cases he
      | false =>
        rw [ho] at he
        cases hr : inS D.st.length n with
        | false => rw [hr] at he; cases he
        | true => obtain ⟨k, rfl, hk⟩ := inS_nat hr; exact ⟨k, rfl, hk, rfl⟩
    have HS := Lib.hid (sector_any h1 k hk)
    rw [he] at HC ⊢
    rw [hv]
    have HW := Lib.hid hw1
    clear h h1 he hv hb0 hw1
    go_enter Tryd.func39, Tryd.ntmps39
    go_wp2_with fail
    refine HC.out.mono ?_
    rintro e w' ⟨rfl, rfl⟩
    go_wp2_with fail
    refine HS.out.mono ?_
    rintro e w2 ⟨rfl, hb2⟩
    obtain ⟨q1, q2, q3⟩ := cell_block (w := w) (w1 := w2) (n := (w.alloc (.cells Sec.zero.A 27 (0, 0))).heap.size) (by rw [HW.out]; exact hb2) (readsV D.st D.ca k) rfl
    have HQ2 := Lib.hid q2
    have HQ3 := Lib.hid q3
    clear hb2 q2 q3
    go_wp2_with fail
    exact bodyPost_ret (v := .tuple #[.agg (readsV D.st D.ca k).A, .int .i64 0]) (bodyRet_sec2 rfl rfl rfl HQ2.out) rfl ⟨rfl, HQ3.out⟩
  · obtain ⟨q1, q2, q3⟩ := cell_block (w := w) (w1 := w1) (n := (w.alloc (.cells Sec.zero.A 27 (0, 0))).heap.size) (by rw [← hw1]; exact Below.refl _ _) Sec.zero rfl
    have HQ2 := Lib.hid q2
    have HQ3 := Lib.hid q3
    have HV : Hid (readD D n = Sec.zero) := Lib.hid (by
      unfold readE at he; unfold readD
      cases ho : D.off with
      | true => rfl
      | false =>
        rw [ho] at he
        cases hr : inS D.st.length n with
        | false => rfl
        | true => rw [hr] at he; exact absurd rfl he)
    have he2 : (readE D n == 0) = false := by simpa using he
    have he3 : (readE D n != 0) = true := by simpa using he
    generalize readE D n = er at *
    clear h h1 hb0 hw1 q2 q3 he
    go_enter Tryd.func39, Tryd.ntmps39
    go_wp2_with fail
    refine HC.out.mono ?_
    rintro e w' ⟨rfl, rfl⟩
    go_wp2_with fail
    exact bodyPost_ret (v := .tuple #[.agg Sec.zero.A, .int .i64 er]) (bodyRet_sec2 rfl rfl rfl HQ2.out) rfl ⟨by rw [HV.out], HQ3.out⟩
end Go.Proofs.YtbaibmndmcdfdaaDoor.D
