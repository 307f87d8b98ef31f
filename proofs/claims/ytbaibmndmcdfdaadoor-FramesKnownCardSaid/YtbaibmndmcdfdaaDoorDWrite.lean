/- Write. -/
import Derived.Test.YtbaibmndmcdfdaaDoorDPut
namespace Go.Proofs.YtbaibmndmcdfdaaDoor.D
open Go.RowKit Go.MapKept
noncomputable def boxS (x : Value) : Sem Value := Instr.box 27 x
theorem boxS_eq (x : Value) : Instr.box 27 x = boxS x := rfl
theorem run_boxS (x : Sec) (w : World) : (boxS (.agg x.A)).run Tryd.prog w = .ok (.pointer (some ⟨w.heap.size, 0, none⟩)) (w.alloc (.cells x.A 27 (0, 0))) := by
  simp [boxS, Instr.box, newVar, newRow, Value.cells]
attribute [local go_sem ↓] loadS_eq storeS_eq loadW_eq storeW_eq allocW_eq boxW_eq clearX_eq updX_eq appW_eq bslW_eq bldW_eq boxS_eq
set_option maxRecDepth 100000

theorem Step.mk' {w w' : World} {b m : Nat} {vs vc' : Value} {X : Nat → Prop} {D E : Dv} (h : DevAt w b X D) (hb : X b) (hm : X m) (hs : ∀ g, vs.ownBlock = some g → X g) (hp : DevP w' b m vs vc' E) (hk : Kept X w w') (hc : ∀ g, vc'.ownBlock = some g → X g ∨ w.heap.size ≤ g) : Step b X E w w' := by
  refine ⟨⟨fun k => X k ∨ vc'.ownBlock = some k, ⟨⟨m, vs, vc', hp, .inl hb, .inl hm, fun g hg => .inl (hs g hg), fun g hg => .inr hg⟩, fun k hk' => ?_⟩, fun k hk' => ?_⟩, hk⟩
  · rcases hk' with hk' | hk'
    · exact Nat.lt_of_lt_of_le (h.lt k hk') hk.size
    · exact (hp.cas.lt k hk').2
  · rcases hk' with hk' | hk'
    · exact .inl hk'
    · exact hc k hk'
/-- The counts of a device whose write is taken. -/
theorem DevP.took {w w2 : World} {b m : Nat} {vs vc2 : Value} {X : Nat → Prop} {D E : Dv} {n : Int} {s : Sec} (h : DevAt w b X D) (hb : X b) (hm : X m) (hs : ∀ g, vs.ownBlock = some g → X g) (hE : E.tk = D.tk ∧ E.pw = D.pw) (ht : D.tk < 1000000000000)
    (hp : DevP w2 b m vs vc2 { E with ca := E.ca ++ [⟨n, s⟩] }) (hk : Kept X w w2) (hc : ∀ g, vc2.ownBlock = some g → X g ∨ w.heap.size ≤ g) :
    (0 < D.pw → Step b X (tookD E n s) w ((w2.setCell ⟨b, 4, none⟩ (.int .i64 (D.tk + 1))).setCell ⟨b, 5, none⟩ (.int .i64 (D.pw - 1)))) ∧ (¬ 0 < D.pw → Step b X (tookD E n s) w (w2.setCell ⟨b, 4, none⟩ (.int .i64 (D.tk + 1)))) := by
  have t0 := h.ok.t0
  have p0 := h.ok.p0
  have p1 := h.ok.p1
  have o := hp.ok
  have hp3 := hp.set4 (D.tk + 1) ⟨o.s0, o.s1, o.ca, o.ats, by show 0 ≤ D.tk + 1; omega, by show D.tk + 1 ≤ _; omega, o.p0, o.p1⟩
  have hk3 := Kept.setCell (X := X) hk ⟨b, 4, none⟩ hb (.int .i64 (D.tk + 1))
  constructor
  · intro hpw
    have o3 := hp3.ok
    have hp4 := hp3.set5 (D.pw - 1) ⟨o3.s0, o3.s1, o3.ca, o3.ats, o3.t0, o3.t1, by show -1 ≤ D.pw - 1; omega, by show D.pw - 1 ≤ _; omega⟩
    have hk4 := Kept.setCell (X := X) hk3 ⟨b, 5, none⟩ hb (.int .i64 (D.pw - 1))
    refine Step.mk' h hb hm hs ?_ hk4 hc
    have e : tookD E n s = { E with ca := E.ca ++ [⟨n, s⟩], tk := D.tk + 1, pw := D.pw - 1 } := by unfold tookD; rw [hE.1, hE.2, if_pos hpw]
    rw [e]; exact hp4
  · intro hpw
    refine Step.mk' h hb hm hs ?_ hk3 hc
    have e : tookD E n s = { E with ca := E.ca ++ [⟨n, s⟩], tk := D.tk + 1 } := by unfold tookD; rw [hE.1, hE.2, if_neg hpw]
    rw [e]; exact hp3

theorem write_none {w : World} {v : Value} (n : Int) (s : Sec) (hc : ∀ w1, Below w.heap.size w w1 → Calls Tryd.prog 37 #[v] w1 fun e w' => e = .returned (.bool false) ∧ w1 = w') :
    Calls Tryd.prog 42 #[v, .int .i64 n, .agg s.A] w fun e w' => e = .returned (.int .i64 1) ∧ Below w.heap.size w w' := by
  have hbx := run_boxS s w
  have HB := Lib.hid ((Below.refl w.heap.size w).alloc (Nat.le_refl _) (.cells s.A 27 (0, 0)))
  have HC := Lib.hid (reach_none n (hc _ HB.out))
  clear hc
  go_enter Tryd.func42, Tryd.ntmps42
  go_wp2_with fail
  refine HC.out.mono ?_
  rintro e w' ⟨rfl, rfl⟩
  go_wp2_with fail
  go_ret
  exact ⟨rfl, HB.out⟩

/-- A write that is not taken. -/
theorem write_no {w : World} {b : Nat} {X : Nat → Prop} {D : Dv} (h : DevAt w b X D) (n : Int) (s : Sec) (he : readE D n ≠ 0) :
    Calls Tryd.prog 42 #[.pointer (some ⟨b, 0, none⟩), .int .i64 n, .agg s.A] w fun e w' => e = .returned (.int .i64 (readE D n)) ∧ Step b X D w w' := by
  have hbx := run_boxS s w
  have hB := (Below.refl w.heap.size w).alloc (Nat.le_refl _) (.cells s.A 27 (0, 0))
  have HC := Lib.hid (reach_any (h.below hB (Nat.le_refl _)) n)
  have HS := Lib.hid (Step.same h hB)
  have he2 : (readE D n == 0) = false := by simpa using he
  have he3 : (readE D n != 0) = true := by simpa using he
  generalize readE D n = er at *
  clear h hB he
  go_enter Tryd.func42, Tryd.ntmps42
  go_wp2_with fail
  refine HC.out.mono ?_
  rintro e w' ⟨rfl, rfl⟩
  go_wp2_with fail
  go_ret
  exact ⟨rfl, HS.out⟩
/-- A write without power. -/
theorem write_power {w : World} {b : Nat} {X : Nat → Prop} {D : Dv} (h : DevAt w b X D) (n : Int) (s : Sec) (he : readE D n = 0) (hp : emptyB D = true) :
    Calls Tryd.prog 42 #[.pointer (some ⟨b, 0, none⟩), .int .i64 n, .agg s.A] w fun e w' => e = .returned (.int .i64 13) ∧ Step b X { D with off := true } w w' := by
  obtain ⟨w1, hw1⟩ : ∃ w1, w.alloc (.cells s.A 27 (0, 0)) = w1 := ⟨_, rfl⟩
  have hB : Below w.heap.size w w1 := by rw [← hw1]; exact (Below.refl w.heap.size w).alloc (Nat.le_refl _) (.cells s.A 27 (0, 0))
  have hbx : (boxS (.agg s.A)).run Tryd.prog w = .ok (.pointer (some ⟨w.heap.size, 0, none⟩)) w1 := by rw [← hw1]; exact run_boxS s w
  have h1 := h.below hB (Nat.le_refl _)
  have HC := Lib.hid (reach_any h1 n)
  rw [he] at HC
  obtain ⟨m, vs, vc, hp1, hX1, hX2, hX3, hX4⟩ := h1.parts
  have hcs := hp1.cells
  obtain ⟨-, -, -, -, h4, h5, h6⟩ := hcs
  have hf := hp1.frozen 6
  have HS : Hid (Step b X { D with off := true } w (w1.setCell ⟨b, 6, none⟩ (.bool true))) := Lib.hid (Step.mk' h hX1 hX2 hX3 (hp1.set6 true) (Kept.setCell (X := X) ((Kept.refl X w).below hB (Nat.le_refl _)) ⟨b, 6, none⟩ hX1 _) (fun g hg => .inl (hX4 g hg)))
  have hq : D.pw = 0 ∨ (D.pw ≠ 0 ∧ D.tk = 1000000000000) := by
    have : D.pw = 0 ∨ D.tk = 1000000000000 := by simpa [emptyB] using hp
    by_cases e : D.pw = 0
    · exact .inl e
    · exact .inr ⟨e, this.resolve_left e⟩
  clear h h1 hp1 hp he hB hw1 hX1 hX2 hX3 hX4
  rcases hq with hq | ⟨hq, hq2⟩
  · rw [hq] at h5
    clear hq
    go_enter Tryd.func42, Tryd.ntmps42
    go_wp2_with fail
    refine HC.out.mono ?_
    rintro e w' ⟨rfl, rfl⟩
    go_wp2_with fail
    go_ret
    exact ⟨rfl, HS.out⟩
  · have d1 : (D.pw == 0) = false := by simpa using hq
    rw [hq2] at h4
    clear hq hq2
    go_enter Tryd.func42, Tryd.ntmps42
    go_wp2_with fail
    refine HC.out.mono ?_
    rintro e w' ⟨rfl, rfl⟩
    go_wp2_with fail
    go_ret
    exact ⟨rfl, HS.out⟩
/-- A write that is taken. -/
theorem write_yes0 {w : World} {b : Nat} {X : Nat → Prop} {D : Dv} (h : DevAt w b X D) (n : Int) (s : Sec) (he : readE D n = 0) (hp : emptyB D = false) (hl : D.ca.length < 400) :
    Calls Tryd.prog 42 #[.pointer (some ⟨b, 0, none⟩), .int .i64 n, .agg s.A] w fun e w' => e = .returned (.int .i64 0) ∧ Step b X (tookD D n s) w w' := by
  obtain ⟨w1, hw1⟩ : ∃ w1, w.alloc (.cells s.A 27 (0, 0)) = w1 := ⟨_, rfl⟩
  have hB : Below w.heap.size w w1 := by rw [← hw1]; exact (Below.refl w.heap.size w).alloc (Nat.le_refl _) (.cells s.A 27 (0, 0))
  have hbx : (boxS (.agg s.A)).run Tryd.prog w = .ok (.pointer (some ⟨w.heap.size, 0, none⟩)) w1 := by rw [← hw1]; exact run_boxS s w
  have hld : (loadS (.pointer (some ⟨w.heap.size, 0, none⟩))).run Tryd.prog w1 = .ok (.agg s.A) w1 := by rw [← hw1]; exact run_loadS_block (heap_alloc_new _ _)
  have h1 := h.below hB (Nat.le_refl _)
  have HC := Lib.hid (reach_any h1 n)
  rw [he] at HC
  obtain ⟨m, vs, vc, hp1, hX1, hX2, hX3, hX4⟩ := h1.parts
  have hcs := hp1.cells
  obtain ⟨-, -, h2, -, h4, h5, h6⟩ := hcs
  obtain ⟨a, cc, rfl, -, -⟩ := hp1.cav
  have hq : ¬ (D.pw = 0 ∨ D.tk = 1000000000000) := by simpa [emptyB] using hp
  have hin : inS D.st.length n = true := by
    unfold readE at he
    cases ho : D.off with
    | true => rw [ho] at he; cases he
    | false => rw [ho] at he
               cases hr : inS D.st.length n with
               | true => rfl
               | false => rw [hr] at he; cases he
  have t0 := h.ok.t0; have t1 := h.ok.t1; have p0 := h.ok.p0; have p1 := h.ok.p1
  have ht : D.tk < 1000000000000 := by omega
  have d1 : (D.pw == 0) = false := by simp; omega
  have d2 : (D.tk == 1000000000000) = false := by simp; omega
  have d3 : ((D.ca.length : Int) == 400) = false := by simp; omega
  have hbld := run_bldW n s
  have HP := Lib.hid (put_any hp1 ⟨n, s⟩ hin hl)
  have HT := Lib.hid (fun (w2 : World) (vc2 : Value) (q1 : DevP w2 b m vs vc2 { D with ca := D.ca ++ [⟨n, s⟩] }) (q2 : Kept X w w2) (q3 : ∀ g, vc2.ownBlock = some g → X g ∨ w.heap.size ≤ g) => DevP.took h hX1 hX2 hX3 ⟨rfl, rfl⟩ ht q1 q2 q3)
  have HK0 := Lib.hid ((Kept.refl X w).below hB (Nat.le_refl _))
  have HX : Hid (∀ k, (k = b ∨ k = m ∨ (Value.slice a D.ca.length cc).ownBlock = some k) → X k) := Lib.hid (fun k e => by
    rcases e with rfl | rfl | e
    · exact hX1
    · exact hX2
    · exact hX4 k e)
  have HX4 := Lib.hid hX4
  have HBs := Lib.hid hB.size
  clear h h1 hp1 hp he hB hw1 hX1 hX2 hX3 hX4 hq hin hl
  by_cases hpw : 0 < D.pw
  · have d4 : decide (0 < D.pw) = true := by simpa using hpw
    go_enter Tryd.func42, Tryd.ntmps42
    go_wp2_with fail
    refine HC.out.mono ?_
    rintro e w' ⟨rfl, rfl⟩
    go_wp2_with fail
    refine HP.out.mono ?_
    rintro e w2 ⟨rfl, vc2, q1, q2, q3⟩
    obtain ⟨-, -, -, -, g4, g5, -⟩ := q1.cells
    have f4 := q1.frozen 4
    have f5 := q1.frozen 5
    have HF := Lib.hid ((HT.out w2 vc2 q1 (HK0.out.trans (q2.mono HX.out)) (fun g hg => (q3 g hg).elim (fun e => .inl (HX4.out g e)) (fun e => .inr (Nat.le_trans HBs.out e)))).1 hpw)
    clear q1 q2 q3
    go_wp2
    go_ret
    exact ⟨rfl, HF.out⟩
  · have d4 : decide (0 < D.pw) = false := by simpa using hpw
    go_enter Tryd.func42, Tryd.ntmps42
    go_wp2_with fail
    refine HC.out.mono ?_
    rintro e w' ⟨rfl, rfl⟩
    go_wp2_with fail
    refine HP.out.mono ?_
    rintro e w2 ⟨rfl, vc2, q1, q2, q3⟩
    obtain ⟨-, -, -, -, g4, g5, -⟩ := q1.cells
    have f4 := q1.frozen 4
    have HF := Lib.hid ((HT.out w2 vc2 q1 (HK0.out.trans (q2.mono HX.out)) (fun g hg => (q3 g hg).elim (fun e => .inl (HX4.out g e)) (fun e => .inr (Nat.le_trans HBs.out e)))).2 hpw)
    clear q1 q2 q3
    go_wp2
    go_ret
    exact ⟨rfl, HF.out⟩

/-- A write that is taken by a device whose cache is full. -/
theorem write_yes1 {w : World} {b : Nat} {X : Nat → Prop} {D : Dv} (h : DevAt w b X D) (n : Int) (s : Sec) (he : readE D n = 0) (hp : emptyB D = false) (hl : D.ca.length = 400) :
    Calls Tryd.prog 42 #[.pointer (some ⟨b, 0, none⟩), .int .i64 n, .agg s.A] w fun e w' => e = .returned (.int .i64 0) ∧ Step b X (tookD (settleD D) n s) w w' := by
  obtain ⟨w1, hw1⟩ : ∃ w1, w.alloc (.cells s.A 27 (0, 0)) = w1 := ⟨_, rfl⟩
  have hB : Below w.heap.size w w1 := by rw [← hw1]; exact (Below.refl w.heap.size w).alloc (Nat.le_refl _) (.cells s.A 27 (0, 0))
  have hbx : (boxS (.agg s.A)).run Tryd.prog w = .ok (.pointer (some ⟨w.heap.size, 0, none⟩)) w1 := by rw [← hw1]; exact run_boxS s w
  have hblk : w1.heap[w.heap.size]? = some (.cells s.A 27 (0, 0)) := by rw [← hw1]; exact heap_alloc_new _ _
  have h1 := h.below hB (Nat.le_refl _)
  have HC := Lib.hid (reach_any h1 n)
  rw [he] at HC
  obtain ⟨m, vs, vc, hp1, hX1, hX2, hX3, hX4⟩ := h1.parts
  have hcs := hp1.cells
  obtain ⟨-, -, h2, -, h4, h5, h6⟩ := hcs
  obtain ⟨a, cc, rfl, -, -⟩ := hp1.cav
  have hq : ¬ (D.pw = 0 ∨ D.tk = 1000000000000) := by simpa [emptyB] using hp
  have hin : inS D.st.length n = true := by
    unfold readE at he
    cases ho : D.off with
    | true => rw [ho] at he; cases he
    | false => rw [ho] at he
               cases hr : inS D.st.length n with
               | true => rfl
               | false => rw [hr] at he; cases he
  have t0 := h.ok.t0; have t1 := h.ok.t1; have p0 := h.ok.p0; have p1 := h.ok.p1
  have ht : D.tk < 1000000000000 := by omega
  have d1 : (D.pw == 0) = false := by simp; omega
  have d2 : (D.tk == 1000000000000) = false := by simp; omega
  rw [hl] at h2
  have hbld := run_bldW n s
  have HS1 := Lib.hid (settle_any hp1)
  have HP := Lib.hid (fun (w2 : World) (q : DevP w2 b m vs (.slice none 0 0) (settleD D)) => put_any q ⟨n, s⟩ (by show inS (settleV D.st D.ca).length n = true; rw [settleV_len]; exact hin) (by show (0 : Nat) < 400; omega))
  have HT := Lib.hid (fun (w2 : World) (vc2 : Value) (q1 : DevP w2 b m vs vc2 { settleD D with ca := (settleD D).ca ++ [⟨n, s⟩] }) (q2 : Kept X w w2) (q3 : ∀ g, vc2.ownBlock = some g → X g ∨ w.heap.size ≤ g) => DevP.took h hX1 hX2 hX3 (E := settleD D) ⟨rfl, rfl⟩ ht q1 q2 q3)
  have HK0 := Lib.hid ((Kept.refl X w).below hB (Nat.le_refl _))
  have HX : Hid (∀ k, (k = b ∨ k = m ∨ vs.ownBlock = some k) → X k) := Lib.hid (fun k e => by
    rcases e with rfl | rfl | e
    · exact hX1
    · exact hX2
    · exact hX3 k e)
  have HBs := Lib.hid hB.size
  have HBL := Lib.hid (fun (w2 : World) (hk2 : Kept (fun k => k = b ∨ k = m ∨ vs.ownBlock = some k) w1 w2) => (show w2.heap[w.heap.size]? = some (.cells s.A 27 (0, 0)) from (hk2.block _ (by have := (Array.getElem?_eq_some_iff.1 hblk).1; exact this) (fun e => by have := h.lt _ (HX.out _ e); omega)).trans hblk))
  clear h h1 hp1 hp he hB hw1 hX1 hX2 hX3 hX4 hq hin hl hblk
  by_cases hpw : 0 < D.pw
  · have d4 : decide (0 < D.pw) = true := by simpa using hpw
    go_enter Tryd.func42, Tryd.ntmps42
    go_wp2_with fail
    refine HC.out.mono ?_
    rintro e w' ⟨rfl, rfl⟩
    go_wp2_with fail
    refine HS1.out.mono ?_
    rintro e w2 ⟨rfl, r1, r2⟩
    have HPP := Lib.hid (HP.out w2 r1)
    have hld := run_loadS_block (HBL.out w2 r2)
    have HK1 := Lib.hid (HK0.out.trans (r2.mono HX.out))
    clear r1 r2
    go_wp2_with fail
    refine HPP.out.mono ?_
    rintro e w3 ⟨rfl, vc2, q1, q2, q3⟩
    obtain ⟨-, -, -, -, g4, g5, -⟩ := q1.cells
    have f4 := q1.frozen 4
    have f5 := q1.frozen 5
    have HF := Lib.hid ((HT.out w3 vc2 q1 (HK1.out.trans (q2.mono fun k e => HX.out k (by rcases e with e | e | e <;> first | exact .inl e | exact .inr (.inl e) | cases e))) (fun g hg => (q3 g hg).elim (fun e => by cases e) (fun e => .inr (Nat.le_trans HK1.out.size e)))).1 hpw)
    clear q1 q2 q3
    change w3.cell? ⟨b, 4, none⟩ = some (.int .i64 D.tk) at g4
    change w3.cell? ⟨b, 5, none⟩ = some (.int .i64 D.pw) at g5
    go_wp2
    go_ret
    exact ⟨rfl, HF.out⟩
  · have d4 : decide (0 < D.pw) = false := by simpa using hpw
    go_enter Tryd.func42, Tryd.ntmps42
    go_wp2_with fail
    refine HC.out.mono ?_
    rintro e w' ⟨rfl, rfl⟩
    go_wp2_with fail
    refine HS1.out.mono ?_
    rintro e w2 ⟨rfl, r1, r2⟩
    have HPP := Lib.hid (HP.out w2 r1)
    have hld := run_loadS_block (HBL.out w2 r2)
    have HK1 := Lib.hid (HK0.out.trans (r2.mono HX.out))
    clear r1 r2
    go_wp2_with fail
    refine HPP.out.mono ?_
    rintro e w3 ⟨rfl, vc2, q1, q2, q3⟩
    obtain ⟨-, -, -, -, g4, g5, -⟩ := q1.cells
    have f4 := q1.frozen 4
    have HF := Lib.hid ((HT.out w3 vc2 q1 (HK1.out.trans (q2.mono fun k e => HX.out k (by rcases e with e | e | e <;> first | exact .inl e | exact .inr (.inl e) | cases e))) (fun g hg => (q3 g hg).elim (fun e => by cases e) (fun e => .inr (Nat.le_trans HK1.out.size e)))).2 hpw)
    clear q1 q2 q3
    change w3.cell? ⟨b, 4, none⟩ = some (.int .i64 D.tk) at g4
    change w3.cell? ⟨b, 5, none⟩ = some (.int .i64 D.pw) at g5
    go_wp2
    go_ret
    exact ⟨rfl, HF.out⟩

theorem write_any {w : World} {b : Nat} {X : Nat → Prop} {D : Dv} (h : DevAt w b X D) (n : Int) (s : Sec) :
    Calls Tryd.prog 42 #[.pointer (some ⟨b, 0, none⟩), .int .i64 n, .agg s.A] w fun e w' => e = .returned (.int .i64 (writeE D n)) ∧ Step b X (writeD D n s) w w' := by
  by_cases he : readE D n = 0
  · have ho : D.off = false := by
      unfold readE at he
      cases ho : D.off with
      | true => rw [ho] at he; cases he
      | false => rfl
    have hr : inS D.st.length n = true := by
      unfold readE at he
      rw [ho] at he
      cases hr : inS D.st.length n with
      | true => rfl
      | false => rw [hr] at he; cases he
    cases hp : emptyB D with
    | true =>
      have e1 : writeE D n = 13 := by unfold writeE; rw [ho, hr, hp]; rfl
      have e2 : writeD D n s = { D with off := true } := by unfold writeD; rw [ho, hr, hp]; rfl
      rw [e1, e2]
      exact write_power h n s he hp
    | false =>
      have e1 : writeE D n = 0 := by unfold writeE; rw [ho, hr, hp]; rfl
      have e2 : writeD D n s = tookD (fullD D) n s := by unfold writeD; rw [ho, hr, hp]; rfl
      rw [e1, e2]
      by_cases hl : D.ca.length < 400
      · rw [show fullD D = D from by unfold fullD; rw [if_pos hl]]
        exact write_yes0 h n s he hp hl
      · rw [show fullD D = settleD D from by unfold fullD; rw [if_neg hl]]
        exact write_yes1 h n s he hp (by have := h.ok.ca; omega)
  · have e1 : writeE D n = readE D n ∧ writeD D n s = D := by
      unfold readE at he ⊢
      unfold writeE writeD
      cases ho : D.off with
      | true => exact ⟨rfl, rfl⟩
      | false =>
        rw [ho] at he
        cases hr : inS D.st.length n with
        | true => rw [hr] at he; exact absurd rfl he
        | false => exact ⟨rfl, rfl⟩
    rw [e1.1, e1.2]
    exact write_no h n s he
end Go.Proofs.YtbaibmndmcdfdaaDoor.D
