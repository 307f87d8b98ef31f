/- put: a write at the end of the cache. -/
import Derived.Test.YtbaibmndmcdfdaaDoorDSettle
import Derived.Deep.RegionHeldLaw
import Derived.Great.BuildSlice
import Derived.StillTailTactics
namespace Go.Proofs.YtbaibmndmcdfdaaDoor.D
open Go.RowKit Go.MapKept
noncomputable def updX (m k v : Value) : Sem Unit := Instr.mapUpdate 87 m k v
theorem updX_eq (m k v : Value) : Instr.mapUpdate 87 m k v = updX m k v := rfl
noncomputable def appW (ty : TypeId) (xs : Array Value) : Sem Value := Builtin.append_ #[49, 49] ty xs
theorem appW_eq (ty : TypeId) (xs : Array Value) : Builtin.append_ #[49, 49] ty xs = appW ty xs := rfl
noncomputable def bslW (n : Nat) (xs : Array (Nat × Value)) : Sem Value := Instr.buildSlice 49 n xs
theorem bslW_eq (n : Nat) (xs : Array (Nat × Value)) : Instr.buildSlice 49 n xs = bslW n xs := rfl
attribute [local go_sem ↓] loadS_eq storeS_eq loadW_eq storeW_eq allocW_eq boxW_eq clearX_eq updX_eq appW_eq bslW_eq
set_option maxRecDepth 100000

theorem fill_fold : ∀ (cs : List Value) (pre post : List Value), (cs.zipIdx pre.length).foldl (fun (acc : Array Value) (p : Value × Nat) => acc.setIfInBounds p.2 p.1) (pre ++ post).toArray = (pre ++ cs ++ post.drop cs.length).toArray ∨ post.length < cs.length
  | [], pre, post => by left; simp
  | c :: cs, pre, [] => by right; simp
  | c :: cs, pre, p :: post => by
    have ih := fill_fold cs (pre ++ [c]) post
    rcases ih with ih | ih
    · left
      simp only [List.zipIdx_cons, List.foldl_cons, List.setIfInBounds_toArray]
      have e : (pre ++ p :: post).set pre.length c = pre ++ [c] ++ post := by simp
      rw [e]
      rw [show pre.length + 1 = (pre ++ [c]).length from by simp, ih]
      simp
    · right; simp; omega
theorem zip_shift (o : Nat) (cs : List Value) : ∀ (i : Nat) (A : Array Value), (cs.zipIdx i).foldl (fun (acc : Array Value) (p : Value × Nat) => acc.setIfInBounds (o + p.2) p.1) A = (cs.zipIdx (o + i)).foldl (fun (acc : Array Value) (p : Value × Nat) => acc.setIfInBounds p.2 p.1) A := by
  induction cs with
  | nil => intro i A; rfl
  | cons c cs ih =>
    intro i A
    simp only [List.zipIdx_cons, List.foldl_cons]
    rw [ih (i + 1)]; rfl
/-- Cells laid over others of the same number. -/
theorem fill_one (pre cs mid post : List Value) (h : mid.length = cs.length) : (cs.zipIdx).foldl (fun (acc : Array Value) (p : Value × Nat) => acc.setIfInBounds (pre.length + p.2) p.1) (pre ++ mid ++ post).toArray = (pre ++ cs ++ post).toArray := by
  rw [zip_shift, Nat.add_zero]
  rcases fill_fold cs pre (mid ++ post) with e | e
  · rw [← List.append_assoc] at e
    rw [e]
    congr 2
    rw [← h]; simp
  · simp at e; omega

theorem fill_wr (pl : Nat → Option (Nat × Nat)) (h0 : pl 0 = some (0, 129)) (Z x : Wr) : Instr.fill pl Z.A [(0, .agg x.A)] = some x.A := by
  have hx : x.A.size = 129 := x.A_size
  have hz : Z.A.size = 129 := Z.A_size
  have hf := fill_one [] x.cs Z.cs [] (by rw [Wr.cs_len, Wr.cs_len])
  simp only [List.nil_append, List.append_nil, List.length_nil, Nat.zero_add] at hf
  have e : ((Value.agg x.A).cells.zipIdx.foldl (fun cs (p : Value × Nat) => cs.setIfInBounds (0 + p.2) p.1) Z.A) = x.A := by
    simp only [Value.cells, Wr.A, ← Array.foldl_toList, Array.toList_zipIdx, Nat.zero_add]
    exact hf
  simp only [Instr.fill, h0]
  rw [if_neg (by simp [Value.cells, hx, hz])]
  exact congrArg some e
theorem fill_two (pl : Nat → Option (Nat × Nat)) (h0 : pl 0 = some (0, 1)) (h1 : pl 1 = some (1, 128)) (Z : Wr) (n : Int) (s : Sec) : Instr.fill pl Z.A [(0, .int .i64 n), (1, .agg s.A)] = some (Wr.mk n s).A := by
  have hs : s.A.size = 128 := s.A_size
  have hz : Z.A.size = 129 := Z.A_size
  have hf := fill_one [.int .i64 n] s.cs Z.data.cs [] (by rw [Sec.cs_len, Sec.cs_len])
  simp only [List.append_nil, List.length_cons, List.length_nil, Nat.zero_add] at hf
  have e : ((Value.agg s.A).cells.zipIdx.foldl (fun cs (p : Value × Nat) => cs.setIfInBounds (1 + p.2) p.1) (Z.A.setIfInBounds 0 (.int .i64 n))) = (Wr.mk n s).A := by
    have e0 : Z.A.setIfInBounds 0 (.int .i64 n) = ([Value.int .i64 n] ++ Z.data.cs).toArray := by simp [Wr.A, Wr.cs]
    rw [e0]
    simp only [Value.cells, Sec.A, ← Array.foldl_toList, Array.toList_zipIdx]
    rw [hf]; rfl
  simp only [Instr.fill, h0, h1]
  rw [if_neg (by simp [Value.cells, hz]), if_neg (by simp [Value.cells, hz, hs])]
  have e2 : (Value.int IntKind.i64 n).cells.zipIdx.foldl (fun cs (p : Value × Nat) => cs.setIfInBounds (0 + p.2) p.1) Z.A = Z.A.setIfInBounds 0 (.int .i64 n) := by simp [Value.cells]
  exact congrArg some (by rw [e2]; exact e)
theorem run_bslW (x : Wr) (w : World) : (bslW 1 #[(0, .agg x.A)]).run Tryd.prog w = .ok (.slice (some ⟨w.heap.size, 0, none⟩) 1 1) (w.alloc (.cells x.A 95 (0, 0))) := by
  obtain ⟨i, hi, hz0, hz1, _⟩ := info_parts Tryd.infoWr
  have hz : (Wr.mk 0 Sec.zero).A.size = 129 := Wr.A_size _
  have hr : ((Array.range (1 * i.size)).map ((Value.agg (Wr.mk 0 Sec.zero).A).cells[· % (Value.agg (Wr.mk 0 Sec.zero).A).cells.size]!)) = (Wr.mk 0 Sec.zero).A := by
    rw [hz1]
    apply Array.ext
    · simp [hz]
    · intro j h1 h2
      simp only [Value.cells]
      rw [Array.getElem_map, Array.getElem_range, Nat.mod_eq_of_lt h2, getElem!_pos (Wr.mk 0 Sec.zero).A j h2]
  exact run_buildSlice w 49 95 1 _ _ i _ Tryd.underlying49 hi hz0 (by rw [hz1]; decide) (by rw [hz1]; decide) (by rw [hr]; exact fill_wr _ (by simp [hz1]) _ x)
noncomputable def bldW (xs : Array (Nat × Value)) : Sem Value := Instr.build 95 xs
theorem bldW_eq (xs : Array (Nat × Value)) : Instr.build 95 xs = bldW xs := rfl
theorem run_bldW (n : Int) (s : Sec) (w : World) : (bldW #[(0, .int .i64 n), (1, .agg s.A)]).run Tryd.prog w = .ok (.agg (Wr.mk n s).A) w := by
  obtain ⟨i, hi, hz0, hz1, _⟩ := info_parts Tryd.infoWr
  refine run_build w _ _ _ ?_
  have hu : Tryd.prog.underlying 95 = some (.struct (Tryd.prog.fieldsOf 95)) := by kernel_rfl
  have hp : (Tryd.prog.fieldsOf 95).toList.mapM (fun f => (Tryd.prog.info? f.type).map fun i => (f.offset, i.size)) = some [(0, 1), (1, 128)] := by kernel_rfl
  simp only [Program.built, hi, hu, hz0, hp]
  exact fill_two _ rfl rfl _ n s
theorem wrC_snoc (L : List Wr) (x : Wr) : wrC (L ++ [x]) = wrC L ++ x.cs := by simp [wrC]
theorem Mem.drew (W : World) : Mem W W.drew := ⟨rfl, rfl, rfl, rfl⟩
/-- The worlds that put goes through. -/
theorem DevP.put {w : World} {b m : Nat} {vs vc : Value} {D : Dv} (h : DevP w b m vs vc D) {x : Wr} (hx : inS D.st.length x.at_ = true) (hl : D.ca.length < 400) :
    ∃ w1 w2 g c w4, (boxW (.agg x.A)).run Tryd.prog w = .ok (.pointer (some ⟨w.heap.size, 0, none⟩)) w1 ∧ w1.cell? ⟨w.heap.size, 0, none⟩ = some (.int .i64 x.at_) ∧ DevP w1 b m vs vc D ∧
      (updX (.map (some m)) (.int .i64 x.at_) (.int .i64 (D.ca.length : Int))).run Tryd.prog w1.drew = .ok () w2 ∧ w2.cell? ⟨b, 2, none⟩ = some vc ∧ (w2.alloc (.cells x.A 95 (0, 0))).cell? ⟨b, 2, none⟩ = some vc ∧ (w2.alloc (.cells x.A 95 (0, 0))).drew.cell? ⟨b, 2, none⟩ = some vc ∧
      (∀ W : World, W.heap = w2.heap → (loadW (.pointer (some ⟨w.heap.size, 0, none⟩))).run Tryd.prog W = .ok (.agg x.A) W) ∧
      (appW 49 #[vc, .slice (some ⟨w2.heap.size, 0, none⟩) 1 1]).run Tryd.prog (w2.alloc (.cells x.A 95 (0, 0))).drew = .ok (.slice (some ⟨g, 0, none⟩) (D.ca.length + 1) c) w4 ∧
      w4.cell? ⟨b, 2, none⟩ = some vc ∧ w4.frozen? ⟨b, 2, none⟩ = false ∧
      DevP (w4.setCell ⟨b, 2, none⟩ (.slice (some ⟨g, 0, none⟩) (D.ca.length + 1) c)) b m vs (.slice (some ⟨g, 0, none⟩) (D.ca.length + 1) c) { D with ca := D.ca ++ [x] } ∧
      Kept (fun k => k = b ∨ k = m ∨ vc.ownBlock = some k) w (w4.setCell ⟨b, 2, none⟩ (.slice (some ⟨g, 0, none⟩) (D.ca.length + 1) c)) ∧ (vc.ownBlock = some g ∨ w.heap.size ≤ g) ∧ g < w4.heap.size := by
  obtain ⟨w1, hw1⟩ : ∃ w1, w.alloc (.cells x.A 95 (0, 0)) = w1 := ⟨_, rfl⟩
  have hb0 : Below w.heap.size w w1 := by rw [← hw1]; exact (Below.refl _ _).alloc (Nat.le_refl _) _
  have hblk : w1.heap[w.heap.size]? = some (.cells x.A 95 (0, 0)) := by rw [← hw1]; exact heap_alloc_new _ _
  have hp1 := h.below hb0 (Nat.le_refl _)
  have hsz1 : w1.heap.size = w.heap.size + 1 := by rw [← hw1]; simp
  have hm1d : MapIs w1.drew m (newestF D.ca) := hp1.map.block rfl
  obtain ⟨w2, hup, hm2, hk2, hs2⟩ := run_update (c := x.at_) (n := D.ca.length) hm1d
  have hblk2 : w2.heap[w.heap.size]? = some (.cells x.A 95 (0, 0)) := (hk2.block _ (by show _ < w1.heap.size; omega) (by have := h.map.lt; omega)).trans hblk
  have hdev2 : w2.heap[b]? = _ := (hk2.block b hp1.lt (fun e => hp1.mb e.symm)).trans hp1.dev
  have hca2 := row_kept (w := w1.drew) hp1.cas hk2 (fun g hg e => hp1.mc (e ▸ hg))
  have hst2 := row_kept (w := w1.drew) hp1.sts hk2 (fun g hg e => hp1.ms (e ▸ hg))
  obtain ⟨w3, hw3⟩ : ∃ w3, (w2.alloc (.cells x.A 95 (0, 0))).drew = w3 := ⟨_, rfl⟩
  have hb3 : Below w2.heap.size w2 w3 := by rw [← hw3]; exact ((Below.refl _ _).alloc (Nat.le_refl _) _).drew
  have hblk3 : w3.heap[w2.heap.size]? = some (.cells x.A 95 (0, 0)) := by rw [← hw3]; exact heap_alloc_new w2 _
  have hk3 := Below.kept hb3 (fun _ => False) (fun k hk _ => hk)
  have hca3 := row_kept hca2 hk3 (fun _ _ h => h)
  have hst3 := row_kept hst2 hk3 (fun _ _ h => h)
  obtain ⟨i, hi, hz0, hz1, hz2⟩ := info_parts Tryd.infoWr
  have h3b : w3.heap.size = w2.heap.size + 1 := by rw [← hw3]; simp [World.drew]
  obtain ⟨v', w4, hr, ho, hg, hnil, hat⟩ := run_append_own_at (P := Tryd.prog) w3 0 49 49 95 i (.agg (Wr.mk 0 Sec.zero).A) 129 136 Tryd.underlying49 hi hz0 hz1 hz2 (by show (Wr.mk 0 Sec.zero).A.size = 129; exact Wr.A_size _) (by decide) vc D.ca.length (wrC D.ca) hca3 ⟨w2.heap.size, 0, none⟩ 1 1 x.cs (by rw [x.cs_len])
    (fun j u hj => by rw [addr_add0, Nat.zero_add, cell_of_row w3 _ j _ _ (0, 0) hblk3]; simpa [Wr.A] using hj) x.one (by unfold maxLen; omega) (by omega) (Nat.zero_le _)
  rcases ho.2 with ⟨_, h0⟩ | ⟨g, c, cur, rfl, _, hg4, hrest⟩
  · omega
  · have hdev3 : w3.heap[b]? = _ := (hb3.block b (by rw [hs2]; exact hp1.lt)).trans hdev2
    have hcab : vc.ownBlock ≠ some b := h.cab
    have hdev4 : w4.heap[b]? = _ := (hg.block b (by rw [h3b, hs2]; have := hp1.lt; show b < w1.heap.size + 1; omega) (fun e => hcab e.symm)).trans hdev3
    have hgb : g ≠ b := by rintro rfl; rw [hdev4] at hg4; simp at hg4
    have hk4 : Kept (fun k => vc.ownBlock = some k) w3 w4 := Kept.grown hg
    have hk5 := Kept.setCell (X := fun k => k = b) (Kept.refl _ w4) ⟨b, 2, none⟩ rfl (.slice (some ⟨g, 0, none⟩) (D.ca.length + 1) c)
    have hm4 := (hm2.kept hk3 (fun h => h)).kept hk4 h.mc
    have hst4 := row_kept hst3 hk4 (fun g' hg' e => h.sc g' hg' e)
    refine ⟨w1, w2, g, c, w4, by rw [← hw1]; exact run_boxW x w, by rw [cell_of_row w1 _ 0 _ _ (0, 0) hblk]; rfl, hp1, hup, by simp [World.cell?, hdev2], by rw [World.cell?_of_block (w := w3) (by rw [← hw3]; rfl)]; simp [World.cell?, hdev3], by rw [hw3]; simp [World.cell?, hdev3], fun W hW => run_loadW_block (by rw [hW]; exact hblk2), by rw [hw3]; exact hr, by simp [World.cell?, hdev4], by simp [World.frozen?, hdev4], ?_, ?_, ?_, (Array.getElem?_eq_some_iff.1 hg4).1⟩
    · refine ⟨?_, row_kept hst4 hk5 (fun g' hg' e => h.stb (by rw [hg', e])), ?_, ?_, ?_⟩
      · rw [heap_setCell_same w4 b 2 _ _ _ hdev4]; simp
      · show World.ownsRow _ 0 _ 129 _ (D.ca ++ [x]).length (wrC (D.ca ++ [x]))
        rw [wrC_snoc, List.length_append]
        exact row_kept ho hk5 (fun g' hg' e => hgb (by simp [Value.ownBlock] at hg'; rw [hg', e]))
      · show MapIs _ m (newestF (D.ca ++ [x]))
        rw [newestF_snoc]
        exact hm4.kept hk5 h.mb
      · refine ⟨h.ok.s0, h.ok.s1, by show (D.ca ++ [x]).length ≤ 400; simp; omega, fun w hw => ?_, h.ok.t0, h.ok.t1, h.ok.p0, h.ok.p1⟩
        rcases List.mem_append.1 hw with hw | hw
        · exact h.ok.ats w hw
        · rw [List.mem_singleton.1 hw]; exact inS_true hx
    · have q1 : Kept (fun k => k = b ∨ k = m ∨ vc.ownBlock = some k) w w1 := (Kept.refl _ w).below hb0 (Nat.le_refl _)
      have q2 := (q1.drew.trans (hk2.mono (Y := fun k => k = b ∨ k = m ∨ vc.ownBlock = some k) fun k e => .inr (.inl e))).trans (hk3.mono fun k e => e.elim)
      exact (q2.trans (hk4.mono fun k e => .inr (.inr e))).trans (hk5.mono fun k e => .inl e)
    · rcases hat with hat | hat
      · left; exact hat.symm
      · right
        simp [Value.ownBlock] at hat
        rw [hat, h3b, hs2]; show w.heap.size ≤ w1.heap.size + 1; omega

set_option maxHeartbeats 1000000 in
theorem put_any {w : World} {b m : Nat} {vs vc : Value} {D : Dv} (h : DevP w b m vs vc D) (x : Wr) (hx : inS D.st.length x.at_ = true) (hl : D.ca.length < 400) :
    Calls Tryd.prog 49 #[.pointer (some ⟨b, 0, none⟩), .agg x.A] w fun e w' => e = .returned (.tuple #[]) ∧ ∃ vc', DevP w' b m vs vc' { D with ca := D.ca ++ [x] } ∧ Kept (fun k => k = b ∨ k = m ∨ vc.ownBlock = some k) w w' ∧ ∀ g, vc'.ownBlock = some g → vc.ownBlock = some g ∨ w.heap.size ≤ g := by
  obtain ⟨w1, w2, g, c, w4, hbx, hc0, hp1, hup, hc2, hc2a, hc2b, hld, hap, hc4, hf4, hp5, hk5, hg, -⟩ := h.put hx hl
  have hcs := hp1.cells
  obtain ⟨-, -, h2, h3, -⟩ := hcs
  obtain ⟨a, cc, rfl, -, -⟩ := h.cav
  have hb := run_bslW x
  have hld1 := hld w2.drew rfl
  have HP := Lib.hid hp5
  have HK := Lib.hid hk5
  have HG := Lib.hid hg
  clear h hp1 hp5 hk5 hld hg
  go_enter Tryd.func49, Tryd.ntmps49
  go_wp2
  go_still_tail 11, (by kernel_rfl)
  go_wp2
  go_region
  all_goals go_wp2
  all_goals go_end0
  all_goals exact ⟨rfl, _, HP.out, HK.out, fun g' hg' => by simp [Value.ownBlock] at hg'; subst hg'; exact HG.out⟩
end Go.Proofs.YtbaibmndmcdfdaaDoor.D
