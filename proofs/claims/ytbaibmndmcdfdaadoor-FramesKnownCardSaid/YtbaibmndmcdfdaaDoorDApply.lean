/- apply, empty, settle. -/
import Derived.Test.YtbaibmndmcdfdaaDoorDRead
import Derived.StillTailTactics
namespace Go.Proofs.YtbaibmndmcdfdaaDoor.D
open Go.RowKit Go.MapKept
noncomputable def boxW (x : Value) : Sem Value := Instr.box 95 x
theorem boxW_eq (x : Value) : Instr.box 95 x = boxW x := rfl
theorem run_boxW (x : Wr) (w : World) : (boxW (.agg x.A)).run Tryd.prog w = .ok (.pointer (some ⟨w.heap.size, 0, none⟩)) (w.alloc (.cells x.A 95 (0, 0))) := by
  simp [boxW, Instr.box, newVar, newRow, Value.cells]
attribute [local go_sem ↓] loadS_eq storeS_eq loadW_eq storeW_eq allocW_eq boxW_eq
set_option maxRecDepth 100000

/-- A sector of a device is stored. -/
theorem DevP.store {w : World} {b m : Nat} {vs vc : Value} {D : Dv} (h : DevP w b m vs vc D) {x : Wr} (hx : inS D.st.length x.at_ = true) :
    ∃ g c cs, vs = .slice (some ⟨g, 0, none⟩) D.st.length c ∧ (∀ W : World, W.heap = w.heap → (storeS (.pointer (some ⟨g, x.at_.toNat * 128, none⟩)) (.agg x.data.A)).run Tryd.prog W = .ok () (W.setRow g cs)) ∧ DevP (w.setRow g cs) b m vs vc { D with st := applyV D.st x } ∧ vs.ownBlock = some g := by
  obtain ⟨k, hk, hkl⟩ := inS_nat hx
  obtain ⟨g, c, cur, rfl, hg, hs, hn, ht⟩ := h.stv
  have hb := h.stb
  have hm := h.ms
  have hc := h.sc g rfl
  have hkc : k * 128 + 128 ≤ D.st.length * 128 := by omega
  have hsz : D.st.length * 128 ≤ cur.size := by omega
  rw [hk, Int.toNat_natCast]
  refine ⟨g, c, _, rfl, fun W hW => store_at szSec (cs := x.data.cs) x.data.cs_len (by rw [hW]; exact hg) (by omega) x.data.one, ?_, rfl⟩
  have hset : secC (applyV D.st x) = (secC D.st).take (k * 128) ++ x.data.cs ++ (secC D.st).drop (k * 128 + 128) := by
    unfold applyV secC
    rw [hk, Int.toNat_natCast, List.map_set]
    exact flat_set _ (secs_len D.st) k x.data.cs (by simpa using hkl)
  have hl : (secC D.st).length = D.st.length * 128 := secC_len _
  have e1 : (cur.toList.take (k * 128) ++ x.data.cs ++ cur.toList.drop (k * 128 + 128)).take (D.st.length * 128) = secC (applyV D.st x) := by
    rw [hset, ← ht]
    have hcl : cur.toList.length = cur.size := by simp
    generalize cur.toList = L at *
    have h128 := x.data.cs_len
    have q1 : (List.take (k * 128) L ++ x.data.cs).length = k * 128 + 128 := by rw [List.length_append, List.length_take]; omega
    rw [List.take_append, q1, List.take_of_length_le (by omega), List.take_take, Nat.min_eq_left (by omega), List.drop_take]
  have hk1 := Kept.setRow (X := fun k => k = g) (Kept.refl _ w) g rfl (cur.toList.take (k * 128) ++ x.data.cs ++ cur.toList.drop (k * 128 + 128)).toArray
  have hlen : (applyV D.st x).length = D.st.length := applyV_len _ _
  refine ⟨(hk1.block b h.lt (fun e => hb (by rw [e]; rfl))).trans h.dev, ?_, row_kept h.cas hk1 (fun g' hg' e => hc (by rw [hg', e])), h.map.kept hk1 (fun e => hm (by rw [e]; rfl)), ⟨by show 64 ≤ (applyV D.st x).length; rw [hlen]; exact h.ok.s0, by show (applyV D.st x).length ≤ 256; rw [hlen]; exact h.ok.s1, h.ok.ca, fun w hw => by show _ ∧ _ < (((applyV D.st x).length : Nat) : Int); rw [hlen]; exact h.ok.ats w hw, h.ok.t0, h.ok.t1, h.ok.p0, h.ok.p1⟩⟩
  show World.ownsRow _ 0 _ 128 _ (applyV D.st x).length (secC (applyV D.st x))
  rw [hlen]
  refine ⟨by rw [secC_len, hlen], .inr ⟨g, c, _, rfl, Nat.zero_le _, setRow_heap w g _ _ _ _ hg, hn, ?_, ?_, by simpa using e1⟩⟩
  · rcases h.sts.2 with ⟨h0, _⟩ | ⟨g', cap, cur', h0, _, _, _, hcap, _⟩
    · cases h0
    · cases h0; exact hcap
  · have : cur.toList.length = cur.size := by simp
    simp only [List.size_toArray, List.length_append, List.length_take, List.length_drop, x.data.cs_len]
    omega

set_option maxHeartbeats 1000000 in
theorem apply_any {w : World} {b m : Nat} {vs vc : Value} {D : Dv} (hp0 : DevP w b m vs vc D) (x : Wr) (hx : inS D.st.length x.at_ = true) :
    Calls Tryd.prog 61 #[.pointer (some ⟨b, 0, none⟩), .agg x.A] w fun e w' => e = .returned (.tuple #[]) ∧ DevP w' b m vs vc { D with st := applyV D.st x } ∧ Kept (fun k => vs.ownBlock = some k) w w' := by
  obtain ⟨w1, hw1⟩ : ∃ w1, w.alloc (.cells x.A 95 (0, 0)) = w1 := ⟨_, rfl⟩
  have hb0 : Below w.heap.size w w1 := by rw [← hw1]; exact (Below.refl _ _).alloc (Nat.le_refl _) _
  have hbx : (boxW (.agg x.A)).run Tryd.prog w = .ok (.pointer (some ⟨w.heap.size, 0, none⟩)) w1 := by rw [← hw1]; exact run_boxW x w
  have hblk : w1.heap[w.heap.size]? = some (.cells x.A 95 (0, 0)) := by rw [← hw1]; exact heap_alloc_new _ _
  have hc0 : w1.cell? ⟨w.heap.size, 0, none⟩ = some (.int .i64 x.at_) := by rw [cell_of_row w1 _ 0 _ _ (0, 0) hblk]; rfl
  have hd : ∀ W : World, W.heap = w1.heap → (loadS (.pointer (some ⟨w.heap.size, 1, none⟩))).run Tryd.prog W = .ok (.agg x.data.A) W := fun W hW => load_at (aggSec W) szSec x.data.cs_len (fun j u hj => by rw [cell_heap hW, cell_of_row w1 _ _ _ _ (0, 0) hblk, Nat.add_comm]; simpa [Wr.A, Wr.cs] using hj)
  have hp := hp0.below hb0 (Nat.le_refl _)
  have h1 := hp.cells.2.1
  obtain ⟨g, c, cs, rfl, hst, hp2, hob⟩ := hp.store hx
  have hr := inS_true hx
  have hs1 := hp.ok.s1
  have HF : Hid (∀ W, Mem w1 W → DevP (W.setRow g cs) b m (.slice (some ⟨g, 0, none⟩) D.st.length c) vc { D with st := applyV D.st x } ∧ Kept (fun k => (Value.slice (some ⟨g, 0, none⟩) D.st.length c).ownBlock = some k) w (W.setRow g cs)) := Lib.hid (fun W hm =>
    ⟨hp2.below ((hm.setRow g cs).below _) (Nat.le_refl _), (((Kept.refl (fun k => (Value.slice (some ⟨g, 0, none⟩) D.st.length c).ownBlock = some k) w).below hb0 (Nat.le_refl _)).setRow g rfl cs).mem (hm.setRow g cs)⟩)
  clear hp0 hp hp2 hw1 hblk
  have hd1 := hd w1.drew rfl
  have hs1 := hst w1.drew rfl
  clear hd hst
  go_enter Tryd.func61, Tryd.ntmps61
  go_wp2
  go_still_tail 9, (by kernel_rfl)
  go_wp2
  go_end0
  exact ⟨rfl, HF.out _ ⟨rfl, rfl, rfl, rfl⟩⟩
end Go.Proofs.YtbaibmndmcdfdaaDoor.D
