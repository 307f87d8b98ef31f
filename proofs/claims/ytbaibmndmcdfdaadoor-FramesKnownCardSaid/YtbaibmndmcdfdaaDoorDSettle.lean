/- empty, settle, Flush. -/
import Derived.Test.YtbaibmndmcdfdaaDoorDApply
namespace Go.Proofs.YtbaibmndmcdfdaaDoor.D
open Go.RowKit Go.MapKept
noncomputable def clearX (ty : TypeId) (xs : Array Value) : Sem Value := Builtin.clear_ #[87] ty xs
theorem clearX_eq (ty : TypeId) (xs : Array Value) : Builtin.clear_ #[87] ty xs = clearX ty xs := rfl
attribute [local go_sem ↓] loadS_eq storeS_eq loadW_eq storeW_eq allocW_eq boxW_eq clearX_eq
set_option maxRecDepth 100000

/-- What a device's own blocks are, when its cache is given up. -/
theorem DevP.emptied {w : World} {b m : Nat} {vs vc : Value} {D : Dv} (h : DevP w b m vs vc D) :
    ∃ w', (∀ ty, (clearX ty #[.map (some m)]).run Tryd.prog (w.setCell ⟨b, 2, none⟩ (.slice none 0 0)) = .ok (.tuple #[]) w') ∧ DevP w' b m vs (.slice none 0 0) { D with ca := [] } ∧ Kept (fun k => k = b ∨ k = m) w w' := by
  have hk1 : Kept (fun k => k = b) w (w.setCell ⟨b, 2, none⟩ (.slice none 0 0)) := Kept.setCell (X := fun k => k = b) (Kept.refl _ w) ⟨b, 2, none⟩ rfl _
  have hm1 := h.map.kept hk1 h.mb
  have hd : (w.setCell ⟨b, 2, none⟩ (.slice none 0 0)).heap[b]? = some (.cells #[.pointer (some ⟨b, 0, none⟩), vs, .slice none 0 0, .map (some m), .int .i64 D.tk, .int .i64 D.pw, .bool D.off] 89 (0, 0)) := by
    rw [heap_setCell_same w b 2 _ _ _ h.dev]; simp
  obtain ⟨w', hr, hm', hk', hsz⟩ := run_clear (ty := 0) hm1
  refine ⟨w', fun ty => hr, ⟨(hk'.block b (by simpa [World.setCell] using h.lt) (fun e => h.mb e.symm)).trans hd, ?_, World.ownsRow_nil _ _ _ _, hm', ⟨h.ok.s0, h.ok.s1, Nat.zero_le _, fun w hw => (by cases hw), h.ok.t0, h.ok.t1, h.ok.p0, h.ok.p1⟩⟩, (hk1.mono fun k e => .inl e).trans (hk'.mono fun k e => .inr e)⟩
  exact row_kept (row_kept h.sts hk1 (fun g hg e => h.stb (e ▸ hg))) hk' (fun g hg e => h.ms (e ▸ hg))

theorem empty_any {w : World} {b m : Nat} {vs vc : Value} {D : Dv} (h : DevP w b m vs vc D) :
    Calls Tryd.prog 62 #[.pointer (some ⟨b, 0, none⟩)] w fun e w' => e = .returned (.tuple #[]) ∧ DevP w' b m vs (.slice none 0 0) { D with ca := [] } ∧ Kept (fun k => k = b ∨ k = m) w w' := by
  obtain ⟨w2, hr, hp2, hk2⟩ := h.emptied
  have hc := h.cells
  obtain ⟨-, -, h2, h3, -⟩ := hc
  have hf := h.frozen 2
  have HP := Lib.hid hp2
  have HK := Lib.hid hk2
  clear h hp2 hk2
  go_enter Tryd.func62, Tryd.ntmps62
  go_wp2
  go_end0
  exact ⟨rfl, HP.out, HK.out⟩

theorem take_all {α : Type} (l : List α) {k : Nat} (h : ¬ k < l.length) : l.take k = l := List.take_of_length_le (by omega)
set_option maxHeartbeats 1000000 in
theorem settle_any {w : World} {b m : Nat} {vs vc : Value} {D : Dv} (h : DevP w b m vs vc D) :
    Calls Tryd.prog 54 #[.pointer (some ⟨b, 0, none⟩)] w fun e w' => e = .returned (.tuple #[]) ∧ DevP w' b m vs (.slice none 0 0) (settleD D) ∧ Kept (fun k => k = b ∨ k = m ∨ vs.ownBlock = some k) w w' := by
  have h2 := h.cells.2.2.1
  have hca := h.ok.ca
  have HA := Lib.hid h.ok.ats
  have H := Lib.hid h
  obtain ⟨a, cc, rfl, hnone, hsome⟩ := h.cav
  have HN := Lib.hid hnone
  have HS := Lib.hid hsome
  have haw := run_allocW
  have hsw := run_storeW_new
  clear h hnone hsome
  go_enter Tryd.func54, Tryd.ntmps54
  go_wp2
  go_loopw [9] (fun i wr => ∃ k : Nat, k ≤ D.ca.length ∧ i = .int .i64 k ∧ Hid (DevP wr b m vs (.slice a D.ca.length cc) { D with st := settleV D.st (D.ca.take k) }) ∧ Hid (Kept (fun k => vs.ownBlock = some k) w wr)) (fun i _ => D.ca.length - (intOf i).toNat)
  case atStart => exact ⟨0, Nat.zero_le _, rfl, Lib.hid (by simpa [settleV] using H.out), Lib.hid (Kept.refl _ w)⟩
  case round =>
    obtain ⟨k, hk, rfl, HD, HK⟩ := hrel
    by_cases hlt : k < D.ca.length
    · obtain ⟨g, rfl⟩ : ∃ g, a = some ⟨g, 0, none⟩ := by
        cases a with
        | none => have := HN.out rfl; rw [this] at hlt; simp at hlt
        | some p => obtain ⟨g, rfl⟩ := HS.out p rfl; exact ⟨g, rfl⟩
      have hld := run_loadW_elem (wrs_of_row HD.out.cas) k hlt
      rw [Nat.zero_add] at hld
      have hnew := run_loadW_block (heap_alloc_new wr (.cells D.ca[k].A 95 (0, 0)))
      have HC := Lib.hid (apply_any (HD.out.below ((Below.refl _ wr).alloc (Nat.le_refl _) (.cells D.ca[k].A 95 (0, 0))) (Nat.le_refl _)) D.ca[k] (by
        have := HA.out D.ca[k] (List.getElem_mem hlt)
        exact inS_mk this.1 (by show _ < (((settleV D.st (D.ca.take k)).length : Nat) : Int); rw [settleV_len]; exact this.2)))
      have HT := Lib.hid (settleV_take D.st D.ca k hlt)
      have hkl : (k : Int) < (D.ca.length : Int) := by omega
      go_wp2_with fail
      refine HC.out.mono ?_
      rintro e w2 ⟨rfl, hp2, hk2⟩
      have HP2 := Lib.hid hp2
      have HK2 := Lib.hid (((HK.out).alloc _).trans hk2)
      clear hp2 hk2
      go_wp2_with fail
      go_roundw
      case rel => exact ⟨k + 1, by omega, by go_num, Lib.hid (by rw [HT.out]; exact HP2.out), HK2⟩
      case measure => simp [intOf]; omega
    · have HC := Lib.hid (empty_any HD.out)
      have HT := Lib.hid (take_all D.ca hlt)
      have hkl : ¬ (k : Int) < (D.ca.length : Int) := by omega
      go_wp2_with fail
      refine HC.out.mono ?_
      rintro e w2 ⟨rfl, hp2, hk2⟩
      have HP2 := Lib.hid hp2
      have HK2 := Lib.hid ((HK.out.mono fun k e => .inr (.inr e)).trans (hk2.mono fun k e => (e.elim .inl fun e => .inr (.inl e) : k = b ∨ k = m ∨ vs.ownBlock = some k)))
      clear hp2 hk2
      go_wp2_with fail
      go_end0
      refine ⟨rfl, ?_, HK2.out⟩
      have := HP2.out
      rw [HT.out] at this
      exact this

end Go.Proofs.YtbaibmndmcdfdaaDoor.D
