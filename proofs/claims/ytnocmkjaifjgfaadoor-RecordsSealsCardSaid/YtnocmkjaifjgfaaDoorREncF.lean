/- kindsOf. -/
import Derived.Test.YtnocmkjaifjgfaaDoorREncE
import Derived.Laws.MakeOwn
namespace Go.Proofs.YtnocmkjaifjgfaaDoor.R
open Go.RowKit

theorem infoKind : (Tryd.prog.info? 58).map (fun i => (i.zero, i.size, i.bytes)) = some (some (.agg #[.int .i64 0, .nilFunc, .nilFunc]), 3, 24) := by kernel_rfl
theorem run_make_kinds (n : Nat) (hn : n ≤ 64) (w : World) : ∃ cs : Array Value, cs.size = n * 3 ∧
    (Instr.makeSlice 50 (.int .i64 (n : Int)) (.int .i64 (n : Int))).run Tryd.prog w = .ok (.slice (some ⟨w.heap.size, 0, none⟩) n n) (w.alloc (.cells cs 58)) := by
  obtain ⟨i0, hi, hz0, hz1, hz2⟩ := info_parts infoKind
  have hb : (i0.bytes : Int) * (n : Int) ≤ 281474976710656 := by rw [hz2]; omega
  have hr := run_make (P := Tryd.prog) w 50 58 i0 _ Tryd.underlying50 hi hz0 .i64 .i64 n n (by omega) (by omega) hb (by omega)
  simp only [Int.toNat_natCast] at hr
  refine ⟨_, ?_, hr⟩
  rw [hz1, size_madeCells]
theorem run_store_func (P : Program) (w : World) (a : Addr) (m : Mode) (f : Fn) (x y : Array Value) : (store a (.func f x y) m).run P w = stored P w a (.func f x y) m := run_store P w a _ m rfl
theorem run_store_nilFunc (P : Program) (w : World) (a : Addr) (m : Mode) : (store a .nilFunc m).run P w = stored P w a .nilFunc m := run_store P w a _ m rfl
attribute [local go_sem] run_store_func run_store_nilFunc
theorem all_false {l : List UInt8} {k : Nat} (h : k < l.length) (hb : kindB l[k].toNat = false) : l.all (fun c => kindB c.toNat) = false := by
  rw [List.all_eq_false]
  exact ⟨l[k], List.getElem_mem h, by simp [hb]⟩
theorem all_true {l : List UInt8} (h : ∀ j (hj : j < l.length), kindB l[j].toNat = true) : l.all (fun c => kindB c.toNat) = true := by
  rw [List.all_eq_true]
  intro x hx
  obtain ⟨j, hj, rfl⟩ := List.mem_iff_getElem.1 hx
  exact h j hj
/-- What kindsOf leaves. -/
def KoPost (w : World) (l : List UInt8) (e : Ending) (w' : World) : Prop :=
  Below w.heap.size w w' ∧ ((formE l ≠ 0 ∧ e = .returned (.tuple #[.slice none 0 0, .int .i64 (formE l : Nat)])) ∨
    (formE l = 0 ∧ ∃ g, w.heap.size ≤ g ∧ KindsIn w' g l l.length ∧ e = .returned (.tuple #[.slice (some ⟨g, 0, none⟩) l.length l.length, .int .i64 0])))

set_option maxHeartbeats 2000000 in
theorem kindsOf_any (s : ByteArray) (w : World) (hs : s.size ≤ maxLen) :
    Calls Tryd.prog 28 #[.string s] w (KoPost w s.data.toList) := by
  have HS := Lib.hid (size_data s)
  unfold maxLen at hs
  by_cases h64 : 64 < s.size
  · have hE : Hid (formE s.data.toList = 3) := Lib.hid (by unfold formE; rw [HS.out, if_pos h64])
    go_enter Tryd.func28, Tryd.ntmps28
    go_wp2
    go_ret2
    exact ⟨Below.refl _ _, .inl ⟨by rw [hE.out]; decide, by rw [hE.out]; rfl⟩⟩
  · have d64 : decide ((64 : Int) < s.size) = false := decide_eq_false (by omega)
    have hs64 : s.size ≤ 64 := by omega
    have HL := Lib.hid (byLetter_any w)
    clear h64
    go_enter Tryd.func28, Tryd.ntmps28
    go_wp2_with fail
    refine HL.out.mono ?_
    rintro e w2 ⟨rfl, hm, hb2⟩
    have HM := Lib.hid hm
    have HB := Lib.hid hb2
    obtain ⟨cs, hcs, hmk⟩ := run_make_kinds s.size hs64 w2
    have hz2 : w.heap.size < w2.heap.size := hm.lt
    have HK0 : Hid (KindsIn (w2.alloc (.cells cs 58)) w2.heap.size s.data.toList 0) := Lib.hid ⟨cs, heap_alloc_new w2 _, by rw [HS.out]; exact hcs, fun j _ h => by omega⟩
    have HM0 := Lib.hid (hm.kept ((Kept.refl (fun _ => False) w2).alloc (.cells cs 58)) (fun h => h))
    have HB0 := Lib.hid (hb2.alloc hb2.size (.cells cs 58))
    clear hm hb2 hcs
    go_wp2_with fail
    go_loopw [6, 7, 8, 18] (fun _ _ _ i wr => ∃ (k : Nat), k ≤ s.size ∧ i = .int .i64 k ∧ Hid (KindsIn wr w2.heap.size s.data.toList k) ∧ Hid (MapIs wr w.heap.size letF) ∧ Hid (Below w.heap.size w wr) ∧ Hid (∀ j (hj : j < s.data.toList.length), j < k → kindB s.data.toList[j].toNat = true)) (fun _ _ _ i _ => s.size - (intOf i).toNat)
    case atStart => exact ⟨0, by omega, rfl, HK0, HM0, HB0, Lib.hid (fun j _ h => by omega)⟩
    case round =>
      obtain ⟨k, hk, rfl, hKI, hMI, hBW, hAll⟩ := hrel
      by_cases hlt : k < s.size
      · have hlt' : k < s.data.toList.length := by rw [HS.out]; exact hlt
        have hck : s.data.toList[k] = s[k] := by rw [Array.getElem_toList]; rfl
        have hgl := hKI.out.lt
        have hwl := hMI.out.lt
        by_cases hkb : kindB s[k].toNat = true
        · have hlf := Lib.hid (letF_yes _ hkb)
          obtain ⟨cs1, hbk, hcz, hrd⟩ := hKI.out
          have hS := Lib.hid (hKI.out.step hlt')
          have hA2 : Hid (∀ j (hj : j < s.data.toList.length), j < k + 1 → kindB s.data.toList[j].toNat = true) := Lib.hid (fun j hj hjk => by
            by_cases e : j = k
            · subst e; rw [hck]; exact hkb
            · exact hAll.out j hj (by omega))
          rw [hck] at hS
          rw [HS.out] at hcz
          obtain ⟨u0, hu0⟩ : ∃ u, cs1[k * 3]? = some u := ⟨_, Array.getElem?_eq_getElem (by omega)⟩
          obtain ⟨u1, hu1⟩ : ∃ u, cs1[k * 3 + 1]? = some u := ⟨_, Array.getElem?_eq_getElem (by omega)⟩
          obtain ⟨u2', hu2⟩ : ∃ u, cs1[k * 3 + 2]? = some u := ⟨_, Array.getElem?_eq_getElem (by omega)⟩
          have hbk2 := hbk.alloc (.cells #[.int .i64 (szV s[k].toNat), .func (.func (wfV s[k].toNat)) #[] #[], .func (.func (rfV s[k].toNat)) #[] #[]] 58 (0, 0))
          clear hrd hck hkb
          have HBK := Lib.hid hbk
          have hc0 := (hbk.cell (k * 3)).trans hu0
          have hc1 := (hbk.cell (k * 3 + 1)).trans hu1
          have hc2 := (hbk.cell (k * 3 + 2)).trans hu2
          have hf0 := hbk.frozen (k * 3)
          have hf1 := hbk.frozen (k * 3 + 1)
          have hf2 := hbk.frozen (k * 3 + 2)
          clear hu0 hu1 hu2 hbk hbk2
          go_wp2_with (at_lookup; (refine wpList_look (by rfl) _ _ (by rfl) w.heap.size _ letF (.agg #[.int .i64 (szV s[k].toNat), .func (.func (wfV s[k].toNat)) #[] #[], .func (.func (rfV s[k].toNat)) #[] #[]]) true (by rfl) (by rfl) hMI.out (by rw [hlf.out]; first | done | rfl) (by rw [hlf.out]; first | done | rfl) ?_))
          go_roundw
          case rel =>
            have hm3 := (((((Kept.refl (fun j => j = w2.heap.size) wr).setCell ⟨w2.heap.size, k * 3, none⟩ (.inl rfl) (.int .i64 (szV s[k].toNat))).setCell ⟨w2.heap.size, k * 3 + 1, none⟩ (.inl rfl) (.func (.func (wfV s[k].toNat)) #[] #[])).setCell ⟨w2.heap.size, k * 3 + 2, none⟩ (.inl rfl) (.func (.func (rfV s[k].toNat)) #[] #[])).alloc (.cells #[.int .i64 (szV s[k].toNat), .func (.func (wfV s[k].toNat)) #[] #[], .func (.func (rfV s[k].toNat)) #[] #[]] 58))
            exact ⟨k + 1, by omega, by go_num, Lib.hid (hS.out.below ((Below.refl _ _).alloc (Nat.le_refl _) _) hS.out.lt), Lib.hid (hMI.out.kept hm3 (by omega)), Lib.hid (hBW.out.trans (hm3.toBelow (by omega) (fun j hj e => by omega))), hA2⟩
          case measure => simp [intOf]; omega
        · have hlf := Lib.hid (letF_no _ (by simpa using hkb))
          have hE : Hid (formE s.data.toList = 2) := Lib.hid (by unfold formE; rw [HS.out, if_neg (by omega), all_false hlt' (by rw [hck]; simpa using hkb)]; rfl)
          clear hck hkb
          go_wp2_with (at_lookup; (refine wpList_look (by rfl) _ _ (by rfl) w.heap.size _ letF (.agg #[.int .i64 0, .nilFunc, .nilFunc]) false (by rfl) (by rfl) hMI.out (by rw [hlf.out]; first | done | rfl) (by rw [hlf.out]; first | done | rfl) ?_))
          go_ret2
          exact ⟨hBW.out.alloc hBW.out.size _, .inl ⟨by rw [hE.out]; decide, by rw [hE.out]; rfl⟩⟩
      · obtain rfl : k = s.size := by omega
        have hE : Hid (formE s.data.toList = 0) := Lib.hid (by unfold formE; rw [HS.out, if_neg (by omega), if_pos (all_true (fun j hj => hAll.out j hj (by rw [HS.out] at hj; exact hj)))])
        go_wp2_with fail
        go_ret2
        exact ⟨hBW.out, .inr ⟨hE.out, w2.heap.size, by omega, by rw [HS.out]; exact hKI.out, by rw [HS.out]; rfl⟩⟩
end Go.Proofs.YtnocmkjaifjgfaaDoor.R
