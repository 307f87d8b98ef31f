/- (*writer).grouped, str. -/
import Derived.Test.YtnocmkjaifjgfaaDoorREncB
import Derived.Deep.RegionLaw
namespace Go.Proofs.YtnocmkjaifjgfaaDoor.R
open Go.RowKit

theorem Row.shapeM {w : World} {base : Nat} {v : Value} {l : List UInt8} (h : Row w base v l) : ∃ a m d, v = .slice a m d := by
  obtain ⟨a, d, e⟩ := h.shape
  exact ⟨a, _, d, e⟩
/-- A row has moved, and the field was written. -/
theorem store_row {w w2 : World} {b : Nat} {v v2 : Value} {l l2 : List UInt8} (h : WrAt w b v l) (hk : Kept (fun k => v.ownBlock = some k) w w2) (hr : Row w2 (b + 1) v2 l2) :
    WrAt (w2.setCell ⟨b, 0, none⟩ v2) b v2 l2 ∧ Below b w (w2.setCell ⟨b, 0, none⟩ v2) := by
  have hne : ¬ v.ownBlock = some b := fun e => by have := (h.row.ge e).1; omega
  have hc := (hk.cell 0 h.lt hne).trans h.cell
  have hf := (hk.frozen 0 h.lt hne).trans h.frozen
  have hs : Kept (fun k => k = b) w2 (w2.setCell ⟨b, 0, none⟩ v2) := (Kept.refl (fun k => k = b) w2).setCell ⟨b, 0, none⟩ (.inl rfl) v2
  refine ⟨⟨World.cell?_setCell_same' w2 _ v2 (by rw [hc]; rfl), by rw [World.frozen?_setCell]; exact hf, hr.kept hs (fun g e q => by have := (hr.ge e).1; omega)⟩, ?_⟩
  have hk2 : Kept (fun k => v.ownBlock = some k ∨ k = b) w w2 := hk.mono (fun k e => .inl e)
  exact (hk2.trans' hs (fun i _ e => .inr e)).toBelow (Nat.le_of_lt h.lt) (fun k hkb e => by
    rcases e with e | e
    · have := (h.row.ge e).1; omega
    · omega)
theorem valE_2 {c : Nat} {v : Rv} (h : (c ≠ 115 ∧ 0 < v.str.size) ∨ (c ≠ 108 ∧ 0 < v.list.length) ∨ ((c = 115 ∨ c = 108) ∧ 0 < v.num)) : valE c v = 2 := by
  have : badF c v = true := by unfold badF; exact decide_eq_true h
  unfold valE; rw [if_pos this]
theorem valE_w0 {c : Nat} {v : Rv} (hw : widV c = 0) (h : ¬ ((c ≠ 115 ∧ 0 < v.str.size) ∨ (c ≠ 108 ∧ 0 < v.list.length) ∨ ((c = 115 ∨ c = 108) ∧ 0 < v.num))) : valE c v = if 400 < v.str.size ∨ 60 < v.list.length then 3 else 0 := by
  have : badF c v = false := by unfold badF; exact decide_eq_false h
  unfold valE; rw [this, hw]; simp
theorem num_ne {n : Nat} (h : 0 < n) : ((n : Int) == 0) = false := by simp; omega
theorem wr_err {w w' : World} {b c e : Nat} {rv : Rv} {l0 : List UInt8} (hE : valE c rv = e) (he : e ≠ 0) (h2 : Below b w w') : WrPost w b l0 c rv (.returned (.int .i64 e)) w' :=
  ⟨by rw [hE], h2, fun h => absurd (hE.symm.trans h) he⟩

set_option maxHeartbeats 1000000 in
theorem grouped_no (b : Nat) (rv : Rv) (x : Value) (m : Int) (l0 : List UInt8) (w : World) (hb : b ≤ w.heap.size) (hx : ∃ a d, x = .slice a rv.list.length d) (hbad : 0 < rv.str.size ∨ 0 < rv.list.length) :
    Calls Tryd.prog 46 #[.pointer (some ⟨b, 0, none⟩), .agg #[.int .u64 rv.num, .string rv.str, x], .int .i64 m] w (WrPost w b l0 118 rv) := by
  obtain ⟨a, d, rfl⟩ := hx
  have hE : Hid (valE 118 rv = 2) := Lib.hid (valE_2 (by omega))
  have HB := Lib.hid ((Below.refl b w).alloc hb (.cells #[.int .u64 rv.num, .string rv.str, .slice a rv.list.length d] 38 (0, 0)))
  by_cases hs : 0 < rv.str.size
  · have h0 := str_ne' hs
    go_enter Tryd.func46, Tryd.ntmps46
    go_wp2
    go_ret
    exact wr_err (e := 2) hE.out (by decide) HB.out
  · have h1 := str_e' (s := rv.str) (by omega)
    have h2 : 0 < rv.list.length := by omega
    go_enter Tryd.func46, Tryd.ntmps46
    go_wp2
    go_ret
    exact wr_err (e := 2) hE.out (by decide) HB.out
set_option maxHeartbeats 1000000 in
theorem grouped_yes (b : Nat) (v : Value) (n : Nat) (x : Value) (m : Int) (l0 : List UInt8) (w : World) (hn : n < 18446744073709551616) (hx : ∃ a d, x = .slice a 0 d) (hW : WrAt w b v l0) (hl : l0.length ≤ 900000) :
    Calls Tryd.prog 46 #[.pointer (some ⟨b, 0, none⟩), .agg #[.int .u64 n, .string ⟨#[]⟩, x], .int .i64 m] w (WrPost w b l0 118 ⟨n, ⟨#[]⟩, []⟩) := by
  obtain ⟨a, d, rfl⟩ := hx
  have HB := Lib.hid ((Below.refl w.heap.size w).alloc (Nat.le_refl _) (.cells #[.int .u64 n, .string ⟨#[]⟩, .slice a 0 d] 38 (0, 0)))
  have hbb := hW.lt
  have HBb := Lib.hid (HB.out.mono (Nat.le_of_lt hbb))
  have hE : Hid (valE 118 ⟨n, ⟨#[]⟩, []⟩ = 0) := Lib.hid (by rw [valE_w0 rfl (by simp [size0])]; simp [size0])
  have hV : Hid (valL 118 ⟨n, ⟨#[]⟩, []⟩ = grpL n) := Lib.hid (by unfold valL; simp)
  have HX := Lib.hid (groups_any b n v l0 _ hn hl (hW.kept (Kept.of_below HB.out (fun _ => False)) (fun h => h) (fun _ _ h => h)))
  have HW1 := Lib.hid hW
  clear hW
  go_enter Tryd.func46, Tryd.ntmps46
  go_wp2_with fail
  refine HX.out.mono ?_
  rintro e w2 ⟨rfl, v2, hr2, hm2⟩
  have HF := Lib.hid (HBb.out.trans (wrote_below hm2 (HW1.out.kept (Kept.of_below HB.out (fun _ => False)) (fun h => h) (fun _ _ h => h))))
  have HR := Lib.hid hr2
  clear hm2 hr2
  go_wp2
  go_ret
  exact wr_post hE.out hV.out HW1.out HR.out HF.out
theorem slice0 {x : Value} {l : List Nat} (hx : ∃ a d, x = .slice a l.length d) (h : l = []) : ∃ a d, x = .slice a 0 d := by subst h; exact hx
theorem str_eq0 {s : ByteArray} (h : ¬ 0 < s.size) : s = ⟨#[]⟩ := by
  obtain ⟨a⟩ := s
  congr 1
  apply Array.eq_empty_of_size_eq_zero
  have : a.size = ByteArray.size ⟨a⟩ := rfl
  omega
theorem list_eq0 {l : List Nat} (h : ¬ 0 < l.length) : l = [] := List.eq_nil_of_length_eq_zero (by omega)
theorem grouped_any (b : Nat) (v : Value) (rv : Rv) (x : Value) (m : Int) (l0 : List UInt8) (w : World) (hn : rv.num < 18446744073709551616) (hx : ∃ a d, x = .slice a rv.list.length d) (hW : WrAt w b v l0) (hl : l0.length ≤ 900000) :
    Calls Tryd.prog 46 #[.pointer (some ⟨b, 0, none⟩), .agg #[.int .u64 rv.num, .string rv.str, x], .int .i64 m] w (WrPost w b l0 118 rv) := by
  by_cases h : 0 < rv.str.size ∨ 0 < rv.list.length
  · exact grouped_no b rv x m l0 w (Nat.le_of_lt hW.lt) hx h
  · obtain ⟨n, s, l⟩ := rv
    obtain rfl := str_eq0 (s := s) (fun q => h (.inl q))
    obtain rfl := list_eq0 (l := l) (fun q => h (.inr q))
    exact grouped_yes b v n x m l0 w hn hx hW hl
theorem fixed_any (b : Nat) (v : Value) (c : Nat) (rv : Rv) (x : Value) (l0 : List UInt8) (w : World) (hc : 0 < widV c) (hn : rv.num < 18446744073709551616) (hx : ∃ a d, x = .slice a rv.list.length d) (hW : WrAt w b v l0) (hl : l0.length ≤ 900000) :
    Calls Tryd.prog 44 #[.pointer (some ⟨b, 0, none⟩), .agg #[.int .u64 rv.num, .string rv.str, x], .int .i64 (widV c : Nat)] w (WrPost w b l0 c rv) := by
  by_cases h : 0 < rv.str.size ∨ 0 < rv.list.length
  · exact fixed_no b _ c rv x l0 w (Nat.le_of_lt hW.lt) hx rfl hc h
  · obtain ⟨n, s, l⟩ := rv
    obtain rfl := str_eq0 (s := s) (fun q => h (.inl q))
    obtain rfl := list_eq0 (l := l) (fun q => h (.inr q))
    rcases wid_cases c with h | ⟨rfl, h⟩ | ⟨rfl, h⟩ | ⟨rfl, h⟩ | ⟨rfl, h⟩
    · omega
    · exact fixed_1 b v n x l0 w hn hx hW hl
    · exact fixed_2 b v n x l0 w hn hx hW hl
    · exact fixed_4 b v n x l0 w hn hx hW hl
    · exact fixed_8 b v n x l0 w hn hx hW hl

set_option maxHeartbeats 1000000 in
theorem str_no (b : Nat) (rv : Rv) (x : Value) (l0 : List UInt8) (w : World) (hb : b ≤ w.heap.size) (hx : ∃ a d, x = .slice a rv.list.length d) (hbad : 0 < rv.num ∨ 0 < rv.list.length) :
    Calls Tryd.prog 48 #[.pointer (some ⟨b, 0, none⟩), .agg #[.int .u64 rv.num, .string rv.str, x], .int .i64 400] w (WrPost w b l0 115 rv) := by
  obtain ⟨a, d, rfl⟩ := hx
  have hE : Hid (valE 115 rv = 2) := Lib.hid (valE_2 (by omega))
  have HB := Lib.hid ((Below.refl b w).alloc hb (.cells #[.int .u64 rv.num, .string rv.str, .slice a rv.list.length d] 38 (0, 0)))
  by_cases hs : 0 < rv.num
  · have h0 := num_ne hs
    go_enter Tryd.func48, Tryd.ntmps48
    go_wp2
    go_ret
    exact wr_err (e := 2) hE.out (by decide) HB.out
  · have h1 : rv.num = 0 := by omega
    have h2 : 0 < rv.list.length := by omega
    have HB2 : Hid (Below b w (w.alloc (.cells #[.int .u64 0, .string rv.str, .slice a rv.list.length d] 38 (0, 0)))) := Lib.hid ((Below.refl b w).alloc hb _)
    go_enter Tryd.func48, Tryd.ntmps48
    go_wp2
    go_ret
    exact wr_err (e := 2) hE.out (by decide) HB2.out
set_option maxHeartbeats 2000000 in
theorem str_yes (b : Nat) (v : Value) (s : ByteArray) (x : Value) (l0 : List UInt8) (w : World) (hx : ∃ a d, x = .slice a 0 d) (hW : WrAt w b v l0) (hl : l0.length ≤ 900000) :
    Calls Tryd.prog 48 #[.pointer (some ⟨b, 0, none⟩), .agg #[.int .u64 0, .string s, x], .int .i64 400] w (WrPost w b l0 115 ⟨0, s, []⟩) := by
  obtain ⟨a, d, rfl⟩ := hx
  have HB := Lib.hid ((Below.refl w.heap.size w).alloc (Nat.le_refl _) (.cells #[.int .u64 0, .string s, .slice a 0 d] 38 (0, 0)))
  have hbb := hW.lt
  have HBb := Lib.hid (HB.out.mono (Nat.le_of_lt hbb))
  by_cases h4 : 400 < s.size
  · have hE : Hid (valE 115 ⟨0, s, []⟩ = 3) := Lib.hid (by rw [valE_w0 rfl (by simp)]; simp [h4])
    go_enter Tryd.func48, Tryd.ntmps48
    go_wp2
    go_ret
    exact wr_err (e := 3) hE.out (by decide) HBb.out
  · have hE : Hid (valE 115 ⟨0, s, []⟩ = 0) := Lib.hid (by rw [valE_w0 rfl (by simp)]; simp [h4])
    have hV : Hid (valL 115 ⟨0, s, []⟩ = grpL s.size ++ s.data.toList) := Lib.hid (by unfold valL; simp)
    have HWA := Lib.hid (hW.kept (Kept.of_below HB.out (fun _ => False)) (fun h => h) (fun _ _ h => h))
    have HX := Lib.hid (groups_any b s.size v l0 _ (by omega) hl HWA.out)
    have HW1 := Lib.hid hW
    have HBX := Lib.hid (fun w2 (h : Kept (fun k => k = b ∨ v.ownBlock = some k) (w.alloc (.cells #[.int .u64 0, .string s, .slice a 0 d] 38 (0, 0))) w2) => show w2.cell? ⟨w.heap.size, 1, none⟩ = some (.string s) from
      (h.cell 1 (by simp) (fun e => by
        rcases e with e | e
        · omega
        · have := (HW1.out.row.ge e).2; omega)).trans (by simp))
    have hgl := grpL_len s.size
    have HSZ := Lib.hid (size_data s)
    clear hW
    go_enter Tryd.func48, Tryd.ntmps48
    go_wp2_with fail
    refine HX.out.mono ?_
    rintro e w2 ⟨rfl, v2, hr2, hm2⟩
    have HBN := Lib.hid hm2.kept.size
    have hc1 := HBX.out w2 hm2.kept
    have hf2 := hr2.frozen
    have HF := Lib.hid (HBb.out.trans (wrote_below hm2 HWA.out))
    have HR := Lib.hid hr2
    obtain ⟨n2, hn2⟩ : ∃ n, n = (l0 ++ grpL s.size).length := ⟨_, rfl⟩
    have hn3 : n2 ≤ 900010 := by rw [hn2, List.length_append]; omega
    obtain ⟨s2, d2, rfl⟩ := hr2.row.shape
    rw [← hn2] at hr2 HR
    have hc2 := hr2.cell
    have HN2 := Lib.hid hn2
    have HCL := Lib.hid (fun (w1 w3 : World) (hb : Below w2.heap.size w2 w1) (hm : Kept (fun k => Value.ownBlock (.slice s2 n2 d2) = some k) w1 w3) =>
      (show w3.cell? ⟨b, 0, none⟩ = some (.slice s2 n2 d2) ∧ w3.frozen? ⟨b, 0, none⟩ = false ∧ Kept (fun k => Value.ownBlock (.slice s2 n2 d2) = some k) w2 w3 from by
        have hk := (Kept.of_below hb _).trans hm
        have hne : ¬ Value.ownBlock (.slice s2 n2 d2) = some b := fun e => by have := (HR.out.row.ge e).1; omega
        exact ⟨(hk.cell 0 HR.out.lt hne).trans HR.out.cell, (hk.frozen 0 HR.out.lt hne).trans HR.out.frozen, hk⟩))
    have HBR := Lib.hid (Below.refl w2.heap.size w2)
    have hlt2 := HR.out.lt
    clear hm2 hr2 hn2
    go_wp2_with fail
    go_region_law (obtain ⟨v3, w3, hrun, hrow3, hk3⟩ := run_append_str (ty := 22) (W := w2.drew) s (HR.out.row.kept (Kept.of_below (below_drew HBR.out) (fun _ => False)) (fun _ _ h => h)) (by rw [← HN2.out]; omega) (by show b + 1 ≤ w2.heap.size; omega); obtain ⟨a3, m3, d3, rfl⟩ := hrow3.shapeM; refine step_append_run (by rfl) _ _ _ _ (by rfl) _ _ (.slice a3 m3 d3) w3 (by rfl) (by rfl) hrun ?_; have hc3 := (HCL.out _ _ (below_drew HBR.out) hk3).1; have hf3 := (HCL.out _ _ (below_drew HBR.out) hk3).2.1; have HK3 := Lib.hid (HCL.out _ _ (below_drew HBR.out) hk3).2.2; have HR3 := Lib.hid hrow3; clear hrow3 hk3 hrun)
    all_goals
      go_wp2
      go_ret
      have hs3 := store_row HR.out HK3.out HR3.out
      exact wr_post hE.out hV.out HW1.out (by rw [← List.append_assoc]; exact hs3.1) (HF.out.trans hs3.2)
end Go.Proofs.YtnocmkjaifjgfaaDoor.R
