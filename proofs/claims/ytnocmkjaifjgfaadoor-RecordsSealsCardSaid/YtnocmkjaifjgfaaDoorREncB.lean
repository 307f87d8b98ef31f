/- (*writer).fixed, grouped, str, list. -/
import Derived.Test.YtnocmkjaifjgfaaDoorREncA
import Derived.Deep.RegionWith
import Derived.Deep.RegionHeld3
import Derived.Deep.DrawnRows
import Derived.StillTailTactics
namespace Go.Proofs.YtnocmkjaifjgfaaDoor.R
open Go.RowKit

/-- What a method of the writer leaves: the kind's letter c, the value rv. -/
def WrPost (w : World) (b : Nat) (l0 : List UInt8) (c : Nat) (rv : Rv) (e : Ending) (w' : World) : Prop :=
  e = .returned (.int .i64 (valE c rv : Nat)) ∧ Below b w w' ∧ (valE c rv = 0 → ∃ v', WrAt w' b v' (l0 ++ valL c rv))

theorem wrote_below {w w' : World} {b : Nat} {v v' : Value} {l0 : List UInt8} (h2 : Wrote w b v v' w') (h0 : WrAt w b v l0) : Below b w w' :=
  h2.kept.toBelow (Nat.le_of_lt h0.lt) (fun k hk e => by
    rcases e with e | e
    · omega
    · have := (h0.row.ge e).1; omega)
theorem wr_post {w w' : World} {b c : Nat} {rv : Rv} {v v' : Value} {l0 l : List UInt8} (hE : valE c rv = 0) (hV : valL c rv = l) (h0 : WrAt w b v l0) (h1 : WrAt w' b v' (l0 ++ l)) (h2 : Below b w w') : WrPost w b l0 c rv (.returned (.int .i64 0)) w' :=
  ⟨by rw [hE]; rfl, h2, fun _ => ⟨v', by rw [hV]; exact h1⟩⟩
theorem size_data (s : ByteArray) : s.data.toList.length = s.size := by simp
theorem size0 : ByteArray.size ⟨#[]⟩ = 0 := rfl
theorem Row.shapeN {w : World} {base n : Nat} {v : Value} {l0 l : List UInt8} (h : Row w base v (l0 ++ l)) (hn : l.length = n) : ∃ a d, v = .slice a (l0.length + n) d := by
  obtain ⟨a, d, e⟩ := h.shape
  exact ⟨a, d, by rw [e, List.length_append, hn]⟩
theorem str_e' {s : ByteArray} (h : s.size = 0) : s.toList.isEmpty = true := by
  rw [Lib.toList_data, List.isEmpty_iff]
  apply List.eq_nil_of_length_eq_zero; rw [size_data]; exact h
theorem str_ne' {s : ByteArray} (h : 0 < s.size) : s.toList.isEmpty = false := by
  rw [Lib.toList_data]
  cases e : s.data.toList with
  | nil => have := size_data s
           rw [e] at this; simp at this; omega
  | cons _ _ => rfl

set_option maxHeartbeats 1000000 in
theorem fixed_no (b k c : Nat) (rv : Rv) (x : Value) (l0 : List UInt8) (w : World) (hb : b ≤ w.heap.size) (hx : ∃ a d, x = .slice a rv.list.length d) (hk : widV c = k) (hk0 : 0 < k) (hbad : 0 < rv.str.size ∨ 0 < rv.list.length) :
    Calls Tryd.prog 44 #[.pointer (some ⟨b, 0, none⟩), .agg #[.int .u64 rv.num, .string rv.str, x], .int .i64 k] w (WrPost w b l0 c rv) := by
  obtain ⟨a, d, rfl⟩ := hx
  have hE : Hid (valE c rv = 2) := Lib.hid (by
    unfold valE
    have hc : c ≠ 115 ∧ c ≠ 108 := by
      rcases wid_cases c with h | ⟨h, _⟩ | ⟨h, _⟩ | ⟨h, _⟩ | ⟨h, _⟩ <;> omega
    have : badF c rv = true := by unfold badF; simp; omega
    rw [if_pos this])
  have HB := Lib.hid ((Below.refl b w).alloc hb (.cells #[.int .u64 rv.num, .string rv.str, .slice a rv.list.length d] 38 (0, 0)))
  by_cases hs : 0 < rv.str.size
  · have h0 := str_ne' hs
    go_enter Tryd.func44, Tryd.ntmps44
    go_wp2
    go_ret
    exact ⟨ret_int (by rw [hE.out]; rfl), HB.out, fun h => by rw [hE.out] at h; omega⟩
  · have h1 := str_e' (s := rv.str) (by omega)
    have h2 : 0 < rv.list.length := by omega
    go_enter Tryd.func44, Tryd.ntmps44
    go_wp2
    go_ret
    exact ⟨ret_int (by rw [hE.out]; rfl), HB.out, fun h => by rw [hE.out] at h; omega⟩


set_option maxHeartbeats 1000000 in
theorem fixed_1 (b : Nat) (v : Value) (n : Nat) (x : Value) (l0 : List UInt8) (w : World) (hn : n < 18446744073709551616) (hx : ∃ a d, x = .slice a 0 d) (hW : WrAt w b v l0) (hl : l0.length ≤ 900000) :
    Calls Tryd.prog 44 #[.pointer (some ⟨b, 0, none⟩), .agg #[.int .u64 n, .string ⟨#[]⟩, x], .int .i64 1] w (WrPost w b l0 98 ⟨n, ⟨#[]⟩, []⟩) := by
  obtain ⟨a, d, rfl⟩ := hx
  by_cases hr : n < 256
  · have hE : Hid (valE 98 ⟨n, ⟨#[]⟩, []⟩ = 0) := Lib.hid (by unfold valE badF widV; simp [size0]; omega)
    have hd : ((n : Int) / 256 == 0) = true := by simp; omega
    have HV : Hid (valL 98 ⟨n, ⟨#[]⟩, []⟩ = lowL n 1) := Lib.hid (by unfold valL widV; simp)
    have HB := Lib.hid ((Below.refl w.heap.size w).alloc (Nat.le_refl _) (.cells #[.int .u64 n, .string ⟨#[]⟩, .slice a 0 d] 38 (0, 0)))
    have hbb := hW.lt
    have HW1 := Lib.hid hW
    obtain ⟨s0, d0, rfl⟩ := HW1.out.row.shape
    have hc := (bcell HB.out b 0 hbb).trans hW.cell
    have HCL := Lib.hid (fun (w1 w2 : World) (v2 : Value) (hb : Below w.heap.size w w1) (hm : Moved w1 (.slice s0 l0.length d0) v2 w2) =>
      (show w2.cell? ⟨b, 0, none⟩ = some (.slice s0 l0.length d0) ∧ w2.frozen? ⟨b, 0, none⟩ = false from by
        have hk : Kept _ w w2 := (Kept.of_below hb _).trans hm.kept
        have hne : ¬ Value.ownBlock (.slice s0 l0.length d0) = some b := fun e => by have := (HW1.out.row.ge e).1; omega
        exact ⟨(hk.cell 0 hbb hne).trans HW1.out.cell, (hk.frozen 0 hbb hne).trans HW1.out.frozen⟩))
    have HX := Lib.hid (fun (w1 : World) (hb : Below w.heap.size w w1) => appendNumber_any (b + 1) n 1 (.slice s0 l0.length d0) l0 w1 hn (by omega) hl (HW1.out.row.kept (Kept.of_below hb (fun _ => False)) (fun _ _ h => h)) (by have := hb.size; omega))
    clear hW
    go_enter Tryd.func44, Tryd.ntmps44
    go_wp2
    go_region_with (go_at_call 26; refine (HX.out _ (by first | exact HB.out | exact below_drew HB.out | exact below_drewN HB.out _)).mono ?_; rintro e w2 ⟨v2, rfl, hr2, hm2⟩; obtain ⟨a2, c2, rfl⟩ := hr2.shapeN (lowL_len 1 n); have hc2 := (HCL.out _ _ _ (by first | exact HB.out | exact below_drew HB.out | exact below_drewN HB.out _) hm2).1; have hf2 := (HCL.out _ _ _ (by first | exact HB.out | exact below_drew HB.out | exact below_drewN HB.out _) hm2).2; have HS := Lib.hid (HW1.out.stored (by first | exact HB.out | exact below_drew HB.out | exact below_drewN HB.out _) hm2 hr2); clear hr2 hm2)
    all_goals
      go_wp2
      go_ret
      exact wr_post hE.out HV.out HW1.out HS.out.1 (wrote_below HS.out.2 HW1.out)
  · have hE : Hid (valE 98 ⟨n, ⟨#[]⟩, []⟩ = 7) := Lib.hid (by unfold valE badF widV; simp [size0]; omega)
    have hd : ((n : Int) / 256 == 0) = false := by simp; omega
    have HB := Lib.hid ((Below.refl b w).alloc (Nat.le_of_lt hW.lt) (.cells #[.int .u64 n, .string ⟨#[]⟩, .slice a 0 d] 38 (0, 0)))
    go_enter Tryd.func44, Tryd.ntmps44
    go_wp2
    go_ret
    exact ⟨ret_int (by rw [hE.out]; rfl), HB.out, fun h => by rw [hE.out] at h; omega⟩

set_option maxHeartbeats 1000000 in
theorem fixed_2 (b : Nat) (v : Value) (n : Nat) (x : Value) (l0 : List UInt8) (w : World) (hn : n < 18446744073709551616) (hx : ∃ a d, x = .slice a 0 d) (hW : WrAt w b v l0) (hl : l0.length ≤ 900000) :
    Calls Tryd.prog 44 #[.pointer (some ⟨b, 0, none⟩), .agg #[.int .u64 n, .string ⟨#[]⟩, x], .int .i64 2] w (WrPost w b l0 119 ⟨n, ⟨#[]⟩, []⟩) := by
  obtain ⟨a, d, rfl⟩ := hx
  by_cases hr : n < 65536
  · have hE : Hid (valE 119 ⟨n, ⟨#[]⟩, []⟩ = 0) := Lib.hid (by unfold valE badF widV; simp [size0]; omega)
    have hd : ((n : Int) / 65536 == 0) = true := by simp; omega
    have HV : Hid (valL 119 ⟨n, ⟨#[]⟩, []⟩ = lowL n 2) := Lib.hid (by unfold valL widV; simp)
    have HB := Lib.hid ((Below.refl w.heap.size w).alloc (Nat.le_refl _) (.cells #[.int .u64 n, .string ⟨#[]⟩, .slice a 0 d] 38 (0, 0)))
    have hbb := hW.lt
    have HW1 := Lib.hid hW
    obtain ⟨s0, d0, rfl⟩ := HW1.out.row.shape
    have hc := (bcell HB.out b 0 hbb).trans hW.cell
    have HCL := Lib.hid (fun (w1 w2 : World) (v2 : Value) (hb : Below w.heap.size w w1) (hm : Moved w1 (.slice s0 l0.length d0) v2 w2) =>
      (show w2.cell? ⟨b, 0, none⟩ = some (.slice s0 l0.length d0) ∧ w2.frozen? ⟨b, 0, none⟩ = false from by
        have hk : Kept _ w w2 := (Kept.of_below hb _).trans hm.kept
        have hne : ¬ Value.ownBlock (.slice s0 l0.length d0) = some b := fun e => by have := (HW1.out.row.ge e).1; omega
        exact ⟨(hk.cell 0 hbb hne).trans HW1.out.cell, (hk.frozen 0 hbb hne).trans HW1.out.frozen⟩))
    have HX := Lib.hid (fun (w1 : World) (hb : Below w.heap.size w w1) => appendNumber_any (b + 1) n 2 (.slice s0 l0.length d0) l0 w1 hn (by omega) hl (HW1.out.row.kept (Kept.of_below hb (fun _ => False)) (fun _ _ h => h)) (by have := hb.size; omega))
    clear hW
    go_enter Tryd.func44, Tryd.ntmps44
    go_wp2
    go_region_with (go_at_call 26; refine (HX.out _ (by first | exact HB.out | exact below_drew HB.out | exact below_drewN HB.out _)).mono ?_; rintro e w2 ⟨v2, rfl, hr2, hm2⟩; obtain ⟨a2, c2, rfl⟩ := hr2.shapeN (lowL_len 2 n); have hc2 := (HCL.out _ _ _ (by first | exact HB.out | exact below_drew HB.out | exact below_drewN HB.out _) hm2).1; have hf2 := (HCL.out _ _ _ (by first | exact HB.out | exact below_drew HB.out | exact below_drewN HB.out _) hm2).2; have HS := Lib.hid (HW1.out.stored (by first | exact HB.out | exact below_drew HB.out | exact below_drewN HB.out _) hm2 hr2); clear hr2 hm2)
    all_goals
      go_wp2
      go_ret
      exact wr_post hE.out HV.out HW1.out HS.out.1 (wrote_below HS.out.2 HW1.out)
  · have hE : Hid (valE 119 ⟨n, ⟨#[]⟩, []⟩ = 7) := Lib.hid (by unfold valE badF widV; simp [size0]; omega)
    have hd : ((n : Int) / 65536 == 0) = false := by simp; omega
    have HB := Lib.hid ((Below.refl b w).alloc (Nat.le_of_lt hW.lt) (.cells #[.int .u64 n, .string ⟨#[]⟩, .slice a 0 d] 38 (0, 0)))
    go_enter Tryd.func44, Tryd.ntmps44
    go_wp2
    go_ret
    exact ⟨ret_int (by rw [hE.out]; rfl), HB.out, fun h => by rw [hE.out] at h; omega⟩

set_option maxHeartbeats 1000000 in
theorem fixed_4 (b : Nat) (v : Value) (n : Nat) (x : Value) (l0 : List UInt8) (w : World) (hn : n < 18446744073709551616) (hx : ∃ a d, x = .slice a 0 d) (hW : WrAt w b v l0) (hl : l0.length ≤ 900000) :
    Calls Tryd.prog 44 #[.pointer (some ⟨b, 0, none⟩), .agg #[.int .u64 n, .string ⟨#[]⟩, x], .int .i64 4] w (WrPost w b l0 100 ⟨n, ⟨#[]⟩, []⟩) := by
  obtain ⟨a, d, rfl⟩ := hx
  by_cases hr : n < 4294967296
  · have hE : Hid (valE 100 ⟨n, ⟨#[]⟩, []⟩ = 0) := Lib.hid (by unfold valE badF widV; simp [size0]; omega)
    have hd : ((n : Int) / 4294967296 == 0) = true := by simp; omega
    have HV : Hid (valL 100 ⟨n, ⟨#[]⟩, []⟩ = lowL n 4) := Lib.hid (by unfold valL widV; simp)
    have HB := Lib.hid ((Below.refl w.heap.size w).alloc (Nat.le_refl _) (.cells #[.int .u64 n, .string ⟨#[]⟩, .slice a 0 d] 38 (0, 0)))
    have hbb := hW.lt
    have HW1 := Lib.hid hW
    obtain ⟨s0, d0, rfl⟩ := HW1.out.row.shape
    have hc := (bcell HB.out b 0 hbb).trans hW.cell
    have HCL := Lib.hid (fun (w1 w2 : World) (v2 : Value) (hb : Below w.heap.size w w1) (hm : Moved w1 (.slice s0 l0.length d0) v2 w2) =>
      (show w2.cell? ⟨b, 0, none⟩ = some (.slice s0 l0.length d0) ∧ w2.frozen? ⟨b, 0, none⟩ = false from by
        have hk : Kept _ w w2 := (Kept.of_below hb _).trans hm.kept
        have hne : ¬ Value.ownBlock (.slice s0 l0.length d0) = some b := fun e => by have := (HW1.out.row.ge e).1; omega
        exact ⟨(hk.cell 0 hbb hne).trans HW1.out.cell, (hk.frozen 0 hbb hne).trans HW1.out.frozen⟩))
    have HX := Lib.hid (fun (w1 : World) (hb : Below w.heap.size w w1) => appendNumber_any (b + 1) n 4 (.slice s0 l0.length d0) l0 w1 hn (by omega) hl (HW1.out.row.kept (Kept.of_below hb (fun _ => False)) (fun _ _ h => h)) (by have := hb.size; omega))
    clear hW
    go_enter Tryd.func44, Tryd.ntmps44
    go_wp2
    go_region_with (go_at_call 26; refine (HX.out _ (by first | exact HB.out | exact below_drew HB.out | exact below_drewN HB.out _)).mono ?_; rintro e w2 ⟨v2, rfl, hr2, hm2⟩; obtain ⟨a2, c2, rfl⟩ := hr2.shapeN (lowL_len 4 n); have hc2 := (HCL.out _ _ _ (by first | exact HB.out | exact below_drew HB.out | exact below_drewN HB.out _) hm2).1; have hf2 := (HCL.out _ _ _ (by first | exact HB.out | exact below_drew HB.out | exact below_drewN HB.out _) hm2).2; have HS := Lib.hid (HW1.out.stored (by first | exact HB.out | exact below_drew HB.out | exact below_drewN HB.out _) hm2 hr2); clear hr2 hm2)
    all_goals
      go_wp2
      go_ret
      exact wr_post hE.out HV.out HW1.out HS.out.1 (wrote_below HS.out.2 HW1.out)
  · have hE : Hid (valE 100 ⟨n, ⟨#[]⟩, []⟩ = 7) := Lib.hid (by unfold valE badF widV; simp [size0]; omega)
    have hd : ((n : Int) / 4294967296 == 0) = false := by simp; omega
    have HB := Lib.hid ((Below.refl b w).alloc (Nat.le_of_lt hW.lt) (.cells #[.int .u64 n, .string ⟨#[]⟩, .slice a 0 d] 38 (0, 0)))
    go_enter Tryd.func44, Tryd.ntmps44
    go_wp2
    go_ret
    exact ⟨ret_int (by rw [hE.out]; rfl), HB.out, fun h => by rw [hE.out] at h; omega⟩

set_option maxHeartbeats 1000000 in
theorem fixed_8 (b : Nat) (v : Value) (n : Nat) (x : Value) (l0 : List UInt8) (w : World) (hn : n < 18446744073709551616) (hx : ∃ a d, x = .slice a 0 d) (hW : WrAt w b v l0) (hl : l0.length ≤ 900000) :
    Calls Tryd.prog 44 #[.pointer (some ⟨b, 0, none⟩), .agg #[.int .u64 n, .string ⟨#[]⟩, x], .int .i64 8] w (WrPost w b l0 113 ⟨n, ⟨#[]⟩, []⟩) := by
  obtain ⟨a, d, rfl⟩ := hx
  have hE : Hid (valE 113 ⟨n, ⟨#[]⟩, []⟩ = 0) := Lib.hid (by unfold valE badF widV; simp [size0])
  · skip
    have HV : Hid (valL 113 ⟨n, ⟨#[]⟩, []⟩ = lowL n 8) := Lib.hid (by unfold valL widV; simp)
    have HB := Lib.hid ((Below.refl w.heap.size w).alloc (Nat.le_refl _) (.cells #[.int .u64 n, .string ⟨#[]⟩, .slice a 0 d] 38 (0, 0)))
    have hbb := hW.lt
    have HW1 := Lib.hid hW
    obtain ⟨s0, d0, rfl⟩ := HW1.out.row.shape
    have hc := (bcell HB.out b 0 hbb).trans hW.cell
    have HCL := Lib.hid (fun (w1 w2 : World) (v2 : Value) (hb : Below w.heap.size w w1) (hm : Moved w1 (.slice s0 l0.length d0) v2 w2) =>
      (show w2.cell? ⟨b, 0, none⟩ = some (.slice s0 l0.length d0) ∧ w2.frozen? ⟨b, 0, none⟩ = false from by
        have hk : Kept _ w w2 := (Kept.of_below hb _).trans hm.kept
        have hne : ¬ Value.ownBlock (.slice s0 l0.length d0) = some b := fun e => by have := (HW1.out.row.ge e).1; omega
        exact ⟨(hk.cell 0 hbb hne).trans HW1.out.cell, (hk.frozen 0 hbb hne).trans HW1.out.frozen⟩))
    have HX := Lib.hid (fun (w1 : World) (hb : Below w.heap.size w w1) => appendNumber_any (b + 1) n 8 (.slice s0 l0.length d0) l0 w1 hn (by omega) hl (HW1.out.row.kept (Kept.of_below hb (fun _ => False)) (fun _ _ h => h)) (by have := hb.size; omega))
    clear hW
    go_enter Tryd.func44, Tryd.ntmps44
    go_wp2
    go_region_with (go_at_call 26; refine (HX.out _ (by first | exact HB.out | exact below_drew HB.out | exact below_drewN HB.out _)).mono ?_; rintro e w2 ⟨v2, rfl, hr2, hm2⟩; obtain ⟨a2, c2, rfl⟩ := hr2.shapeN (lowL_len 8 n); have hc2 := (HCL.out _ _ _ (by first | exact HB.out | exact below_drew HB.out | exact below_drewN HB.out _) hm2).1; have hf2 := (HCL.out _ _ _ (by first | exact HB.out | exact below_drew HB.out | exact below_drewN HB.out _) hm2).2; have HS := Lib.hid (HW1.out.stored (by first | exact HB.out | exact below_drew HB.out | exact below_drewN HB.out _) hm2 hr2); clear hr2 hm2)
    all_goals
      go_wp2
      go_ret
      exact wr_post hE.out HV.out HW1.out HS.out.1 (wrote_below HS.out.2 HW1.out)
end Go.Proofs.YtnocmkjaifjgfaaDoor.R
