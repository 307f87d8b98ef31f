/- The reference's value: groups, strings, lists. -/
import Derived.Test.YtnocmkjaifjgfaaRRefC
namespace Go.Proofs.Ytnocmkjaifjgfaa.R
open Go.RowKit

noncomputable def appS (ty : TypeId) (xs : Array Value) : Sem Value := Builtin.append_ #[25, 9] ty xs
theorem appS_eq (ty : TypeId) (xs : Array Value) : Builtin.append_ #[25, 9] ty xs = appS ty xs := rfl

set_option maxHeartbeats 4000000 in
theorem value_v (rv : Rv) (x : Value) (w : World) (hn : rv.num < 18446744073709551616) (hx : ∃ a d, x = .slice a rv.list.length d) :
    Calls Try.prog 22 #[.int .u8 118, .agg #[.int .u64 rv.num, .string rv.str, x]] w (ValPost w 118 rv) := by
  obtain ⟨a, d, rfl⟩ := hx
  have HB := Lib.hid ((Below.refl w.heap.size w).alloc (Nat.le_refl _) (.cells #[.int .u64 rv.num, .string rv.str, .slice a rv.list.length d] 49 (0, 0)))
  by_cases hs : 0 < rv.str.size
  · have h0 := str_ne' hs
    have hE : Hid (valE 118 rv = 2) := Lib.hid (valE_2 (.inl ⟨by decide, hs⟩))
    go_enter Try.func22, Try.ntmps22
    go_wp2_with fail
    go_ret2
    exact val_no hE.out (by decide) HB.out
  have h0 := str_e' (s := rv.str) (by omega)
  by_cases hl : 0 < rv.list.length
  · have hE : Hid (valE 118 rv = 2) := Lib.hid (valE_2 (.inr (.inl ⟨by decide, hl⟩)))
    go_enter Try.func22, Try.ntmps22
    go_wp2_with fail
    go_ret2
    exact val_no hE.out (by decide) HB.out
  obtain ⟨n, s, l⟩ := rv
  obtain rfl := str_eq0 (s := s) hs
  obtain rfl := list_eq0 (l := l) hl
  have hE : Hid (valE 118 ⟨n, ⟨#[]⟩, []⟩ = 0) := Lib.hid (by rw [valE_w0 rfl (by simp [size0])]; simp [size0])
  have HVV : Hid (valL 118 ⟨n, ⟨#[]⟩, []⟩ = grpL n) := Lib.hid (by unfold valL; simp)
  have HWI := Lib.hid (fun W => width_any 118 W)
  rw [show widV 118 = 0 from rfl] at HWI
  have HGR := Lib.hid (fun W => refGroups_any n W hn)
  simp only [] at hn
  clear hs hl h0
  go_enter Try.func22, Try.ntmps22
  go_wp2_with fail
  refine (HWI.out _).mono ?_
  rintro e w2 ⟨rfl, rfl⟩
  go_wp2_with fail
  go_quiet (fail)
  go_wp2_with fail
  refine (HGR.out _).mono ?_
  rintro e w3 ⟨v, rfl, hr, hb⟩
  have HB3 := Lib.hid ((below_drewN HB.out _).trans (hb.mono (below_drewN HB.out _).size))
  have HR3 := Lib.hid (hr.mono (base' := w.heap.size) (below_drewN HB.out _).size)
  clear hr hb
  go_wp2_with fail
  go_ret2
  exact val_yes hE.out HVV.out HR3.out HB3.out

attribute [local go_sem ↓] appS_eq appB_eq
set_option maxHeartbeats 4000000 in
theorem value_s (rv : Rv) (x : Value) (w : World) (hx : ∃ a d, x = .slice a rv.list.length d) :
    Calls Try.prog 22 #[.int .u8 115, .agg #[.int .u64 rv.num, .string rv.str, x]] w (ValPost w 115 rv) := by
  obtain ⟨a, d, rfl⟩ := hx
  have HB := Lib.hid ((Below.refl w.heap.size w).alloc (Nat.le_refl _) (.cells #[.int .u64 rv.num, .string rv.str, .slice a rv.list.length d] 49 (0, 0)))
  by_cases hl : 0 < rv.list.length
  · have hE : Hid (valE 115 rv = 2) := Lib.hid (valE_2 (.inr (.inl ⟨by decide, hl⟩)))
    go_enter Try.func22, Try.ntmps22
    go_wp2_with fail
    go_ret2
    exact val_no hE.out (by decide) HB.out
  by_cases hn : 0 < rv.num
  · have h0 := num_ne hn
    have h1 : rv.list.length = 0 := by omega
    have hE : Hid (valE 115 rv = 2) := Lib.hid (valE_2 (.inr (.inr ⟨.inl rfl, hn⟩)))
    have HB' : Hid (Below w.heap.size w (w.alloc (.cells #[.int .u64 rv.num, .string rv.str, .slice a 0 d] 49 (0, 0)))) := Lib.hid ((Below.refl _ w).alloc (Nat.le_refl _) _)
    have n0 : ((rv.num : Int) != 0) = true := by simp; omega
    go_enter Try.func22, Try.ntmps22
    go_wp2_with fail
    go_ret2
    exact val_no hE.out (by decide) HB'.out
  obtain ⟨n, s, l⟩ := rv
  obtain rfl := list_eq0 (l := l) hl
  obtain rfl : n = 0 := by simp at hn; exact hn
  have HWI := Lib.hid (fun W => width_any 115 W)
  rw [show widV 115 = 0 from rfl] at HWI
  have HGR := Lib.hid (fun W (h : s.size < 18446744073709551616) => refGroups_any s.size W h)
  clear hl hn
  by_cases h4 : 400 < s.size
  · have d4 : decide ((400 : Int) < s.size) = true := decide_eq_true (by omega)
    have hE : Hid (valE 115 ⟨0, s, []⟩ = 3) := Lib.hid (by rw [valE_w0 rfl (by simp)]; simp [h4])
    go_enter Try.func22, Try.ntmps22
    go_wp2_with fail
    refine (HWI.out _).mono ?_
    rintro e w2 ⟨rfl, rfl⟩
    go_wp2_with fail
    go_quiet (fail)
    go_wp2_with fail
    go_ret2
    exact val_no (q := 3) hE.out (by decide) (below_drewN HB.out _)
  have d4 : decide ((400 : Int) < s.size) = false := decide_eq_false (by omega)
  have hE : Hid (valE 115 ⟨0, s, []⟩ = 0) := Lib.hid (by rw [valE_w0 rfl (by simp)]; simp [h4])
  have HVV : Hid (valL 115 ⟨0, s, []⟩ = grpL s.size ++ s.data.toList) := Lib.hid (by unfold valL; simp)
  have hs4 : s.size ≤ 400 := by omega
  have hgl := grpL_len s.size
  have hsw : IntKind.u64.wrap (s.size : Int) = s.size := by rw [IntKind.wrap_u64]; omega
  go_enter Try.func22, Try.ntmps22
  go_wp2_with fail
  refine (HWI.out _).mono ?_
  rintro e w2 ⟨rfl, rfl⟩
  go_wp2_with fail
  go_quiet (fail)
  go_wp2_with fail
  have HB' := Lib.hid (below_drewN HB.out nq)
  generalize hW2 : (w.alloc (.cells #[.int .u64 0, .string s, .slice a 0 d] 49 (0, 0))).drewN nq = W2
  have HBW : Hid (Below w.heap.size w W2) := Lib.hid (by rw [← hW2]; exact HB'.out)
  have hlt : w.heap.size < W2.heap.size := by rw [← hW2]; simp
  have hc1 : W2.cell? ⟨w.heap.size, 1, none⟩ = some (.string s) := by rw [← hW2]; simp
  have HS := Lib.hid (size_data s)
  clear hW2 HB' HB
  have HCB := Lib.hid (fun (W : World) (h : Below W2.heap.size W2 W) => show W.cell? ⟨w.heap.size, 1, none⟩ = some (.string s) from (h.cell (p := ⟨w.heap.size, 1, none⟩) hlt).trans hc1)
  have hc1d : W2.drew.cell? ⟨w.heap.size, 1, none⟩ = some (.string s) := HCB.out _ (below_drew (Below.refl _ _))
  go_region_held3 (fun W' => W'.cell? ⟨w.heap.size, 1, none⟩ = some (.string s)) (first | assumption | exact hc1d)
    ((go_at_call 27; (with_reducible refine (HGR.out _ (by omega)).mono ?_); rintro e w3 ⟨v, rfl, hr, hb⟩; have hdz : W2.drew.heap.size = W2.heap.size := rfl; have hc3 : w3.cell? ⟨w.heap.size, 1, none⟩ = some (.string s) := HCB.out _ ((below_drew (Below.refl W2.heap.size W2)).trans hb); obtain ⟨v4, w4, hr4, hrow4, hk4⟩ := run_append_str (ty := 25) s hr (by omega) hb.size; have hr4' : Sem.run Try.prog (appS 25 #[v, .string s]) w3 = .ok v4 w4 := hr4; have hc4 : w4.cell? ⟨w.heap.size, 1, none⟩ = some (.string s) := (hk4.cell (b := w.heap.size) 1 (by have := hb.size; omega) (fun e => by have := (hr.ge e).1; omega)).trans hc3; clear hr4))
  all_goals
    have hdz2 : W2.drew.heap.size = W2.heap.size := rfl
    have HB3 := Lib.hid ((HBW.out.trans (below_drew (Below.refl w.heap.size W2))).trans (hb.mono (by omega)))
    have HB4 := Lib.hid (HB3.out.trans (hk4.toBelow HB3.out.size (fun i hi e => by have := (hr.ge e).1; omega)))
    have HR4 := Lib.hid (hrow4.mono (base' := w.heap.size) (by omega))
    clear hr hb hk4 hrow4 hr4'
    go_wp2_with fail
    go_ret2
    exact val_yes hE.out HVV.out HR4.out HB4.out
end Go.Proofs.Ytnocmkjaifjgfaa.R
