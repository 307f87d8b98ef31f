/- (*writer).list. -/
import Derived.Test.YtnocmkjaifjgfaaDoorREncC
namespace Go.Proofs.YtnocmkjaifjgfaaDoor.R
open Go.RowKit

theorem valE_l {c : Nat} {v : Rv} (hw : widV c = 0) (h : ¬ ((c ≠ 115 ∧ 0 < v.str.size) ∨ (c ≠ 108 ∧ 0 < v.list.length) ∨ ((c = 115 ∨ c = 108) ∧ 0 < v.num))) (h2 : ¬ (400 < v.str.size ∨ 60 < v.list.length)) : valE c v = 0 := by
  rw [valE_w0 hw h, if_neg h2]

set_option maxHeartbeats 1000000 in
theorem list_no (b : Nat) (rv : Rv) (x : Value) (l0 : List UInt8) (w : World) (hb : b ≤ w.heap.size) (hx : ∃ a d, x = .slice a rv.list.length d) (hbad : 0 < rv.num ∨ 0 < rv.str.size) :
    Calls Tryd.prog 50 #[.pointer (some ⟨b, 0, none⟩), .agg #[.int .u64 rv.num, .string rv.str, x], .int .i64 60] w (WrPost w b l0 108 rv) := by
  obtain ⟨a, d, rfl⟩ := hx
  have hE : Hid (valE 108 rv = 2) := Lib.hid (valE_2 (by omega))
  by_cases hs : 0 < rv.num
  · have h0 := num_ne hs
    have HB := Lib.hid ((Below.refl b w).alloc hb (.cells #[.int .u64 rv.num, .string rv.str, .slice a rv.list.length d] 38 (0, 0)))
    go_enter Tryd.func50, Tryd.ntmps50
    go_wp2
    go_ret
    exact wr_err (e := 2) hE.out (by decide) HB.out
  · have h1 : rv.num = 0 := by omega
    have h2 := str_ne' (s := rv.str) (by omega)
    have HB2 : Hid (Below b w (w.alloc (.cells #[.int .u64 0, .string rv.str, .slice a rv.list.length d] 38 (0, 0)))) := Lib.hid ((Below.refl b w).alloc hb _)
    go_enter Tryd.func50, Tryd.ntmps50
    go_wp2
    go_ret
    exact wr_err (e := 2) hE.out (by decide) HB2.out

set_option maxHeartbeats 2000000 in
theorem list_yes (W0 : World) (b : Nat) (v : Value) (l : List Nat) (x : Value) (l0 : List UInt8) (w : World) (hx : NumsAt W0 x l) (hlt : ∀ y ∈ l, y < 4294967296) (hW0 : W0.heap.size ≤ b) (hB0 : Below W0.heap.size W0 w) (hW : WrAt w b v l0) (hl : l0.length ≤ 800000) :
    Calls Tryd.prog 50 #[.pointer (some ⟨b, 0, none⟩), .agg #[.int .u64 0, .string ⟨#[]⟩, x], .int .i64 60] w (WrPost w b l0 108 ⟨0, ⟨#[]⟩, l⟩) := by
  have HNA := Lib.hid hx
  obtain ⟨a, d, rfl⟩ := hx.shape
  have HB := Lib.hid ((Below.refl w.heap.size w).alloc (Nat.le_refl _) (.cells #[.int .u64 0, .string ⟨#[]⟩, .slice a l.length d] 38 (0, 0)))
  have hbb := hW.lt
  have HBb := Lib.hid (HB.out.mono (Nat.le_of_lt hbb))
  clear hx
  by_cases h4 : 60 < l.length
  · have hE : Hid (valE 108 ⟨0, ⟨#[]⟩, l⟩ = 3) := Lib.hid (by rw [valE_w0 rfl (by simp [size0])]; simp [h4])
    have d4 : decide ((60 : Int) < l.length) = true := decide_eq_true (by omega)
    clear h4
    go_enter Tryd.func50, Tryd.ntmps50
    go_wp2
    go_ret
    exact wr_err (e := 3) hE.out (by decide) HBb.out
  · have hE : Hid (valE 108 ⟨0, ⟨#[]⟩, l⟩ = 0) := Lib.hid (valE_l rfl (by simp [size0]) (by simp [size0]; omega))
    have hV : Hid (valL 108 ⟨0, ⟨#[]⟩, l⟩ = grpL l.length ++ lowsL l) := Lib.hid (by unfold valL; simp)
    have d4 : decide ((60 : Int) < l.length) = false := decide_eq_false (by omega)
    have HWA := Lib.hid (hW.kept (Kept.of_below HB.out (fun _ => False)) (fun h => h) (fun _ _ h => h))
    have HX := Lib.hid (groups_any b l.length v l0 _ (by omega) (by omega) HWA.out)
    have HW1 := Lib.hid hW
    have HBX := Lib.hid (fun w2 (h : Kept (fun k => k = b ∨ v.ownBlock = some k) (w.alloc (.cells #[.int .u64 0, .string ⟨#[]⟩, .slice a l.length d] 38 (0, 0))) w2) => show w2.cell? ⟨w.heap.size, 2, none⟩ = some (.slice a l.length d) from
      (h.cell 2 (by simp) (fun e => by
        rcases e with e | e
        · omega
        · have := (HW1.out.row.ge e).2; omega)).trans (by simp))
    have hgl := grpL_len l.length
    clear hW
    go_enter Tryd.func50, Tryd.ntmps50
    go_wp2_with fail
    refine HX.out.mono ?_
    rintro e w2 ⟨rfl, v2, hr2, hm2⟩
    have hc1 := HBX.out w2 hm2.kept
    have HF := Lib.hid (HBb.out.trans (wrote_below hm2 HWA.out))
    have HR := Lib.hid hr2
    clear hm2 hr2
    go_wp2_with fail
    go_loopw [8, 31] (fun _ i wr => ∃ (k : Nat) (r : List UInt8) (s : Value), k ≤ l.length ∧ r.length ≤ l0.length + 10 + 4 * k ∧ i = .int .i64 k ∧ Hid (WrAt wr b s r) ∧ Hid (Below b w wr) ∧ Hid (l0 ++ valL 108 ⟨0, ⟨#[]⟩, l⟩ = r ++ lowsL (l.drop k))) (fun _ i _ => l.length - (intOf i).toNat)
    case atStart => exact ⟨0, _, v2, by omega, by rw [List.length_append]; omega, rfl, HR, HF, Lib.hid (by rw [hV.out, List.append_assoc]; rfl)⟩
    case round =>
      obtain ⟨k, r, s, hk, hrl, rfl, hR, hBw, hEq⟩ := hrel
      clear hc1
      by_cases hkl : k < l.length
      · rcases HNA.out with ⟨a', c', hva, hl0⟩ | ⟨g, i, c', hva, hg, hcs⟩
        · rw [hl0] at hkl; simp at hkl
        · obtain ⟨rfl, rfl⟩ : a = some ⟨g, i, none⟩ ∧ d = c' := by cases hva; exact ⟨rfl, rfl⟩
          have hcl : wr.cell? ⟨g, i + k, none⟩ = some (.int .u32 (l[k] : Nat)) := ((hB0.trans (hBw.out.mono hW0)).cell (p := ⟨g, i + k, none⟩) hg).trans (hcs k hkl)
          have hx32 := hlt l[k] (List.getElem_mem hkl)
          have HE2 := Lib.hid (show l0 ++ valL 108 ⟨0, ⟨#[]⟩, l⟩ = (r ++ lowL l[k] 4) ++ lowsL (l.drop (k + 1)) by
            rw [hEq.out, List.append_assoc, List.drop_eq_getElem_cons hkl]; rfl)
          generalize l[k] = y at *
          have hc := hR.out.cell
          have hfz := hR.out.frozen
          have hbw := hR.out.lt
          have HA := Lib.hid (appendNumber_any (b + 1) y 4 s r wr (by omega) (by omega) (by omega) hR.out.row (by omega))
          have HRR := Lib.hid (Below.refl wr.heap.size wr)
          clear hva hcs hlt
          go_wp2_with fail
          refine HA.out.mono ?_
          rintro e w3 ⟨v3, rfl, hr3, hm3⟩
          obtain ⟨a3, d3, rfl⟩ := hr3.shapeN (lowL_len 4 y)
          have hne : ¬ s.ownBlock = some b := fun e => by have := (hR.out.row.ge e).1; omega
          have hc3 := (hm3.kept.cell 0 hbw hne).trans hc
          have hf3 := (hm3.kept.frozen 0 hbw hne).trans hfz
          have HS := Lib.hid (store_row hR.out hm3.kept hr3)
          clear hr3 hm3 hc hfz hcl
          go_wp2_with fail
          go_roundw
          case rel => exact ⟨k + 1, _, _, by omega, by rw [List.length_append, lowL_len]; omega, by go_num, Lib.hid HS.out.1, Lib.hid (hBw.out.trans HS.out.2), HE2⟩
          case measure => simp [intOf]; omega
      · obtain rfl : k = l.length := by omega
        have HFE := Lib.hid (show WrAt wr b s (l0 ++ valL 108 ⟨0, ⟨#[]⟩, l⟩) by rw [hEq.out, List.drop_length]; simpa [lowsL] using hR.out)
        go_wp2_with fail
        go_ret
        exact wr_post hE.out rfl HW1.out HFE.out hBw.out
theorem list_any (W0 : World) (b : Nat) (v : Value) (rv : Rv) (x : Value) (l0 : List UInt8) (w : World) (hx : NumsAt W0 x rv.list) (hlt : ∀ y ∈ rv.list, y < 4294967296) (hW0 : W0.heap.size ≤ b) (hB0 : Below W0.heap.size W0 w) (hW : WrAt w b v l0) (hl : l0.length ≤ 800000) :
    Calls Tryd.prog 50 #[.pointer (some ⟨b, 0, none⟩), .agg #[.int .u64 rv.num, .string rv.str, x], .int .i64 60] w (WrPost w b l0 108 rv) := by
  by_cases h : 0 < rv.num ∨ 0 < rv.str.size
  · exact list_no b rv x l0 w (Nat.le_of_lt hW.lt) hx.shape h
  · obtain ⟨n, s, l⟩ := rv
    obtain rfl := str_eq0 (s := s) (fun q => h (.inr q))
    obtain rfl : n = 0 := by
      have : ¬ 0 < n := fun q => h (.inl q)
      omega
    exact list_yes W0 b v l x l0 w hx hlt hW0 hB0 hW hl
theorem str_any (b : Nat) (v : Value) (rv : Rv) (x : Value) (l0 : List UInt8) (w : World) (hx : ∃ a d, x = .slice a rv.list.length d) (hW : WrAt w b v l0) (hl : l0.length ≤ 900000) :
    Calls Tryd.prog 48 #[.pointer (some ⟨b, 0, none⟩), .agg #[.int .u64 rv.num, .string rv.str, x], .int .i64 400] w (WrPost w b l0 115 rv) := by
  by_cases h : 0 < rv.num ∨ 0 < rv.list.length
  · exact str_no b rv x l0 w (Nat.le_of_lt hW.lt) hx h
  · obtain ⟨n, s, l⟩ := rv
    obtain rfl := list_eq0 (l := l) (fun q => h (.inr q))
    obtain rfl : n = 0 := by
      have : ¬ 0 < n := fun q => h (.inl q)
      omega
    exact str_yes b v s x l0 w hx hW hl
end Go.Proofs.YtnocmkjaifjgfaaDoor.R
