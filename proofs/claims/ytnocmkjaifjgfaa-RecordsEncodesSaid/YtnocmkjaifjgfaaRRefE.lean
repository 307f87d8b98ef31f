/- The reference's value: lists. -/
import Derived.Test.YtnocmkjaifjgfaaRRefD
namespace Go.Proofs.Ytnocmkjaifjgfaa.R
open Go.RowKit
attribute [local go_sem ↓] appB_eq

theorem lowsL_drop {l : List Nat} {k : Nat} (h : k < l.length) : lowsL (l.drop k) = lowL l[k] 4 ++ lowsL (l.drop (k + 1)) := by
  rw [List.drop_eq_getElem_cons h]; rfl

set_option maxHeartbeats 4000000 in
theorem value_l (rv : Rv) (x : Value) (w : World) (hok : ∀ y ∈ rv.list, y < 4294967296) (hx : NumsAt w x rv.list) :
    Calls Try.prog 22 #[.int .u8 108, .agg #[.int .u64 rv.num, .string rv.str, x]] w (ValPost w 108 rv) := by
  obtain ⟨a, d, rfl⟩ := hx.shape
  have HX := Lib.hid hx
  have HOK := Lib.hid hok
  clear hx hok
  have HB := Lib.hid ((Below.refl w.heap.size w).alloc (Nat.le_refl _) (.cells #[.int .u64 rv.num, .string rv.str, .slice a rv.list.length d] 49 (0, 0)))
  by_cases hs : 0 < rv.str.size
  · have h0 := str_ne' hs
    have hE : Hid (valE 108 rv = 2) := Lib.hid (valE_2 (.inl ⟨by decide, hs⟩))
    go_enter Try.func22, Try.ntmps22
    go_wp2_with fail
    go_ret2
    exact val_no hE.out (by decide) HB.out
  have h0 := str_e' (s := rv.str) (by omega)
  by_cases hn : 0 < rv.num
  · have n0 : ((rv.num : Int) != 0) = true := by simp; omega
    have hE : Hid (valE 108 rv = 2) := Lib.hid (valE_2 (.inr (.inr ⟨.inr rfl, hn⟩)))
    go_enter Try.func22, Try.ntmps22
    go_wp2_with fail
    go_ret2
    exact val_no hE.out (by decide) HB.out
  obtain ⟨n, s, l⟩ := rv
  obtain rfl := str_eq0 (s := s) hs
  obtain rfl : n = 0 := by simp at hn; exact hn
  have HWI := Lib.hid (fun W => width_any 108 W)
  rw [show widV 108 = 0 from rfl] at HWI
  simp only [] at HX HOK HB
  have HGR := Lib.hid (fun W (h : l.length < 18446744073709551616) => refGroups_any l.length W h)
  clear hs hn h0
  by_cases h4 : 60 < l.length
  · have d4 : decide ((60 : Int) < l.length) = true := decide_eq_true (by omega)
    have hE : Hid (valE 108 ⟨0, ⟨#[]⟩, l⟩ = 3) := Lib.hid (by rw [valE_w0 rfl (by simp [size0])]; simp [h4])
    go_enter Try.func22, Try.ntmps22
    go_wp2_with fail
    refine (HWI.out _).mono ?_
    rintro e w2 ⟨rfl, rfl⟩
    go_wp2_with fail
    go_quiet (fail)
    go_wp2_with fail
    go_ret2
    exact val_no (q := 3) hE.out (by decide) (below_drewN HB.out _)
  have d4 : decide ((60 : Int) < l.length) = false := decide_eq_false (by omega)
  have hE : Hid (valE 108 ⟨0, ⟨#[]⟩, l⟩ = 0) := Lib.hid (by rw [valE_w0 rfl (by simp [size0])]; simp [size0, h4])
  have HVV : Hid (valL 108 ⟨0, ⟨#[]⟩, l⟩ = grpL l.length ++ lowsL l) := Lib.hid (by unfold valL; simp)
  have hl60 : l.length ≤ 60 := by omega
  have hlw : IntKind.u64.wrap (l.length : Int) = l.length := by rw [IntKind.wrap_u64]; omega
  have HGL := Lib.hid (grpL_len l.length)
  clear h4
  go_enter Try.func22, Try.ntmps22
  go_wp2_with fail
  refine (HWI.out _).mono ?_
  rintro e w2 ⟨rfl, rfl⟩
  go_wp2_with fail
  go_quiet (fail)
  go_wp2_with fail
  have HB' := Lib.hid (below_drewN HB.out nq)
  generalize hW2 : (w.alloc (.cells #[.int .u64 0, .string ⟨#[]⟩, .slice a l.length d] 49 (0, 0))).drewN nq = W2
  have HBW : Hid (Below w.heap.size w W2) := Lib.hid (by rw [← hW2]; exact HB'.out)
  have hlt : w.heap.size < W2.heap.size := by rw [← hW2]; simp
  have hc2 : W2.cell? ⟨w.heap.size, 2, none⟩ = some (.slice a l.length d) := by rw [← hW2]; simp
  have HCB := Lib.hid (fun (W : World) (h : Below W2.heap.size W2 W) => show W.cell? ⟨w.heap.size, 2, none⟩ = some (.slice a l.length d) from (h.cell (p := ⟨w.heap.size, 2, none⟩) hlt).trans hc2)
  clear hW2 HB' HB
  refine (HGR.out _ (by omega)).mono ?_
  rintro e w3 ⟨v, rfl, hr, hb⟩
  have HR := Lib.hid hr
  have HB3 := Lib.hid hb
  clear hr hb hc2
  go_wp2_with fail
  go_loopw [7, 8] (fun b i wr => ∃ (k : Nat) (q : List UInt8), k ≤ l.length ∧ q.length ≤ 10 + 4 * k ∧ i = .int .i64 k ∧ Hid (Row wr W2.heap.size b q) ∧ Hid (Below W2.heap.size W2 wr) ∧ Hid (grpL l.length ++ lowsL l = q ++ lowsL (l.drop k))) (fun _ i _ => l.length - (intOf i).toNat)
  case atStart => exact ⟨0, _, by omega, HGL.out, rfl, HR, HB3, Lib.hid rfl⟩
  case round =>
    obtain ⟨k, q, hk, hq, rfl, hR, hBW, hEQ⟩ := hrel
    have hc2 := HCB.out wr hBW.out
    by_cases hk2 : k < l.length
    · rcases HX.out with ⟨a', c', hva, hl0⟩ | ⟨g, o, c', hva, hg, hcs⟩
      · rw [hl0] at hk2; simp at hk2
      obtain ⟨rfl, rfl⟩ : a = some ⟨g, o, none⟩ ∧ d = c' := by injection hva with h1 h2 h3; exact ⟨h1, h3⟩
      have hcy := (bcell (HBW.out.trans (hBW.out.mono HBW.out.size)) g (o + k) hg).trans (hcs k hk2)
      have hy := HOK.out _ (List.getElem_mem hk2)
      have HEQ2 := Lib.hid (show grpL l.length ++ lowsL l = (q ++ lowL l[k] 4) ++ lowsL (l.drop (k + 1)) by rw [hEQ.out, lowsL_drop hk2, List.append_assoc])
      have HLN := Lib.hid (lowL_len 4 l[k])
      generalize l[k] = y at *
      have hyw : IntKind.u64.wrap (y : Int) = y := by rw [IntKind.wrap_u64]; omega
      have HLO := Lib.hid (show Calls Try.prog 28 #[.int .u64 y, .int .i64 4] wr (OutPost wr (lowL y 4)) from low_any y 4 wr (by omega) (by omega))
      clear hva hcs
      go_wp2_with fail
      refine HLO.out.mono ?_
      rintro e w5 ⟨v5, rfl, hr5, hb5⟩
      obtain ⟨v6, w6, hr6, hrow6, hm6⟩ := run_append_row (ty := 25) (hR.out.kept (Kept.of_below hb5 (fun _ => False)) (fun _ _ h => h)) hr5.at_ (by rw [HLN.out]; decide) (by rw [HLN.out]; omega) (Nat.le_trans hBW.out.size hb5.size)
      obtain ⟨a5, d5, rfl⟩ := hr5.shape
      rw [HLN.out] at hr6 ⊢
      have hr6' : Sem.run Try.prog (appB 25 #[u7, .slice a5 4 d5]) w5 = .ok v6 w6 := hr6
      have HB5 := Lib.hid (hBW.out.trans (hb5.mono hBW.out.size))
      have HB6 := Lib.hid (HB5.out.trans (hm6.kept.toBelow HB5.out.size (fun i hi e => by have := (hR.out.ge e).1; omega)))
      have HR6 := Lib.hid hrow6
      have hq6 : (q ++ lowL y 4).length ≤ 10 + 4 * (k + 1) := by rw [List.length_append, HLN.out]; omega
      clear hr5 hb5 hr6 hrow6 hm6
      go_wp2_with fail
      go_roundw
      case rel => exact ⟨k + 1, q ++ lowL y 4, by omega, hq6, by go_num, HR6, HB6, HEQ2⟩
      case measure => simp [intOf]; omega
    · obtain rfl : k = l.length := by omega
      have HEF : Hid (grpL l.length ++ lowsL l = q) := Lib.hid (by rw [hEQ.out, List.drop_of_length_le (Nat.le_refl _)]; simp [lowsL])
      have hsz2 := HBW.out.size
      go_wp2_with fail
      go_ret2
      exact val_yes hE.out HVV.out (by rw [HEF.out]; exact hR.out.mono hsz2) (HBW.out.trans (hBW.out.mono hsz2))

theorem value_any (c : Nat) (rv : Rv) (x : Value) (w : World) (hk : kindB c = true) (hok : rv.Ok) (hx : NumsAt w x rv.list) :
    Calls Try.prog 22 #[.int .u8 c, .agg #[.int .u64 rv.num, .string rv.str, x]] w (ValPost w c rv) := by
  rcases letters hk with ⟨hw, _, _, _⟩ | rfl | rfl | rfl
  · exact value_w c rv x w hw hok.num hx.shape
  · exact value_v rv x w hok.num hx.shape
  · exact value_s rv x w hx.shape
  · exact value_l rv x w hok.list hx
end Go.Proofs.Ytnocmkjaifjgfaa.R
