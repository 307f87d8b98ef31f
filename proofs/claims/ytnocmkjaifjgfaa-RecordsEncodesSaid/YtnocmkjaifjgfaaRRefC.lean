/- The reference's value. -/
import Derived.Test.YtnocmkjaifjgfaaRRefB
import Derived.Deep.RegionHeld3
namespace Go.Proofs.Ytnocmkjaifjgfaa.R
open Go.RowKit

def ValPost (w : World) (c : Nat) (rv : Rv) (e : Ending) (w' : World) : Prop :=
  ∃ u, e = .returned (.tuple #[u, .int .i64 (valE c rv : Nat)]) ∧ (valE c rv = 0 → Row w' w.heap.size u (valL c rv)) ∧ Below w.heap.size w w'
theorem val_no {w w' : World} {c q : Nat} {rv : Rv} {u : Value} (hE : valE c rv = q) (hq : q ≠ 0) (hb : Below w.heap.size w w') : ValPost w c rv (.returned (.tuple #[u, .int .i64 (q : Nat)])) w' :=
  ⟨u, by rw [hE], fun h => absurd (hE.symm.trans h) hq, hb⟩
theorem val_yes {w w' : World} {c : Nat} {rv : Rv} {u : Value} {l : List UInt8} (hE : valE c rv = 0) (hV : valL c rv = l) (hr : Row w' w.heap.size u l) (hb : Below w.heap.size w w') : ValPost w c rv (.returned (.tuple #[u, .int .i64 0])) w' :=
  ⟨u, by rw [hE]; rfl, fun _ => by rw [hV]; exact hr, hb⟩

set_option maxHeartbeats 4000000 in
theorem value_w (c : Nat) (rv : Rv) (x : Value) (w : World) (hw : 0 < widV c) (hn : rv.num < 18446744073709551616) (hx : ∃ a d, x = .slice a rv.list.length d) :
    Calls Try.prog 22 #[.int .u8 c, .agg #[.int .u64 rv.num, .string rv.str, x]] w (ValPost w c rv) := by
  obtain ⟨a, d, rfl⟩ := hx
  have hc : ¬ c = 118 ∧ ¬ c = 115 ∧ ¬ c = 108 := by
    rcases wid_cases c with h | ⟨h, _⟩ | ⟨h, _⟩ | ⟨h, _⟩ | ⟨h, _⟩ <;> omega
  obtain ⟨hc1, hc2, hc3⟩ := hc
  have HB := Lib.hid ((Below.refl w.heap.size w).alloc (Nat.le_refl _) (.cells #[.int .u64 rv.num, .string rv.str, .slice a rv.list.length d] 49 (0, 0)))
  have e1 : ((c : Int) == 118) = false := neN hc1
  have e2 : ((c : Int) == 115) = false := neN hc2
  have e3 : ((c : Int) == 108) = false := neN hc3
  have n2 : ((c : Int) != 115) = true := neN' hc2
  have n3 : ((c : Int) != 108) = true := neN' hc3
  by_cases hs : 0 < rv.str.size
  · have h0 := str_ne' hs
    have hE : Hid (valE c rv = 2) := Lib.hid (valE_2 (.inl ⟨hc2, hs⟩))
    go_enter Try.func22, Try.ntmps22
    go_wp2_with fail
    go_ret2
    exact val_no hE.out (by decide) HB.out
  have h0 := str_e' (s := rv.str) (by omega)
  by_cases hl : 0 < rv.list.length
  · have hE : Hid (valE c rv = 2) := Lib.hid (valE_2 (.inr (.inl ⟨hc3, hl⟩)))
    go_enter Try.func22, Try.ntmps22
    go_wp2_with fail
    go_ret2
    exact val_no hE.out (by decide) HB.out
  obtain ⟨n, s, l⟩ := rv
  obtain rfl := str_eq0 (s := s) hs
  obtain rfl := list_eq0 (l := l) hl
  have HEE : Hid (valE c ⟨n, ⟨#[]⟩, []⟩ = if widV c < 8 ∧ 256 ^ widV c ≤ n then 7 else 0) := Lib.hid (by
    have : badF c ⟨n, ⟨#[]⟩, []⟩ = false := by unfold badF; exact decide_eq_false (by simp [size0, hc2, hc3])
    unfold valE; rw [this]; simp [hw, size0])
  have HVV : Hid (valL c ⟨n, ⟨#[]⟩, []⟩ = lowL n (widV c)) := Lib.hid (by unfold valL; rw [if_neg hc1, if_neg hc2, if_neg hc3])
  have HWI := Lib.hid (fun W => width_any c W)
  have HLO := Lib.hid (fun W => low_any n (widV c) W hn (wid_le c))
  simp only [] at hn
  clear hs hl h0 hc1 hc2 hc3
  go_enter Try.func22, Try.ntmps22
  go_wp2_with fail
  refine (HWI.out _).mono ?_
  rintro e w2 ⟨rfl, rfl⟩
  rcases wid_cases c with h | ⟨-, h⟩ | ⟨-, h⟩ | ⟨-, h⟩ | ⟨-, h⟩
  · omega
  all_goals rw [h] at HEE HVV HLO hw ⊢
  · by_cases hK : 256 ≤ n
    · have d1 : decide ((256 : Int) ≤ n) = true := decide_eq_true (by omega)
      have hE : Hid (valE c ⟨n, ⟨#[]⟩, []⟩ = 7) := Lib.hid (by rw [HEE.out, if_pos ⟨by decide, hK⟩])
      clear hK
      go_wp2_with fail
      go_quiet (fail)
      go_wp2_with fail
      go_ret2
      exact val_no (q := 7) hE.out (by decide) (below_drewN HB.out _)
    · have d1 : decide ((256 : Int) ≤ n) = false := decide_eq_false (by omega)
      have hE : Hid (valE c ⟨n, ⟨#[]⟩, []⟩ = 0) := Lib.hid (by rw [HEE.out, if_neg (fun h => hK h.2)])
      clear hK
      go_wp2_with fail
      go_quiet (fail)
      go_wp2_with fail
      refine (HLO.out _).mono ?_
      rintro e w3 ⟨v, rfl, hr, hb⟩
      have HB3 := Lib.hid ((below_drewN HB.out _).trans (hb.mono (below_drewN HB.out _).size))
      have HR3 := Lib.hid (hr.mono (base' := w.heap.size) (below_drewN HB.out _).size)
      clear hr hb
      go_wp2_with fail
      go_ret2
      exact val_yes hE.out HVV.out HR3.out HB3.out
  · by_cases hK : 65536 ≤ n
    · have d1 : decide ((65536 : Int) ≤ n) = true := decide_eq_true (by omega)
      have hE : Hid (valE c ⟨n, ⟨#[]⟩, []⟩ = 7) := Lib.hid (by rw [HEE.out, if_pos ⟨by decide, hK⟩])
      clear hK
      go_wp2_with fail
      go_quiet (fail)
      go_wp2_with fail
      go_ret2
      exact val_no (q := 7) hE.out (by decide) (below_drewN HB.out _)
    · have d1 : decide ((65536 : Int) ≤ n) = false := decide_eq_false (by omega)
      have hE : Hid (valE c ⟨n, ⟨#[]⟩, []⟩ = 0) := Lib.hid (by rw [HEE.out, if_neg (fun h => hK h.2)])
      clear hK
      go_wp2_with fail
      go_quiet (fail)
      go_wp2_with fail
      refine (HLO.out _).mono ?_
      rintro e w3 ⟨v, rfl, hr, hb⟩
      have HB3 := Lib.hid ((below_drewN HB.out _).trans (hb.mono (below_drewN HB.out _).size))
      have HR3 := Lib.hid (hr.mono (base' := w.heap.size) (below_drewN HB.out _).size)
      clear hr hb
      go_wp2_with fail
      go_ret2
      exact val_yes hE.out HVV.out HR3.out HB3.out
  · by_cases hK : 4294967296 ≤ n
    · have d1 : decide ((4294967296 : Int) ≤ n) = true := decide_eq_true (by omega)
      have hE : Hid (valE c ⟨n, ⟨#[]⟩, []⟩ = 7) := Lib.hid (by rw [HEE.out, if_pos ⟨by decide, hK⟩])
      clear hK
      go_wp2_with fail
      go_quiet (fail)
      go_wp2_with fail
      go_ret2
      exact val_no (q := 7) hE.out (by decide) (below_drewN HB.out _)
    · have d1 : decide ((4294967296 : Int) ≤ n) = false := decide_eq_false (by omega)
      have hE : Hid (valE c ⟨n, ⟨#[]⟩, []⟩ = 0) := Lib.hid (by rw [HEE.out, if_neg (fun h => hK h.2)])
      clear hK
      go_wp2_with fail
      go_quiet (fail)
      go_wp2_with fail
      refine (HLO.out _).mono ?_
      rintro e w3 ⟨v, rfl, hr, hb⟩
      have HB3 := Lib.hid ((below_drewN HB.out _).trans (hb.mono (below_drewN HB.out _).size))
      have HR3 := Lib.hid (hr.mono (base' := w.heap.size) (below_drewN HB.out _).size)
      clear hr hb
      go_wp2_with fail
      go_ret2
      exact val_yes hE.out HVV.out HR3.out HB3.out
  · have hE : Hid (valE c ⟨n, ⟨#[]⟩, []⟩ = 0) := Lib.hid (by rw [HEE.out, if_neg (fun h => absurd h.1 (by decide))])
    go_wp2_with fail
    go_quiet (fail)
    go_wp2_with fail
    refine (HLO.out _).mono ?_
    rintro e w3 ⟨v, rfl, hr, hb⟩
    have HB3 := Lib.hid ((below_drewN HB.out _).trans (hb.mono (below_drewN HB.out _).size))
    have HR3 := Lib.hid (hr.mono (base' := w.heap.size) (below_drewN HB.out _).size)
    clear hr hb
    go_wp2_with fail
    go_ret2
    exact val_yes hE.out HVV.out HR3.out HB3.out
end Go.Proofs.Ytnocmkjaifjgfaa.R
