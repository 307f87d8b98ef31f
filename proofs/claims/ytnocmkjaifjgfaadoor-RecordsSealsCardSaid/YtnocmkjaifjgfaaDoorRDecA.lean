/- number; (*reader).take, groups. -/
import Derived.Test.YtnocmkjaifjgfaaDoorRBase
import Derived.Deep.RegionWith
import Derived.Deep.RegionLaw
import Derived.StillTailTactics
namespace Go.Proofs.YtnocmkjaifjgfaaDoor.R
open Go.RowKit

theorem numL_append (a b : List UInt8) : numL (a ++ b) = numL a + 256 ^ a.length * numL b := by
  induction a with
  | nil => simp [numL]
  | cons c a ih => simp only [List.cons_append, numL, ih, List.length_cons, Nat.pow_succ, Nat.mul_add]; rw [Nat.add_assoc, Nat.mul_comm (256 ^ a.length) 256, Nat.mul_assoc]
theorem numL_snoc (l : List UInt8) (k : Nat) (h : k < l.length) : numL (l.take (k + 1)) = numL (l.take k) + l[k].toNat * 256 ^ k := by
  rw [List.take_succ_eq_append_getElem h, numL_append]
  have : (l.take k).length = k := by rw [List.length_take]; omega
  rw [this]
  simp [numL, Nat.mul_comm]
theorem u64_of_nat (a : Nat) (ha : a < 18446744073709551616) : (BitVec.ofInt 64 (a : Int)).toNat = a := by
  rw [BitVec.ofInt_natCast, BitVec.toNat_ofNat]; exact Nat.mod_eq_of_lt (by omega)
/-- 'n | c << s' where the bits of n lie below s. -/
theorem or_shift (n c s : Nat) (hn : n < 2 ^ s) (h : n + c * 2 ^ s < 18446744073709551616) : bits .or .u64 (n : Int) ((c * 2 ^ s : Nat) : Int) = ((n + c * 2 ^ s : Nat) : Int) := by
  show IntKind.u64.wrap ((BitVec.ofInt 64 (n : Int) ||| BitVec.ofInt 64 ((c * 2 ^ s : Nat) : Int)).toNat : Int) = _
  have h2 : c * 2 ^ s < 18446744073709551616 := by omega
  rw [BitVec.toNat_or, u64_of_nat _ (by omega), u64_of_nat _ h2, IntKind.wrap_u64]
  have e : n ||| c * 2 ^ s = n + c * 2 ^ s := by
    rw [Nat.or_comm, Nat.mul_comm, ← Nat.two_pow_add_eq_or_of_lt hn, Nat.add_comm]
  rw [e]
  omega

theorem or_shl (n z s : Nat) (hn : n < 2 ^ s) (h : n + z * 2 ^ s < 18446744073709551616) : bits .or .u64 (n : Int) (IntKind.u64.wrap ((z : Int) * 2 ^ s)) = ((n + z * 2 ^ s : Nat) : Int) := by
  have h2 : z * 2 ^ s < 18446744073709551616 := by omega
  have e : IntKind.u64.wrap ((z : Int) * 2 ^ s) = ((z * 2 ^ s : Nat) : Int) := by
    rw [show (z : Int) * 2 ^ s = ((z * 2 ^ s : Nat) : Int) from by push_cast; rfl, IntKind.wrap_u64]
    omega
  rw [e, or_shift n z s hn h]
theorem pow8 (k : Nat) : 2 ^ (8 * k) = 256 ^ k := by rw [Nat.pow_mul]
theorem pow7 (k : Nat) : 2 ^ (7 * k) = 128 ^ k := by rw [Nat.pow_mul]

set_option maxHeartbeats 1000000 in
theorem number_any (v : Value) (l : List UInt8) (w : World) (hv : BytesAt w v l) (hl : l.length ≤ 8) :
    Calls Tryd.prog 19 #[v] w fun e w' => e = .returned (.int .u64 (numL l : Nat)) ∧ w = w' := by
  obtain ⟨s, d, rfl⟩ := hv.shape
  have HV := Lib.hid hv
  clear hv
  go_enter Tryd.func19, Tryd.ntmps19
  go_wp2
  go_loop [3, 4, 5, 8] (fun n _ _ i => ∃ k : Nat, k ≤ l.length ∧ i = .int .i64 k ∧ n = .int .u64 (numL (l.take k) : Nat)) (fun _ _ _ i => l.length - (intOf i).toNat)
  case atStart => exact ⟨0, by omega, rfl, rfl⟩
  case round =>
    obtain ⟨k, hk, rfl, rfl⟩ := hrel
    by_cases hlt : k < l.length
    · rcases HV.out with ⟨a, c, hva, hl0⟩ | ⟨g, i, c, hva, hg, hcs⟩
      · rw [hl0] at hlt; simp at hlt
      · obtain ⟨rfl, rfl⟩ : s = some ⟨g, i, none⟩ ∧ d = c := by cases hva; exact ⟨rfl, rfl⟩
        have hcl := hcs k hlt
        have hby := byte_lt l k hlt
        have HS := Lib.hid (numL_snoc l k hlt)
        have hnl := numL_lt (l.take k)
        have hlk : (l.take k).length = k := by rw [List.length_take]; omega
        rw [hlk] at hnl
        generalize l[k].toNat = z at *
        generalize numL (l.take k) = n at *
        clear hva hcs hlk
        have hk8 : k ≤ 7 := by omega
        have HEQ := Lib.hid (show bits .or .u64 (n : Int) (IntKind.u64.wrap ((z : Int) * 2 ^ (8 * k))) = ((n + z * 256 ^ k : Nat) : Int) by
          rw [← pow8]
          refine or_shl n z (8 * k) (by rw [pow8]; exact hnl) ?_
          rw [pow8]
          have h1 : z * 256 ^ k ≤ 255 * 256 ^ k := Nat.mul_le_mul_right _ (by omega)
          have h2 : 256 ^ (k + 1) ≤ 256 ^ 8 := Nat.pow_le_pow_right (by omega) (by omega)
          rw [Nat.pow_succ] at h2
          omega)
        clear hnl
        go_wp2_with fail
        go_round
        case rel => exact ⟨k + 1, by omega, by go_num, by rw [HEQ.out, HS.out]⟩
        case measure => simp [intOf]; omega
    · obtain rfl : k = l.length := by omega
      go_wp2_with fail
      go_ret
      exact ⟨rfl, rfl⟩

/-! ### the reader -/
/-- What the reader in block b has still to read is l; its bytes lie in W0. -/
structure RdAt (W0 w : World) (b : Nat) (l : List UInt8) : Prop where
  val : ∃ s d, w.cell? ⟨b, 0, none⟩ = some (.slice s l.length d) ∧ BytesAt W0 (.slice s l.length d) l ∧ l.length ≤ d
  frozen : w.frozen? ⟨b, 0, none⟩ = false
theorem RdAt.lt {W0 w : World} {b : Nat} {l : List UInt8} (h : RdAt W0 w b l) : b < w.heap.size := by
  obtain ⟨s, d, hc, _⟩ := h.val
  unfold World.cell? at hc
  rcases Nat.lt_or_ge b w.heap.size with hh | hh
  · exact hh
  · simp [Array.getElem?_eq_none hh] at hc
theorem RdAt.kept {X : Nat → Prop} {W0 w w' : World} {b : Nat} {l : List UInt8} (h : RdAt W0 w b l) (hk : Kept X w w') (hb : ¬ X b) : RdAt W0 w' b l := by
  obtain ⟨s, d, hc, h1⟩ := h.val
  exact ⟨⟨s, d, (hk.cell 0 h.lt hb).trans hc, h1⟩, (hk.frozen 0 h.lt hb).trans h.frozen⟩

theorem kept_put (b : Nat) (v : Value) (w : World) : Kept (fun k => k = b) w (w.setCell ⟨b, 0, none⟩ v) := (Kept.refl (fun k => k = b) w).setCell ⟨b, 0, none⟩ (.inl rfl) v
theorem bytes_cut {W : World} {s : Option Addr} {d d' : Nat} {l : List UInt8} (h : BytesAt W (.slice s l.length d) l) (n : Nat) (hn : n ≤ l.length) : BytesAt W (.slice (s.map (fun x => x.add n)) (l.length - n) d') (l.drop n) := by
  rcases h with ⟨a, c, hv, rfl⟩ | ⟨b, o, c, hv, hb, hc⟩
  · simp at hn; subst hn; exact .inl ⟨_, _, rfl, rfl⟩
  · injection hv with h1 h2 h3
    subst h1
    show BytesAt W (.slice (some ((⟨b, o, none⟩ : Addr).add n)) (l.length - n) d') (l.drop n)
    rw [addr_add]
    exact BytesAt.drop (d := d) (.inr ⟨b, o, d, rfl, hb, hc⟩) n hn
theorem rd_cut {W0 w : World} {b n d2 : Nat} {u : Value} {s2 : Option Addr} {l : List UInt8} (hc : w.cell? ⟨b, 0, none⟩ = some u) (hf : w.frozen? ⟨b, 0, none⟩ = false) (hb : BytesAt W0 (.slice s2 (l.length - n) d2) (l.drop n)) (hd : l.length - n ≤ d2) :
    RdAt W0 (w.setCell ⟨b, 0, none⟩ (.slice s2 (l.length - n) d2)) b (l.drop n) := by
  refine ⟨⟨s2, d2, ?_, by rw [List.length_drop]; exact hb, by rw [List.length_drop]; exact hd⟩, by rw [World.frozen?_setCell]; exact hf⟩
  rw [List.length_drop]
  exact World.cell?_setCell_same' w _ _ (by rw [hc]; rfl)

set_option maxHeartbeats 1000000 in
theorem take_no (W0 : World) (b n : Nat) (l : List UInt8) (w : World) (hR : RdAt W0 w b l) (hl : l.length ≤ maxLen) (hn : l.length < n) (hn2 : n ≤ maxLen) :
    Calls Tryd.prog 54 #[.pointer (some ⟨b, 0, none⟩), .int .i64 n] w fun e w' => e = .returned (.tuple #[.slice none 0 0, .int .i64 10]) ∧ w = w' := by
  obtain ⟨s, d, hc, hby, hld⟩ := hR.val
  unfold maxLen at hl hn2
  have d1 : decide ((l.length : Int) < n) = true := decide_eq_true (by omega)
  clear hR hby
  go_enter Tryd.func54, Tryd.ntmps54
  go_wp2_with fail
  go_ret2
  exact ⟨rfl, rfl⟩
set_option maxHeartbeats 1000000 in
theorem take_yes (W0 : World) (b n : Nat) (l : List UInt8) (w : World) (hR : RdAt W0 w b l) (hl : l.length ≤ maxLen) (hn : n ≤ l.length) :
    Calls Tryd.prog 54 #[.pointer (some ⟨b, 0, none⟩), .int .i64 n] w fun e w' => ∃ s d, e = .returned (.tuple #[.slice s n d, .int .i64 0]) ∧ BytesAt W0 (.slice s n d) (l.take n) ∧ n ≤ d ∧ RdAt W0 w' b (l.drop n) ∧ Kept (fun k => k = b) w w' := by
  obtain ⟨s, d, hc, hby, hld⟩ := hR.val
  unfold maxLen at hl
  have hf := hR.frozen
  have d1 : decide ((l.length : Int) < n) = false := decide_eq_false (by omega)
  clear hR
  have HB := Lib.hid hby
  clear hby
  go_enter Tryd.func54, Tryd.ntmps54
  go_wp2_with fail
  · go_ret2
    exact ⟨_, _, rfl, HB.out.take n hn, by omega, rd_cut hc hf (by rw [show l.length - n = 0 by omega, List.drop_of_length_le (by omega)]; exact BytesAt.none_ _ _) (by omega), kept_put _ _ _⟩
  · go_ret2
    exact ⟨_, _, rfl, HB.out.take n hn, by omega, rd_cut hc hf (bytes_cut HB.out n hn) (by omega), kept_put _ _ _⟩

def GrPost (W0 w : World) (b : Nat) (l : List UInt8) (e : Ending) (w' : World) : Prop :=
  e = .returned (.tuple #[.int .u64 (grpD l).1, .int .i64 (grpD l).2.2]) ∧ RdAt W0 w' b (l.drop (grpD l).2.1) ∧ Kept (fun k => k = b) w w'
theorem gr_err {W0 w : World} {b e : Nat} {l : List UInt8} (h : grpD l = (0, 0, e)) (hR : RdAt W0 w b l) : GrPost W0 w b l (.returned (.tuple #[.int .u64 0, .int .i64 e])) w := by
  unfold GrPost; rw [h]; exact ⟨rfl, hR, Kept.refl _ _⟩
theorem grpK_nil {k i a : Nat} {b : List UInt8} (hk : 0 < k) (hb : b = []) : grpK k i a b = (0, 0, 10) := by
  subst hb
  cases k with
  | zero => omega
  | succ k => rfl
theorem grpK_step {k i a : Nat} {l : List UInt8} (hk : k + i = 9) (hi : i < l.length) : grpK (10 - i) i a (l.drop i) = if 128 ≤ l[i].toNat then grpK (10 - (i + 1)) (i + 1) (a + l[i].toNat % 128 * 128 ^ i) (l.drop (i + 1))
    else if (0 < i ∧ l[i].toNat = 0) ∨ (i = 9 ∧ 1 < l[i].toNat) then (0, 0, 6) else (a + l[i].toNat * 128 ^ i, i + 1, 0) := by
  rw [show 10 - i = k + 1 from by omega, List.drop_eq_getElem_cons hi, grpK, show 10 - (i + 1) = k from by omega]
  have : (k = 0 ∧ 1 < l[i].toNat) ↔ (i = 9 ∧ 1 < l[i].toNat) := by
    constructor <;> rintro ⟨h1, h2⟩ <;> exact ⟨by omega, h2⟩
  simp only [this]

set_option maxHeartbeats 2000000 in
set_option maxRecDepth 100000 in
theorem rgroups_any (W0 : World) (b : Nat) (l : List UInt8) (w : World) (hR : RdAt W0 w b l) (hB0 : Below W0.heap.size W0 w) (hl : l.length ≤ maxLen) :
    Calls Tryd.prog 56 #[.pointer (some ⟨b, 0, none⟩)] w (GrPost W0 w b l) := by
  obtain ⟨s, d, hc, hby, hld⟩ := hR.val
  unfold maxLen at hl
  have hf := hR.frozen
  have HB := Lib.hid hby
  have HB0 := Lib.hid hB0
  have HR := Lib.hid hR
  clear hR hby hB0
  go_enter Tryd.func56, Tryd.ntmps56
  go_wp2_with fail
  go_loop [4, 5, 6, 7] (fun n _ _ i => ∃ (k a : Nat) (m : Int), k ≤ 10 ∧ k ≤ l.length ∧ i = .int .i64 k ∧ n = .int .u64 m ∧ Hid (k < 10 → m = (a : Nat) ∧ a < 128 ^ k) ∧ Hid (grpD l = grpK (10 - k) k a (l.drop k))) (fun _ _ _ i => 10 - (intOf i).toNat)
  case atStart => exact ⟨0, 0, 0, by omega, by omega, rfl, rfl, Lib.hid (fun _ => ⟨rfl, by simp⟩), Lib.hid rfl⟩
  case round =>
    obtain ⟨k, a, m, hk, hkl, rfl, rfl, hma, hE⟩ := hrel
    by_cases hlt : k < 10
    · obtain ⟨rfl, ha⟩ := hma.out hlt
      clear hma
      by_cases hlen : k = l.length
      · have HG := Lib.hid (show grpD l = (0, 0, 10) by rw [hE.out]; exact grpK_nil (by omega) (List.drop_of_length_le (by omega)))
        have d1 : ((k : Int) == l.length) = true := by simp; omega
        clear hlen hE ha
        go_wp2_with fail
        go_ret2
        exact gr_err HG.out HR.out
      · have hkl2 : k < l.length := by omega
        have d1 : ((k : Int) == l.length) = false := by simp; omega
        rcases HB.out with ⟨a', c', hva, hl0⟩ | ⟨g, i, c', hva, hg, hcs⟩
        · rw [hl0] at hkl2; simp at hkl2
        · obtain ⟨rfl, rfl⟩ : s = some ⟨g, i, none⟩ ∧ d = c' := by cases hva; exact ⟨rfl, rfl⟩
          have hcl := (bcell HB0.out g (i + k) hg).trans (hcs k hkl2)
          have hby := byte_lt l k hkl2
          have HS := Lib.hid (grpK_step (k := 9 - k) (a := a) (by omega) hkl2)
          have HCUT := Lib.hid (fun n (hn : n ≤ l.length) d' => bytes_cut (d' := d') HB.out n hn)
          clear hva hcs hlen
          by_cases h128 : 128 ≤ l[k].toNat
          · have HS2 := Lib.hid (show grpD l = grpK (10 - (k + 1)) (k + 1) (a + l[k].toNat % 128 * 128 ^ k) (l.drop (k + 1)) by rw [hE.out, HS.out, if_pos h128])
            clear hE HS
            have HO := Lib.hid (fun (h9 : k < 9) => show bits .or .u64 (a : Int) (IntKind.u64.wrap ((l[k].toNat : Int) % 128 * 2 ^ (7 * k))) = ((a + l[k].toNat % 128 * 128 ^ k : Nat) : Int) ∧ a + l[k].toNat % 128 * 128 ^ k < 128 ^ (k + 1) from by
              have h1 : l[k].toNat % 128 * 128 ^ k ≤ 127 * 128 ^ k := Nat.mul_le_mul_right _ (by omega)
              have h2 : 128 ^ (k + 1) ≤ 128 ^ 9 := Nat.pow_le_pow_right (by omega) (by omega)
              rw [Nat.pow_succ] at h2 ⊢
              refine ⟨?_, by omega⟩
              rw [← pow7, show (l[k].toNat : Int) % 128 = ((l[k].toNat % 128 : Nat) : Int) from by omega]
              exact or_shl a _ (7 * k) (by rw [pow7]; exact ha) (by rw [pow7]; omega))
            generalize l[k].toNat = c at *
            clear ha
            go_wp2_with fail
            go_round
            case rel => exact ⟨k + 1, a + c % 128 * 128 ^ k, _, by omega, by omega, by go_num, rfl, Lib.hid (fun h10 => ⟨(HO.out (by omega)).1, (HO.out (by omega)).2⟩), HS2⟩
            case measure => simp [intOf]; omega
          · by_cases hbad : (0 < k ∧ l[k].toNat = 0) ∨ (k = 9 ∧ 1 < l[k].toNat)
            · have HG := Lib.hid (show grpD l = (0, 0, 6) by rw [hE.out, HS.out, if_neg h128, if_pos hbad])
              clear hE HS
              generalize l[k].toNat = c at *
              have hbad2 : (0 < k ∧ c = 0) ∨ (¬ (0 < k ∧ c = 0) ∧ k = 9 ∧ 1 < c) := by omega
              clear ha hbad
              rcases hbad2 with ⟨h1, h2⟩ | ⟨h1, h2, h3⟩
              · subst h2
                go_wp2_with fail
                go_ret2
                exact gr_err HG.out HR.out
              · subst h2
                have hc0 : ((c : Int) == 0) = false := by simp; omega
                go_wp2_with fail
                go_ret2
                exact gr_err HG.out HR.out
            · have HG := Lib.hid (show grpD l = (a + l[k].toNat * 128 ^ k, k + 1, 0) by rw [hE.out, HS.out, if_neg h128, if_neg hbad])
              clear hE HS
              generalize l[k].toNat = c at *
              have HO := Lib.hid (show bits .or .u64 (a : Int) (IntKind.u64.wrap ((c : Int) % 128 * 2 ^ (7 * k))) = ((a + c * 128 ^ k : Nat) : Int) by
                rw [← pow7, show (c : Int) % 128 = (c : Int) from by omega]
                refine or_shl a c (7 * k) (by rw [pow7]; exact ha) ?_
                rw [pow7]
                by_cases h9 : k = 9
                · subst h9
                  have h1 : c * 128 ^ 9 ≤ 1 * 128 ^ 9 := Nat.mul_le_mul_right _ (by omega)
                  omega
                · have h1 : c * 128 ^ k ≤ 127 * 128 ^ k := Nat.mul_le_mul_right _ (by omega)
                  have h2 : 128 ^ (k + 1) ≤ 128 ^ 9 := Nat.pow_le_pow_right (by omega) (by omega)
                  rw [Nat.pow_succ] at h2
                  omega)
              have HF : Hid (∀ (s2 : Option Addr) (d2 : Nat), BytesAt W0 (.slice s2 (l.length - (k + 1)) d2) (l.drop (k + 1)) → l.length - (k + 1) ≤ d2 → GrPost W0 w b l (.returned (.tuple #[.int .u64 (bits .or .u64 (a : Int) (IntKind.u64.wrap ((c : Int) % 128 * 2 ^ (7 * k)))), .int .i64 0])) (w.setCell ⟨b, 0, none⟩ (.slice s2 (l.length - (k + 1)) d2))) := Lib.hid (fun s2 d2 hb hd => by
                unfold GrPost
                rw [HG.out, HO.out]
                exact ⟨rfl, rd_cut hc hf hb hd, kept_put _ _ _⟩)
              have hk1 : k + 1 ≤ d := by omega
              have hcases : (k = 0 ∧ ((k : Int) == 9) = false) ∨ (0 < k ∧ ((c : Int) == 0) = false ∧ ((k : Int) == 9) = false) ∨ (0 < k ∧ ((c : Int) == 0) = false ∧ ((k : Int) == 9) = true ∧ c ≤ 1) := by
                simp; omega
              clear ha hbad
              rcases hcases with ⟨hk0, hk9⟩ | ⟨hk0, hc0, hk9⟩ | ⟨hk0, hc0, hk9, hc1⟩
              · have hk00 : ¬ 0 < k := by omega
                have hk01 : decide ((0 : Int) < k) = false := decide_eq_false (by omega)
                have HK := Lib.hid hk0
                clear hk0
                go_wp2_with fail
                · go_ret2
                  exact HF.out _ _ (by rw [show l.length - (k + 1) = 0 by omega, List.drop_of_length_le (by omega)]; exact BytesAt.none_ _ _) (by omega)
                · go_ret2
                  exact HF.out _ _ (HCUT.out (k + 1) (by omega) _) (by omega)
              · go_wp2_with fail
                · go_ret2
                  exact HF.out _ _ (by rw [show l.length - (k + 1) = 0 by omega, List.drop_of_length_le (by omega)]; exact BytesAt.none_ _ _) (by omega)
                · go_ret2
                  exact HF.out _ _ (HCUT.out (k + 1) (by omega) _) (by omega)
              · have hc2 : decide ((1 : Int) < c) = false := decide_eq_false (by omega)
                go_wp2_with fail
                · go_ret2
                  exact HF.out _ _ (by rw [show l.length - (k + 1) = 0 by omega, List.drop_of_length_le (by omega)]; exact BytesAt.none_ _ _) (by omega)
                · go_ret2
                  exact HF.out _ _ (HCUT.out (k + 1) (by omega) _) (by omega)
    · obtain rfl : k = 10 := by omega
      have HG := Lib.hid (show grpD l = (0, 0, 6) by rw [hE.out]; rfl)
      clear hE hma
      go_wp2_with fail
      go_ret2
      exact gr_err HG.out HR.out
end Go.Proofs.YtnocmkjaifjgfaaDoor.R
