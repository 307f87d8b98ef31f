/- The reference's Int: the plain part. -/
import Derived.Test.YtnmkcohfhomenaaDoorDec
import Derived.Lib.ParseIntBCases
namespace Go.Proofs.YtnmkcohfhomenaaDoor
open Go.RowKit

/-- The number that digits spell, behind others; a sign is passed over. -/
def pv (a : Nat) : List UInt8 → Nat
  | [] => a
  | c :: r => if c = 45 then pv a r else pv (a * 10 + (c.toNat - 48)) r
theorem pv_ge (l : List UInt8) : ∀ a, a ≤ pv a l := by
  induction l with
  | nil => intro a; exact Nat.le_refl _
  | cons c r ih => intro a; unfold pv; split
                   · exact ih a
                   · exact Nat.le_trans (by omega) (ih _)
theorem pv_append (l r : List UInt8) : ∀ a, pv a (l ++ r) = pv (pv a l) r := by
  induction l with
  | nil => intro a; rfl
  | cons c l ih => intro a; rw [List.cons_append, pv, pv]; split
                   · exact ih a
                   · exact ih _
theorem pv_take_le (l : List UInt8) (k : Nat) : pv 0 (l.take k) ≤ pv 0 l := by
  have := pv_ge (l.drop k) (pv 0 (l.take k))
  rw [← pv_append, List.take_append_drop] at this; exact this
theorem dig_ne {c : UInt8} (h : digB c.toNat = true) : 48 ≤ c.toNat ∧ c.toNat ≤ 57 := by
  unfold digB at h; simp at h; omega
theorem parse_pv (l : List UInt8) : ∀ acc, (l.all fun c => digB c.toNat) = true → acc ≤ 18446744073709551615 →
    Lib.parseUintM 18446744073709551615 acc l = if pv acc l ≤ 18446744073709551615 then .ok (pv acc l) else .range := by
  induction l with
  | nil => intro acc _ h; rw [Lib.parseUintM, pv, if_pos h]
  | cons c r ih =>
    intro acc hall hacc
    rw [List.all_cons, Bool.and_eq_true] at hall
    have hc := dig_ne hall.1
    have hne : c ≠ 45 := fun e => by rw [e] at hc; revert hc; decide
    have hg := pv_ge r (acc * 10 + (c.toNat - 48))
    rw [Lib.parseUintM, if_pos hc, pv, if_neg hne]
    by_cases h1 : 1844674407370955162 ≤ acc
    · rw [if_pos h1, if_neg (by omega)]
    · rw [if_neg h1]
      by_cases h2 : 18446744073709551615 < acc * 10 + (c.toNat - 48)
      · rw [if_pos h2, if_neg (by omega)]
      · rw [if_neg h2]; exact ih _ hall.2 (by omega)

theorem decD_true {l : List UInt8} (h : decD l = true) : l ≠ [] ∧ (l.all fun c => digB c.toNat) = true := by
  unfold decD at h; rw [Bool.and_eq_true, Bool.and_eq_true] at h
  refine ⟨fun e => ?_, h.2⟩
  rw [e] at h; simp at h
theorem trim_45 (r : List UInt8) : Lib.trimPrefix (45 :: r) [45] = r := rfl
theorem trim_ne {c : UInt8} (r : List UInt8) (h : c ≠ 45) : Lib.trimPrefix (c :: r) [45] = c :: r := by
  unfold Lib.trimPrefix
  rw [if_neg]
  rw [show Lib.hasPrefix (c :: r) [45] = ((45 : UInt8) == c && true) from rfl, Bool.and_true, beq_eq_false_iff_ne.2 (Ne.symm h)]; decide

theorem decR_forms {l : List UInt8} (h : decR l = true) : ∃ c r, l = c :: r ∧ ((c = 45 ∧ r ≠ [] ∧ (r.all fun c => digB c.toNat) = true) ∨ (c ≠ 45 ∧ (l.all fun c => digB c.toNat) = true)) := by
  unfold decR at h; rw [Bool.and_eq_true] at h
  cases l with
  | nil => exact absurd h.1 (by decide)
  | cons c r =>
    refine ⟨c, r, rfl, ?_⟩
    by_cases hc : c = 45
    · subst hc; rw [trim_45] at h
      have := decD_true h.1
      exact .inl ⟨rfl, this.1, this.2⟩
    · rw [trim_ne r hc] at h
      exact .inr ⟨hc, (decD_true h.1).2⟩
theorem intV_form {l : List UInt8} {low high : Int} (h : decR l = false) : intV l low high = .tuple #[.int .i64 0, .int .i64 6] := by
  unfold intV; rw [if_pos]
  unfold decR at h; rw [Bool.and_eq_false_iff] at h
  rcases h with h | h
  · exact .inl h
  · right; simpa using h
theorem intV_go {l : List UInt8} {low high : Int} (h : decR l = true) : intV l low high = match Lib.parseIntB 64 l with
    | .ok v => if v < low ∨ high < v then .tuple #[.int .i64 0, .int .i64 7] else .tuple #[.int .i64 v, .int .i64 0]
    | _ => .tuple #[.int .i64 0, .int .i64 7] := by
  have hn : ¬ (decD (Lib.trimPrefix l [45]) = false ∨ l = [45, 48]) := by
    unfold decR at h; rw [Bool.and_eq_true] at h
    rintro (h1 | h1)
    · rw [h1] at h; exact absurd h.1 (by decide)
    · rw [h1] at h; exact absurd h.2 (by decide)
  unfold intV; rw [if_neg hn]; rfl
theorem parse_neg {r : List UInt8} (h : r ≠ []) (ha : (r.all fun c => digB c.toNat) = true) : Lib.parseIntB 64 (45 :: r) = if pv 0 r ≤ 9223372036854775808 then .ok (-(pv 0 r : Int)) else .range := by
  unfold Lib.parseIntB
  have e : Lib.parseUintB 64 r = if pv 0 r ≤ 18446744073709551615 then .ok (pv 0 r) else .range := by
    unfold Lib.parseUintB; rw [if_neg h]; exact parse_pv r 0 ha (by omega)
  simp only [show ((45 : UInt8).toNat = 43 ∨ (45 : UInt8).toNat = 45) from .inr rfl, if_true, e]
  by_cases h1 : pv 0 r ≤ 9223372036854775808
  · rw [if_pos h1, if_pos (by omega)]
    simp only [show ((45 : UInt8).toNat = 45) from rfl, not_true_eq_false, false_and, if_false, true_and, if_true]
    rw [if_neg (by omega)]
  · rw [if_neg h1]
    by_cases h2 : pv 0 r ≤ 18446744073709551615
    · rw [if_pos h2]
      simp only [show ((45 : UInt8).toNat = 45) from rfl, not_true_eq_false, false_and, if_false, true_and, if_true]
      rw [if_pos (by omega)]
    · rw [if_neg h2]
theorem parse_pos {c : UInt8} {r : List UInt8} (hc : c ≠ 45) (ha : ((c :: r).all fun c => digB c.toNat) = true) : Lib.parseIntB 64 (c :: r) = if pv 0 (c :: r) < 9223372036854775808 then .ok (pv 0 (c :: r) : Int) else .range := by
  have hd := dig_ne (by rw [List.all_cons, Bool.and_eq_true] at ha; exact ha.1)
  unfold Lib.parseIntB
  have e : Lib.parseUintB 64 (c :: r) = if pv 0 (c :: r) ≤ 18446744073709551615 then .ok (pv 0 (c :: r)) else .range := by
    unfold Lib.parseUintB; rw [if_neg (by simp)]; exact parse_pv _ 0 ha (by omega)
  have n1 : ¬ (c.toNat = 43 ∨ c.toNat = 45) := by omega
  have n2 : ¬ (c.toNat = 45) := by omega
  simp only [n1, if_false, e]
  by_cases h1 : pv 0 (c :: r) < 9223372036854775808
  · rw [if_pos h1, if_pos (by omega)]
    simp only [n2, not_false_eq_true, true_and, false_and, if_false]
    rw [if_neg (by omega)]
  · rw [if_neg h1]
    by_cases h2 : pv 0 (c :: r) ≤ 18446744073709551615
    · rw [if_pos h2]
      simp only [n2, not_false_eq_true, true_and, false_and, if_false]
      rw [if_pos (by omega)]
    · rw [if_neg h2]

/-- What the walk asks: the first byte, and the value. -/
theorem intV_big {l : List UInt8} {low high : Int} (h : decR l = true) (hb : 9223372036854775808 < pv 0 l) : intV l low high = .tuple #[.int .i64 0, .int .i64 7] := by
  rw [intV_go h]
  obtain ⟨c, r, rfl, ⟨rfl, h1, h2⟩ | ⟨h1, h2⟩⟩ := decR_forms h
  · have : pv 0 (45 :: r) = pv 0 r := by rw [pv, if_pos rfl]
    rw [this] at hb
    rw [parse_neg h1 h2, if_neg (by omega)]
  · rw [parse_pos h1 h2, if_neg (by omega)]
theorem intV_minus {l : List UInt8} {low high : Int} (h : decR l = true) (hm : l.headD 0 = 45) (hb : pv 0 l ≤ 9223372036854775808) :
    intV l low high = if -(pv 0 l : Int) < low ∨ high < -(pv 0 l : Int) then .tuple #[.int .i64 0, .int .i64 7] else .tuple #[.int .i64 (-(pv 0 l : Int)), .int .i64 0] := by
  rw [intV_go h]
  obtain ⟨c, r, rfl, ⟨rfl, h1, h2⟩ | ⟨h1, h2⟩⟩ := decR_forms h
  · have : pv 0 (45 :: r) = pv 0 r := by rw [pv, if_pos rfl]
    rw [this] at hb ⊢
    rw [parse_neg h1 h2, if_pos hb]
  · exact absurd hm h1
theorem intV_plus {l : List UInt8} {low high : Int} (h : decR l = true) (hm : ¬ l.headD 0 = 45) (hb : pv 0 l < 9223372036854775808) :
    intV l low high = if (pv 0 l : Int) < low ∨ high < (pv 0 l : Int) then .tuple #[.int .i64 0, .int .i64 7] else .tuple #[.int .i64 (pv 0 l : Int), .int .i64 0] := by
  rw [intV_go h]
  obtain ⟨c, r, rfl, ⟨rfl, h1, h2⟩ | ⟨h1, h2⟩⟩ := decR_forms h
  · exact absurd rfl hm
  · rw [parse_pos h1 h2, if_pos hb]
theorem intV_63 {l : List UInt8} {low high : Int} (h : decR l = true) (hm : ¬ l.headD 0 = 45) (hb : pv 0 l = 9223372036854775808) : intV l low high = .tuple #[.int .i64 0, .int .i64 7] := by
  rw [intV_go h]
  obtain ⟨c, r, rfl, ⟨rfl, h1, h2⟩ | ⟨h1, h2⟩⟩ := decR_forms h
  · exact absurd rfl hm
  · rw [parse_pos h1 h2, if_neg (by omega)]
theorem decR_byte {s : ByteArray} (h : decR s.data.toList = true) (k : Nat) (hk : k < s.size) : s[k].toNat = 45 ∨ (48 ≤ s[k].toNat ∧ s[k].toNat ≤ 57) := by
  have hk' : k < s.data.toList.length := by rw [size_len]; exact hk
  have e : s[k] = s.data.toList[k] := rfl
  obtain ⟨c, r, hl, h1⟩ := decR_forms h
  have hmem : s[k] ∈ c :: r := by rw [e, ← hl]; exact List.getElem_mem _
  rcases h1 with ⟨rfl, _, h2⟩ | ⟨_, h2⟩
  · rcases List.mem_cons.1 hmem with h3 | h3
    · left; rw [h3]; rfl
    · right; exact dig_ne (List.all_eq_true.1 h2 _ h3)
  · right; rw [hl] at h2; exact dig_ne (List.all_eq_true.1 h2 _ hmem)
theorem pv_succ (s : ByteArray) (k : Nat) (hk : k < s.size) : pv 0 (s.data.toList.take (k + 1)) = if s[k] = 45 then pv 0 (s.data.toList.take k) else pv 0 (s.data.toList.take k) * 10 + (s[k].toNat - 48) := by
  have hk' : k < s.data.toList.length := by rw [size_len]; exact hk
  rw [List.take_succ_eq_append_getElem hk', pv_append]
  rfl
end Go.Proofs.YtnmkcohfhomenaaDoor
