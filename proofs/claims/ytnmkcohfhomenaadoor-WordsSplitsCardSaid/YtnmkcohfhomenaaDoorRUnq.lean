/- The reference's Unquote; the law WordsQuotes. -/
import Derived.Test.YtnmkcohfhomenaaDoorRQuoted2
namespace Go.Proofs.YtnmkcohfhomenaaDoor
open Go.RowKit

theorem cutQ_less {l b r : List UInt8} (h : cutQ l = some (b, r)) : r.length < l.length := by
  cases l with
  | nil => cases h
  | cons a t =>
    have h' : (if a.toNat = 34 then scanQ (t.length + 1) [] t else none) = some (b, r) := h
    split at h'
    · have := scanQ_len _ _ _ _ _ h'; simp; omega
    · cases h'

set_option maxHeartbeats 1000000 in
theorem unquoteR_any (s : ByteArray) (w : World) (hs : s.size ≤ 1000000000) :
    Calls Tryd.prog 20 #[.string s] w fun e w' => e = .returned (unqV (cutQ s.data.toList)) ∧ Below w.heap.size w w' := by
  have HQ := Lib.hid (quotedR_any s w hs)
  cases ho : cutQ s.data.toList with
  | none =>
    have hq : quotedV s = .tuple #[.string ⟨#[]⟩, .int .i64 0] := by unfold quotedV; rw [ho]
    rw [hq] at HQ
    clear ho
    clear hq
    go_enter Tryd.func20, Tryd.ntmps20
    go_wp2_with fail
    refine HQ.out.mono ?_
    rintro e w2 ⟨rfl, hB⟩
    go_wp2_with fail
    go_ret2
    exact ⟨rfl, hB⟩
  | some x =>
    obtain ⟨b, r⟩ := x
    have hq : quotedV s = .tuple #[.string ⟨b.toArray⟩, .int .i64 ((s.size - r.length : Nat) : Int)] := by unfold quotedV; rw [ho]
    rw [hq] at HQ
    have hlt := cutQ_less ho
    have hl := size_len s
    obtain ⟨n, hn⟩ : ∃ n, s.size - r.length = n := ⟨_, rfl⟩
    have HU : Hid (unqV (some (b, r)) = if n = s.size then .tuple #[.string ⟨b.toArray⟩, .int .i64 0] else .tuple #[.string ⟨#[]⟩, .int .i64 6]) := Lib.hid (by
      cases r with
      | nil => rw [if_pos (by rw [← hn]; rfl)]; rfl
      | cons x y => rw [if_neg (by simp at hn hlt; omega)]; rfl)
    have hn0 : ((n : Int) == 0) = false := by rw [beq_eq_false_iff_ne]; omega
    simp only [hn] at HQ
    clear hq ho hn hlt hl
    by_cases hns : n = s.size
    · have HF := Lib.hid (HU.out.trans (if_pos hns))
      have hnb : ((n : Int) != s.size) = false := by simp; omega
      clear hns
      go_enter Tryd.func20, Tryd.ntmps20
      go_wp2_with fail
      refine HQ.out.mono ?_
      rintro e w2 ⟨rfl, hB⟩
      go_wp2_with fail
      go_ret2
      exact ⟨congrArg Ending.returned HF.out.symm, hB⟩
    · have HF := Lib.hid (HU.out.trans (if_neg hns))
      have hnb : ((n : Int) != s.size) = true := by simp; omega
      clear hns
      go_enter Tryd.func20, Tryd.ntmps20
      go_wp2_with fail
      refine HQ.out.mono ?_
      rintro e w2 ⟨rfl, hB⟩
      go_wp2_with fail
      go_ret2
      exact ⟨congrArg Ending.returned HF.out.symm, hB⟩

theorem unqV_tuple (o : Option (List UInt8 × List UInt8)) : ∃ t n, unqV o = .tuple #[.string t, .int .i64 n] := by
  unfold unqV; split
  · exact ⟨_, _, rfl⟩
  · exact ⟨_, _, rfl⟩

set_option maxHeartbeats 1000000 in
set_option maxRecDepth 100000 in
theorem wordsQuotes_any (s : ByteArray) (w : World) (hE : EnvD w) :
    Calls Tryd.prog 4 #[.string s] w fun e w' => e = .returned (.bool true) ∧ Below w.heap.size w w' := by
  have h9 := hE.env.nine
  by_cases hs : 1000 < s.size
  · have H1 := Lib.hid (shown_any w hE)
    clear hE
    go_enter Tryd.func4, Tryd.ntmps4
    go_wp2_with fail
    refine H1.out.mono ?_
    rintro e w1 ⟨rfl, hB1⟩
    go_wp2_with fail
    go_ret
    exact ⟨rfl, hB1⟩
  · have hs' : s.size ≤ 1000 := by omega
    obtain ⟨t, er, hv⟩ := unqV_tuple (cutQ s.data.toList)
    have H1 := Lib.hid (unquote_any s w hE.env (by omega))
    rw [hv] at H1
    have H2 := Lib.hid (fun w => unquoteR_any s w (by omega))
    rw [hv] at H2
    have H3 := Lib.hid (fun (w : World) (hE : EnvD w) => quote_any s w hE.env (by omega))
    have H4 := Lib.hid (fun w => quoteR_any s w (by omega))
    have HE := Lib.hid hE
    clear hv hE
    go_enter Tryd.func4, Tryd.ntmps4
    go_wp2_with fail
    refine H1.out.mono ?_
    rintro e w1 ⟨rfl, hB1⟩
    have hE1 := Lib.hid (HE.out.below hB1 h9)
    have hn1 := hE1.out.env.nine
    go_wp2_with fail
    refine (H2.out _).mono ?_
    rintro e w2 ⟨rfl, hB2⟩
    have hE2 := Lib.hid (hE1.out.below hB2 hn1)
    have hn2 := hE2.out.env.nine
    go_wp2_with fail
    refine (H3.out _ hE2.out).mono ?_
    rintro e w3 ⟨rfl, hB3⟩
    have hE3 := Lib.hid (hE2.out.below hB3 hn2)
    have hn3 := hE3.out.env.nine
    go_wp2_with fail
    refine (H4.out _).mono ?_
    rintro e w4 ⟨rfl, hB4⟩
    have hE4 := Lib.hid (hE3.out.below hB4 hn3)
    go_wp2_with fail
    refine (shown_any w4 hE4.out).mono ?_
    rintro e w5 ⟨rfl, hB5⟩
    go_wp2_with fail
    go_ret
    have s1 := hB1.size; have s2 := hB2.size; have s3 := hB3.size; have s4 := hB4.size
    exact ⟨rfl, hB1.trans ((hB2.mono (by omega)).trans ((hB3.mono (by omega)).trans ((hB4.mono (by omega)).trans (hB5.mono (by omega)))))⟩
end Go.Proofs.YtnmkcohfhomenaaDoor
