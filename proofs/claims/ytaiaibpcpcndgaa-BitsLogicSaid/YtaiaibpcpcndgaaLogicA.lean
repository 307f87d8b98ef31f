/- An argument of two numbers; BitsLogic for all maps. -/
import Derived.Test.YtaiaibpcpcndgaaLogicE
import Derived.Test.YtaiaibpcpcndgaaLogicN
import Derived.Test.YtaiaibpcpcndgaaArgs
namespace Go.Proofs.Ytaiaibpcpcndgaa
open Go.ChangeShapes Go.WideShapes Go.ChangeAt Go.RowKit

theorem len2 {α : Type} : ∀ (l : List α), l.length = 2 → ∃ u v, l = [u, v]
  | [_, _], _ => ⟨_, _, rfl⟩
theorem okWide_arr {base : Nat} {W : World} {v : Value} {t e : TypeId} {n : Nat} (ht : Try.prog.underlying t = some (.array n e)) (h : Value.okWide Try.prog W .any base t v) : ∃ cs, v = .agg cs ∧ cs.size = Try.prog.cellsOf t := by
  simp only [Value.okWide, ht] at h
  obtain ⟨cs, h1, h2, _⟩ := h
  exact ⟨cs, h1, h2⟩
theorem two_open {H : Type} {enc : TypeId × Value → H} {W : World} {base : Nat} {v : Value} {d : DataW H} {p : List MemPlace} (hval : Value.okWide Try.prog W .any base 47 v) (h : DataW.Trod enc Try.prog W 0 (fun _ => true) true 47 v d p) :
    ∃ n1 n2 : Nat, v = .agg #[.int .u16 n1, .int .u16 n2] ∧ n1 ≤ 65535 ∧ n2 ≤ 65535 := by
  obtain ⟨cs, rfl, hcs⟩ := okWide_arr Try.underlying47 hval
  obtain ⟨fuel, hf⟩ := h
  obtain ⟨xs, m, _, ex, hl, hn, hel⟩ := DataW.trod_array Try.underlying47 hf
  have c2 : Try.prog.cellsOf 47 = 2 := by kernel_rfl
  have c1 : Try.prog.cellsOf 22 = 1 := by kernel_rfl
  rw [c2] at hl
  obtain ⟨a, b, hl2⟩ := len2 _ hl
  obtain ⟨x0, x1, rfl⟩ := len2 xs hn
  rw [hl2] at hel
  have h0 := hel 0 (by omega)
  have h1 := hel 1 (by omega)
  rw [c1] at h0 h1
  obtain ⟨z0, e0, _, w0⟩ := DataW.trod_int Try.underlying22 h0
  obtain ⟨z1, e1, _, w1⟩ := DataW.trod_int Try.underlying22 h1
  simp at e0 e1
  subst e0 e1
  have hcs2 : cs = #[.int .u16 z0, .int .u16 z1] := by
    apply Array.ext'; exact hl2
  simp [Lit.wf, IntKind.min, IntKind.max, IntKind.signed, IntKind.bits] at w0 w1
  obtain ⟨n1, rfl⟩ := Int.eq_ofNat_of_zero_le (show 0 ≤ z0 by omega)
  obtain ⟨n2, rfl⟩ := Int.eq_ofNat_of_zero_le (show 0 ≤ z1 by omega)
  exact ⟨n1, n2, by rw [hcs2], by omega, by omega⟩
theorem bitsLogic_any (n1 n2 : Nat) (u u2 : Value) (l l2 : List UInt8) (w : World) (hn1 : n1 ≤ 65535) (hn2 : n2 ≤ 65535) (hv : BytesAt w u l) (hl : l.length ≤ maxLen) (hv2 : BytesAt w u2 l2) (hl2 : l2.length ≤ maxLen) :
    Calls Try.prog 5 #[.agg #[.int .u16 n1, .int .u16 n2], u, u2] w fun e w' => e = .returned (.bool true) ∧ Below w.heap.size w w' := by
  by_cases h : n1 % 601 = n2 % 601
  · exact logic_eq n1 n2 u u2 l l2 w hn1 hn2 hv hl hv2 hl2 h
  · exact logic_ne n1 n2 u u2 l l2 w hn1 hn2 hv hl hv2 hl2 h
end Go.Proofs.Ytaiaibpcpcndgaa
