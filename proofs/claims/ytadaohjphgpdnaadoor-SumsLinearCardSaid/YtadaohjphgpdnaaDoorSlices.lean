/- Parts of a string of bytes. -/
import Derived.Test.YtadaohjphgpdnaaDoorApp
namespace Go.Proofs.YtadaohjphgpdnaaDoor
open Go.RowKit

theorem BytesAt.take {w : World} {s : Option Addr} {d d' : Nat} {l : List UInt8} (h : BytesAt w (.slice s l.length d) l) (k : Nat) (hk : k ≤ l.length) : BytesAt w (.slice s k d') (l.take k) := by
  have hl : (l.take k).length = k := by rw [List.length_take]; omega
  rcases h with ⟨a, c, hv, rfl⟩ | ⟨b, o, c, hv, hb, hc⟩
  · simp at hk; subst hk; exact .inl ⟨_, _, rfl, rfl⟩
  · cases hv
    refine .inr ⟨b, o, d', by rw [hl], hb, fun j hj => ?_⟩
    rw [hl] at hj
    rw [List.getElem_take]
    exact hc j (by omega)
theorem BytesAt.drop {w : World} {g o : Nat} {d d' : Nat} {l : List UInt8} (h : BytesAt w (.slice (some ⟨g, o, none⟩) l.length d) l) (k : Nat) (hk : k ≤ l.length) : BytesAt w (.slice (some ⟨g, o + k, none⟩) (l.length - k) d') (l.drop k) := by
  have hl : (l.drop k).length = l.length - k := by rw [List.length_drop]
  by_cases e : l.length - k = 0
  · rw [e]; exact .inl ⟨_, _, rfl, by apply List.eq_nil_of_length_eq_zero; omega⟩
  · rcases h with ⟨a, c, hv, rfl⟩ | ⟨b, o', c, hv, hb, hc⟩
    · simp at e
    · cases hv
      refine .inr ⟨g, o + k, d', by rw [hl], hb, fun j hj => ?_⟩
      rw [hl] at hj
      rw [List.getElem_drop, Nat.add_assoc]
      exact hc (k + j) (by omega)
theorem BytesAt.none_ {w : World} (s : Option Addr) (d : Nat) : BytesAt w (.slice s 0 d) [] := .inl ⟨_, _, rfl, rfl⟩
theorem BytesAt.some_ {w : World} {s : Option Addr} {d : Nat} {l : List UInt8} (h : BytesAt w (.slice s l.length d) l) (h0 : 0 < l.length) : ∃ g o, s = some ⟨g, o, none⟩ ∧ g < w.heap.size := by
  rcases h with ⟨a, c, hv, rfl⟩ | ⟨b, o, c, hv, hb, _⟩
  · simp at h0
  · cases hv; exact ⟨b, o, rfl, hb⟩
end Go.Proofs.YtadaohjphgpdnaaDoor
