/- checkKeep, Crash. -/
import Derived.Test.YtbaibmndmcdfdaaDoorDWrite
namespace Go.Proofs.YtbaibmndmcdfdaaDoor.D
open Go.RowKit Go.MapKept
attribute [local go_sem ↓] loadS_eq storeS_eq loadW_eq storeW_eq allocW_eq boxW_eq clearX_eq updX_eq appW_eq bslW_eq bldW_eq boxS_eq
set_option maxRecDepth 100000

/-- The slice v reads as integers. -/
def IntsAt (w : World) (v : Value) (L : List Int) : Prop :=
  (∃ a c, v = .slice a 0 c ∧ L = []) ∨
  ∃ g o c, v = .slice (some ⟨g, o, none⟩) L.length c ∧ g < w.heap.size ∧ ∀ k (h : k < L.length), w.cell? ⟨g, o + k, none⟩ = some (.int .i64 L[k])
theorem IntsAt.below {n : Nat} {A B : World} {v : Value} {L : List Int} (h : IntsAt A v L) (hk : Below n A B) (hn : A.heap.size ≤ n) : IntsAt B v L := by
  rcases h with h | ⟨g, o, c, rfl, hg, hc⟩
  · exact .inl h
  · exact .inr ⟨g, o, c, rfl, Nat.lt_of_lt_of_le hg hk.size, fun k hkl => by rw [hk.cell (p := ⟨g, o + k, none⟩) (by show g < n; omega)]; exact hc k hkl⟩
theorem IntsAt.kept {X : Nat → Prop} {A B : World} {v : Value} {L : List Int} (h : IntsAt A v L) (hk : Kept X A B) (hx : offX X v) : IntsAt B v L := by
  rcases h with h | ⟨g, o, c, rfl, hg, hc⟩
  · exact .inl h
  · by_cases h0 : L.length = 0
    · have : L = [] := List.eq_nil_of_length_eq_zero h0
      subst this; exact .inl ⟨_, _, rfl, rfl⟩
    · exact .inr ⟨g, o, c, rfl, Nat.lt_of_lt_of_le hg hk.size, fun k hkl => by rw [hk.cell hg (hx g o _ c rfl h0)]; exact hc k hkl⟩
theorem IntsAt.val {w : World} {v : Value} {L : List Int} (h : IntsAt w v L) : ∃ a c, v = .slice a L.length c := by
  rcases h with ⟨a, c, rfl, rfl⟩ | ⟨g, o, c, rfl, _⟩
  · exact ⟨a, c, rfl⟩
  · exact ⟨_, c, rfl⟩
theorem IntsAt.some_ {w : World} {a : Option Addr} {c : Nat} {L : List Int} (h : IntsAt w (.slice a L.length c) L) (h0 : 0 < L.length) : ∃ g o, a = some ⟨g, o, none⟩ ∧ ∀ k (h : k < L.length), w.cell? ⟨g, o + k, none⟩ = some (.int .i64 L[k]) := by
  rcases h with ⟨a', c', hv, rfl⟩ | ⟨g, o, c', hv, _, hc⟩
  · simp at h0
  · cases hv; exact ⟨g, o, rfl, hc⟩

theorem ascB_iff : ∀ (L : List Int), ascB L = true ↔ ∀ i (h : i + 1 < L.length), L[i] < L[i + 1]
  | [] => by simp [ascB]
  | [a] => by simp [ascB]
  | a :: b :: r => by
    have ih := ascB_iff (b :: r)
    simp only [ascB, Bool.and_eq_true, decide_eq_true_eq, ih]
    constructor
    · rintro ⟨h1, h2⟩ i hi
      cases i with
      | zero => exact h1
      | succ i => exact h2 i (by simpa using hi)
    · intro h
      exact ⟨h 0 (by simp), fun i hi => h (i + 1) (by simpa using hi)⟩
theorem keepE_7 {n : Nat} {L : List Int} {k : Nat} (hk : k < L.length) (h : inS n L[k] = false) : keepE n L = 7 := by
  unfold keepE
  rw [if_neg]
  intro ha
  have := List.all_eq_true.1 ha L[k] (List.getElem_mem hk)
  rw [h] at this; cases this
theorem keepE_6 {n : Nat} {L : List Int} {j : Nat} (ha : L.all (inS n) = true) (h1 : 1 ≤ j) (hj : j < L.length) (h : L[j] ≤ L[j - 1]) : keepE n L = 6 := by
  unfold keepE
  rw [if_pos ha, if_neg]
  intro hb
  have := (ascB_iff L).1 hb (j - 1) (by omega)
  have e : L[j - 1 + 1]'(by omega) = L[j] := by congr 1; omega
  omega
theorem keepE_0 {n : Nat} {L : List Int} (ha : L.all (inS n) = true) (h : ∀ i (h : i + 1 < L.length), L[i] < L[i + 1]) : keepE n L = 0 := by
  unfold keepE
  rw [if_pos ha, if_pos ((ascB_iff L).2 h)]
theorem all_take {p : Int → Bool} {L : List Int} {k : Nat} (hk : k < L.length) (h : (L.take k).all p = true) (h2 : p L[k] = true) : (L.take (k + 1)).all p = true := by
  rw [List.take_succ_eq_append_getElem hk, List.all_append, h]; simp [h2]

theorem keptV_take (ca : List Wr) (L : List Int) (k i : Nat) (hk : k < L.length) (hi : L[k] = i) (hil : i < ca.length) : keptV ca (L.take (k + 1)) = keptV ca (L.take k) ++ [ca[i]] := by
  unfold keptV
  rw [List.take_succ_eq_append_getElem hk, List.filterMap_append]
  simp [hi, hil]
theorem DevP.mem {w w' : World} {b m : Nat} {vs vc : Value} {D : Dv} (h : DevP w b m vs vc D) (k : Mem w w') : DevP w' b m vs vc D := h.below (k.below w.heap.size) (Nat.le_refl _)
theorem DevAt.mem {w w' : World} {b : Nat} {X : Nat → Prop} {D : Dv} (h : DevAt w b X D) (k : Mem w w') : DevAt w' b X D := h.below (k.below w.heap.size) (Nat.le_refl _)

end Go.Proofs.YtbaibmndmcdfdaaDoor.D
