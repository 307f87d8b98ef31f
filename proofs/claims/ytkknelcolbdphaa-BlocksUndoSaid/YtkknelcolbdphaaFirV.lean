/- Plain facts for BlocksFirst. -/
import Derived.Test.YtkknelcolbdphaaVal
namespace Go.Proofs.Ytkknelcolbdphaa

theorem mod_ne {a i k n : Nat} (hik : i < k) (hk : k < n) : (a + i) % n ≠ (a + k) % n := by
  intro h
  have h1 : (a + k - (a + i)) % n = 0 := Nat.sub_mod_eq_zero_of_mod_eq h.symm
  have h2 : a + k - (a + i) = k - i := by omega
  rw [h2, Nat.mod_eq_of_lt (by omega)] at h1
  omega
theorem freeP_not {U : List Bool} {a k : Nat} (hk : k < U.length) : (a + k) % U.length ∉ freeP U a k := by
  intro h
  unfold freeP at h
  obtain ⟨h1, _⟩ := List.mem_filter.1 h
  obtain ⟨i, hi, e⟩ := List.mem_map.1 h1
  exact mod_ne (List.mem_range.1 hi) hk e
/-- What one round of BlocksFirst sees. -/
structure FirK (U : List Bool) (a q k : Nat) (j : Nat) : Prop where
  j : j = min (freeP U a k).length q
theorem freeL_mem {U : List Bool} {a b : Nat} (h : b ∈ freeL U a) (hn : 0 < U.length) : b < U.length ∧ U.getD b false = false := freeP_mem (k := U.length) h hn
theorem with_get {U : List Bool} {a q i : Nat} (hn : 0 < U.length) : (withL U ((freeL U a).take q) true).getD i false = if i ∈ (freeL U a).take q then true else U.getD i false :=
  withL_get _ _ _ _ _ (fun _ hb => (freeL_mem (List.mem_of_mem_take hb) hn).1)
theorem fir_take {U : List Bool} {a k : Nat} {x : Nat} (h : freeP U a k ++ [x] <+: freeL U a) : (freeL U a)[(freeP U a k).length]? = some x := by
  obtain ⟨t, ht⟩ := h
  rw [← ht, List.append_assoc, List.getElem?_append_right (Nat.le_refl _), Nat.sub_self]; rfl
theorem take_getD (F : List Nat) (q j : Nat) (h : j < q) : (F.take q).getD j 0 = F.getD j 0 := by
  rw [List.getD_eq_getElem?_getD, List.getD_eq_getElem?_getD, List.getElem?_take_of_lt h]
variable {U : List Bool} {a q k : Nat}
/-- The block is free and not yet taken enough. -/
theorem firA (hk : k < U.length) (hu : U.getD ((a + k) % U.length) false = false) (hp : (freeP U a k).length < q) :
    ((freeL U a).take q).getD (freeP U a k).length 0 = (a + k) % U.length ∧ (freeP U a k).length < ((freeL U a).take q).length ∧
    (withL U ((freeL U a).take q) true).getD ((a + k) % U.length) false = true ∧ min (freeP U a (k + 1)).length q = (freeP U a k).length + 1 ∧ min (freeP U a k).length q = (freeP U a k).length := by
  have hpre : freeP U a k ++ [(a + k) % U.length] <+: freeL U a := by rw [← freeP_free hu]; exact freeP_pre U a (by omega)
  have h1 := fir_take hpre
  have hl := hpre.length_le
  rw [List.length_append, List.length_singleton] at hl
  have hmem : (a + k) % U.length ∈ (freeL U a).take q := List.mem_iff_getElem?.2 ⟨(freeP U a k).length, by rw [List.getElem?_take_of_lt hp]; exact h1⟩
  refine ⟨?_, by rw [List.length_take]; omega, ?_, by rw [freeP_free hu, List.length_append, List.length_singleton]; omega, by omega⟩
  · rw [take_getD _ _ _ hp, List.getD_eq_getElem?_getD, h1]; rfl
  · rw [with_get (by omega), if_pos hmem]
/-- The block is free, and enough are taken. -/
theorem firB (hk : k < U.length) (hu : U.getD ((a + k) % U.length) false = false) (hp : q ≤ (freeP U a k).length) :
    (withL U ((freeL U a).take q) true).getD ((a + k) % U.length) false = false ∧ min (freeP U a (k + 1)).length q = q ∧ min (freeP U a k).length q = q ∧ ((freeL U a).take q).length = q := by
  obtain ⟨t, ht⟩ := freeP_pre U a (k := k) (m := U.length) (by omega)
  have he : (freeL U a).take q = (freeP U a k).take q := by
    show (freeP U a U.length).take q = _
    rw [← ht, List.take_append_of_le_length hp]
  have hnot : (a + k) % U.length ∉ (freeL U a).take q := fun h => by rw [he] at h; exact freeP_not hk (List.mem_of_mem_take h)
  refine ⟨?_, by rw [freeP_free hu, List.length_append, List.length_singleton]; omega, by omega, by rw [he, List.length_take]; omega⟩
  rw [with_get (by omega), if_neg hnot, hu]
/-- The block is used. -/
theorem firC (hk : k < U.length) (hu : U.getD ((a + k) % U.length) false = true) (hq : q ≤ (freeL U a).length) :
    (withL U ((freeL U a).take q) true).getD ((a + k) % U.length) false = true ∧ min (freeP U a (k + 1)).length q = min (freeP U a k).length q ∧ ((freeL U a).take q).length = q ∧
    (min (freeP U a k).length q < q → ((freeL U a).take q).getD (min (freeP U a k).length q) 0 ≠ (a + k) % U.length) := by
  have hL : ((freeL U a).take q).length = q := by rw [List.length_take]; omega
  refine ⟨?_, by rw [freeP_used hu], hL, fun hj he => ?_⟩
  · rw [with_get (by omega)]
    split
    · rfl
    · exact hu
  · have hm : ((freeL U a).take q)[min (freeP U a k).length q]'(by omega) ∈ freeL U a := List.mem_of_mem_take (List.getElem_mem _)
    rw [List.getD_eq_getElem?_getD, List.getElem?_eq_getElem (by omega)] at he
    have he' : ((freeL U a).take q)[min (freeP U a k).length q]'(by omega) = (a + k) % U.length := he
    rw [he'] at hm
    have := (freeL_mem hm (by omega)).2
    rw [hu] at this
    cases this
end Go.Proofs.Ytkknelcolbdphaa
