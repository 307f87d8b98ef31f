/- Plain facts for BlocksUndo. -/
import Derived.Test.YtkknelcolbdphaaFirV
import Derived.Test.YtkknelcolbdphaaRunB
namespace Go.Proofs.Ytkknelcolbdphaa

theorem freeL_nodup (U : List Bool) (a : Nat) : (freeL U a).Nodup := by
  unfold freeL freeP
  refine List.Pairwise.filter _ ?_
  rw [List.pairwise_map]
  refine List.Pairwise.imp_of_mem ?_ (List.pairwise_lt_range (n := U.length))
  intro i k _ hk hlt
  exact mod_ne hlt (List.mem_range.1 hk)
theorem listN_zero {n : Int} {L : List Int} : ∀ m, (∀ k, k < m → okAt n L k = 0) → listN n L m = 0
  | 0, _ => rfl
  | m + 1, h => by
    rw [listN, if_pos (listN_zero m (fun k hk => h k (by omega)))]
    exact h m (by omega)
def toI (L : List Nat) : List Int := L.map fun (x : Nat) => (x : Int)
theorem toI_len (L : List Nat) : (toI L).length = L.length := by unfold toI; rw [List.length_map]
theorem toI_back (L : List Nat) : (toI L).map Int.toNat = L := by
  unfold toI
  rw [List.map_map]
  conv => rhs; rw [← List.map_id L]
  exact List.map_congr_left (fun x _ => rfl)
theorem toI_get (L : List Nat) (k : Nat) (h : k < L.length) : (toI L).getD k 0 = (L[k] : Int) := by
  unfold toI
  rw [List.getD_eq_getElem?_getD, List.getElem?_map, List.getElem?_eq_getElem h]; rfl
theorem listE_nodup {n : Nat} {L : List Nat} (h : ∀ b ∈ L, b < n) (hd : L.Nodup) : listE (n : Int) (toI L) = 0 := by
  unfold listE
  refine listN_zero _ (fun k hk => ?_)
  rw [toI_len] at hk
  unfold okAt
  rw [toI_get L k hk, if_pos, if_neg]
  · unfold toI
    rw [← List.map_take]
    intro hm
    obtain ⟨y, hy, e⟩ := List.mem_map.1 hm
    have e2 : y = L[k] := by exact_mod_cast e
    subst e2
    obtain ⟨j, hj, e3⟩ := List.mem_iff_getElem.1 hy
    rw [List.getElem_take] at e3
    rw [List.length_take] at hj
    have := (List.nodup_iff_pairwise_ne.1 hd)
    rw [List.pairwise_iff_getElem] at this
    exact this j k (by omega) hk (by omega) e3
  · have := h _ (List.getElem_mem hk)
    unfold inB
    simp; omega
theorem anyP_none {U : List Bool} {L : List Nat} {u : Bool} (h : ∀ b ∈ L, U.getD b false ≠ u) : anyP U (toI L) u (toI L).length = false := by
  unfold anyP
  rw [List.take_length, List.any_eq_false]
  intro b hb
  unfold toI at hb
  obtain ⟨x, hx, rfl⟩ := List.mem_map.1 hb
  simpa using h x hx
variable {l : Lay} {U : List Bool} {a q : Nat}
theorem chkE_with (L : List Nat) (u : Bool) : chkE l (withL U L u) = chkE l U := by unfold chkE; rw [withL_len]
theorem undo_take (hc : chkE l U = 0) {L : List Nat} (hL : ∀ b ∈ L, b < U.length ∧ U.getD b false = false) (hd : L.Nodup) :
    putE l U (toI L) true 9 = 0 ∧ putU l U (toI L) true 9 = withL U L true := by
  have h1 : putE l U (toI L) true 9 = 0 := by
    unfold putE
    rw [if_pos hc, if_pos (listE_nodup (fun b hb => (hL b hb).1) hd), anyP_none (fun b hb => by rw [(hL b hb).2]; decide)]; rfl
  exact ⟨h1, by unfold putU; rw [if_pos h1, toI_back]⟩
theorem undo_free (hc : chkE l U = 0) {L : List Nat} (hL : ∀ b ∈ L, b < U.length ∧ U.getD b false = false) (hd : L.Nodup) :
    putE l (withL U L true) (toI L) false 4 = 0 ∧ putU l (withL U L true) (toI L) false 4 = U := by
  have hget : ∀ i, (withL U L true).getD i false = if i ∈ L then true else U.getD i false := fun i => withL_get true i false L U (fun b hb => (hL b hb).1)
  have h1 : putE l (withL U L true) (toI L) false 4 = 0 := by
    unfold putE
    rw [if_pos (by rw [chkE_with]; exact hc), withL_len, if_pos (listE_nodup (fun b hb => (hL b hb).1) hd), anyP_none (fun b hb => by rw [hget, if_pos hb]; decide)]; rfl
  refine ⟨h1, ?_⟩
  unfold putU
  rw [if_pos h1, toI_back]
  refine List.ext_getElem (by rw [withL_len, withL_len]) (fun i hi1 hi2 => ?_)
  have h2 := withL_get false i false L (withL U L true) (fun b hb => by rw [withL_len]; exact (hL b hb).1)
  rw [hget, List.getD_eq_getElem?_getD, List.getElem?_eq_getElem hi1] at h2
  have h3 : U.getD i false = U[i] := by rw [List.getD_eq_getElem?_getD, List.getElem?_eq_getElem hi2]; rfl
  have h4 : (withL (withL U L true) L false)[i] = if i ∈ L then false else if i ∈ L then true else U.getD i false := h2
  rw [h4]
  by_cases hm : i ∈ L
  · rw [if_pos hm, ← h3, (hL i hm).2]
  · rw [if_neg hm, if_neg hm, h3]
/-! ### The runs, one after the other -/
theorem runs_le (U : List Bool) : ∀ x ∈ runsL U, x.1 + x.2 ≤ U.length := by
  intro x hx
  have h := runsAt U U.length
  by_cases hc : U.length = 0 ∨ U.getD (U.length - 1) false = true
  · have := h.two hc x hx; omega
  · obtain ⟨S, f, m, e, hf, _, hS⟩ := h.one (by omega) (by cases h : U.getD (U.length - 1) false with | true => exact absurd (.inr h) hc | false => rfl)
    unfold runsL at hx
    rw [e] at hx
    rcases List.mem_append.1 hx with h1 | h1
    · have := hS x h1; omega
    · rw [List.mem_singleton] at h1; subst h1; simp only; omega
def lastI (R : List (Nat × Nat)) (k : Nat) : Int := if k = 0 then -1 else (((R.getD (k - 1) (0, 0)).1 + (R.getD (k - 1) (0, 0)).2 : Nat) : Int)
theorem lastI_succ (R : List (Nat × Nat)) (k : Nat) (h : k < R.length) : lastI R (k + 1) = (R[k].1 : Int) + (R[k].2 : Int) := by
  unfold lastI
  rw [if_neg (by omega), Nat.add_sub_cancel, List.getD_eq_getElem?_getD, List.getElem?_eq_getElem h]
  exact Int.natCast_add _ _
theorem lastI_lt (U : List Bool) (k : Nat) (h : k < (runsL U).length) : lastI (runsL U) k < ((runsL U)[k].1 : Int) := by
  unfold lastI
  by_cases hk : k = 0
  · rw [if_pos hk]; omega
  · rw [if_neg hk]
    have := (runsAt U U.length).asc
    rw [List.pairwise_iff_getElem] at this
    have h2 := this (k - 1) k (by show k - 1 < (runsL U).length; omega) h (by omega)
    rw [List.getD_eq_getElem?_getD, List.getElem?_eq_getElem (by omega)]
    show (((runsL U)[k - 1].1 + (runsL U)[k - 1].2 : Nat) : Int) < _
    have h3 : (runsL U)[k - 1].1 + (runsL U)[k - 1].2 < (runsL U)[k].1 := h2
    omega
theorem lastI_le (U : List Bool) (k : Nat) (h : k ≤ (runsL U).length) : lastI (runsL U) k ≤ (U.length : Int) := by
  unfold lastI
  by_cases hk : k = 0
  · rw [if_pos hk]; omega
  · rw [if_neg hk, List.getD_eq_getElem?_getD, List.getElem?_eq_getElem (by omega)]
    have := runs_le U _ (List.getElem_mem (l := runsL U) (n := k - 1) (by omega))
    show (((runsL U)[k - 1].1 + (runsL U)[k - 1].2 : Nat) : Int) ≤ _
    omega
theorem sumR_take (R : List (Nat × Nat)) (k : Nat) (h : k < R.length) : sumR (R.take (k + 1)) = sumR (R.take k) + R[k].2 := by
  rw [List.take_succ_eq_append_getElem h, sumR_snoc]
theorem sumR_le (R : List (Nat × Nat)) : ∀ d k, k + d = R.length → sumR (R.take k) ≤ sumR R
  | 0, k, h => by rw [List.take_of_length_le (by omega)]; exact Nat.le_refl _
  | d + 1, k, h => by
    have h1 := sumR_le R d (k + 1) (by omega)
    rw [sumR_take R k (by omega)] at h1
    omega
end Go.Proofs.Ytkknelcolbdphaa
