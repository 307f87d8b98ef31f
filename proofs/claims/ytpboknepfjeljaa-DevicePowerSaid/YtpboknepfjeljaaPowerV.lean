/- What DevicePower needs: plain. -/
import Derived.Test.YtpboknepfjeljaaWholeW
namespace Go.Proofs.Ytpboknepfjeljaa
open Go.RowKit Go.MapKept
set_option maxRecDepth 100000

/-- The device after i of the writes, with m more to take; the other one. -/
def pD (L : List Pu) (m i : Nat) : Dv := { st := zs, ca := (L.take (min i m)).map Pu.wr, tk := ((min i m : Nat) : Int), pw := (m : Int) - ((min i m : Nat) : Int), off := decide (m < i) }
def oD (L : List Pu) (m i : Nat) : Dv := { st := zs, ca := (L.take (min i m)).map Pu.wr, tk := ((min i m : Nat) : Int), pw := -1, off := false }
theorem pD_zero (L : List Pu) (m : Nat) : limitD (newD 64) (m : Int) = if isPw (m : Int) then pD L m 0 else newD 64 := by
  unfold limitD
  split
  · simp [pD, newD, zs]
  · rfl
theorem isPw_u8 (m : Nat) (h : m ≤ 255) : isPw (m : Int) = true := by unfold isPw; simp; omega
theorem oD_zero (L : List Pu) (m : Nat) : newD 64 = oD L m 0 := by simp [oD, newD, zs]
theorem zs_len : zs.length = 64 := by simp [zs]
theorem num_in (p : Pu) : inS 64 (p.num : Int) = true := inS_mk (by omega) (by have : p.num < 64 := Nat.mod_lt _ (by omega); omega)
theorem take_map_snoc (L : List Pu) (i : Nat) (hi : i < L.length) : (L.take (i + 1)).map Pu.wr = (L.take i).map Pu.wr ++ [L[i].wr] := by
  rw [List.take_succ_eq_append_getElem hi, List.map_append]; rfl
/-- A write that is taken. -/
theorem pD_take {L : List Pu} {m i : Nat} (hi : i < L.length) (h80 : L.length ≤ 80) (hm : i < m) : writeE (pD L m i) (L[i].num : Int) = 0 ∧ writeD (pD L m i) (L[i].num : Int) L[i].sec = pD L m (i + 1) := by
  have ho : (pD L m i).off = false := by simp [pD]; omega
  have hs : (pD L m i).st.length = 64 := zs_len
  have he : emptyB (pD L m i) = false := by simp [emptyB, pD]; omega
  have hf : fullD (pD L m i) = pD L m i := by
    unfold fullD; rw [if_pos]; simp [pD]; omega
  constructor
  · unfold writeE; rw [ho, hs, num_in, he]; rfl
  · unfold writeD; rw [ho, hs, num_in, he, hf]
    have e1 : min i m = i := by omega
    have e2 : min (i + 1) m = i + 1 := by omega
    have e3 : (0 : Int) < (m : Int) - (i : Int) := by omega
    have e4 : decide (m < i) = false := by simp; omega
    have e5 : decide (m < i + 1) = false := by simp; omega
    simp only [pD, tookD, e1, e2, e4, e5, take_map_snoc L i hi, Bool.false_eq_true, if_false, if_true, if_pos e3]
    simp [Pu.wr, Pu.sec, Pu.num]; omega
theorem oD_take {L : List Pu} {m i : Nat} (hi : i < L.length) (h80 : L.length ≤ 80) (hm : i < m) : writeE (oD L m i) (L[i].num : Int) = 0 ∧ writeD (oD L m i) (L[i].num : Int) L[i].sec = oD L m (i + 1) := by
  have hs : (oD L m i).st.length = 64 := zs_len
  have he : emptyB (oD L m i) = false := by simp [emptyB, oD]; omega
  have hf : fullD (oD L m i) = oD L m i := by
    unfold fullD; rw [if_pos]; simp [oD]; omega
  have ho : (oD L m i).off = false := rfl
  constructor
  · unfold writeE; rw [ho, hs, num_in, he]; rfl
  · unfold writeD; rw [ho, hs, num_in, he, hf]
    have e1 : min i m = i := by omega
    have e2 : min (i + 1) m = i + 1 := by omega
    simp only [oD, tookD, e1, e2, take_map_snoc L i hi, Bool.false_eq_true, if_false, if_true]
    simp [Pu.wr, Pu.sec, Pu.num]
/-- A write that is not. -/
theorem pD_off {L : List Pu} {m i : Nat} (hi : i < L.length) (hm : ¬ i < m) : writeE (pD L m i) (L[i].num : Int) = 13 ∧ writeD (pD L m i) (L[i].num : Int) L[i].sec = pD L m (i + 1) := by
  have e1 : min i m = m := by omega
  have e2 : min (i + 1) m = m := by omega
  have e5 : decide (m < i + 1) = true := by simp; omega
  by_cases h : m < i
  · have ho : (pD L m i).off = true := by simp [pD]; omega
    constructor
    · unfold writeE; rw [ho]; rfl
    · unfold writeD; rw [ho]
      have e4 : decide (m < i) = true := by simp; omega
      simp only [pD, e1, e2, e4, e5, if_true]
  · have ho : (pD L m i).off = false := by simp [pD]; omega
    have hs : (pD L m i).st.length = 64 := zs_len
    have he : emptyB (pD L m i) = true := by simp [emptyB, pD]; omega
    constructor
    · unfold writeE; rw [ho, hs, num_in, he]; rfl
    · unfold writeD; rw [ho, hs, num_in, he]
      simp only [pD, e1, e2, e5, Bool.false_eq_true, if_false, if_true]
theorem oD_off {L : List Pu} {m i : Nat} (hm : ¬ i < m) : oD L m i = oD L m (i + 1) := by
  have e1 : min i m = m := by omega
  have e2 : min (i + 1) m = m := by omega
  simp only [oD, e1, e2]
theorem pD_ca (L : List Pu) (m : Nat) : (pD L m L.length).ca.length = min L.length m := by simp [pD]
theorem pD_keep (L : List Pu) (m : Nat) : keepE (pD L m L.length).ca.length (allI (min L.length m)) = 0 := by rw [pD_ca]; exact keep_all _
theorem pD_crash (L : List Pu) (m : Nat) : crashedD (pD L m L.length) (allI (min L.length m)) = { st := settleV zs (oD L m L.length).ca, ca := [], tk := ((min L.length m : Nat) : Int), pw := -1, off := false } := by
  have h := crash_all (pD L m L.length)
  rw [pD_ca] at h
  exact h
theorem pD_reads (L : List Pu) (m : Nat) : ∀ n, n < (crashedD (pD L m L.length) (allI (min L.length m))).st.length → readsV (crashedD (pD L m L.length) (allI (min L.length m))).st (crashedD (pD L m L.length) (allI (min L.length m))).ca n = readsV (oD L m L.length).st (oD L m L.length).ca n := fun n hn => by
  rw [pD_crash] at hn ⊢
  have hl : n < zs.length := by
    have : (settleV zs (oD L m L.length).ca).length = zs.length := settleV_len _ _
    have hn' : n < (settleV zs (oD L m L.length).ca).length := hn
    omega
  show readsV (settleV zs (oD L m L.length).ca) [] n = _
  rw [readsV_nil, Int.toNat_natCast]
  refine settle_reads zs n hl _ _ rfl ?_
  intro w hw
  simp only [oD, List.mem_map] at hw
  obtain ⟨p, _, rfl⟩ := hw
  exact Int.natCast_nonneg _
end Go.Proofs.Ytpboknepfjeljaa
