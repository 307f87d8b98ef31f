/- What the law wants: plain; an array of 64 sectors in memory. -/
import Derived.Test.YtpboknepfjeljaaPuts
namespace Go.Proofs.Ytpboknepfjeljaa
open Go.RowKit Go.MapKept
set_option maxRecDepth 100000

def wantP (W : List Sec) (p : Pu) : List Sec := W.set p.num p.sec
def wantL (L : List Pu) : List Sec := L.foldl wantP zs
theorem wantL_take (L : List Pu) (k : Nat) (hk : k < L.length) : wantL (L.take (k + 1)) = wantP (wantL (L.take k)) L[k] := by
  rw [List.take_succ_eq_append_getElem hk]; unfold wantL; rw [List.foldl_append]; rfl
theorem want_len : ∀ (L : List Pu) (W : List Sec), (L.foldl wantP W).length = W.length
  | [], _ => rfl
  | p :: L, W => by show (L.foldl wantP (wantP W p)).length = _; rw [want_len L]; simp [wantP]
theorem wantL_len (L : List Pu) : (wantL L).length = 64 := by unfold wantL; rw [want_len]; simp [zs]
/-- A device reads as W. -/
structure ReadsAs (D : Dv) (W : List Sec) : Prop where
  st : D.st.length = 64
  len : W.length = 64
  ats : ∀ w ∈ D.ca, 0 ≤ w.at_
  val : ∀ n : Nat, n < 64 → readsV D.st D.ca (n : Int) = W.getD n Sec.zero
theorem ReadsAs.push {D : Dv} {W : List Sec} (h : ReadsAs D W) (i : Nat) (hi : i < 64) (s : Sec) : ReadsAs (push D i s) (W.set i s) := by
  refine ⟨h.st, by rw [List.length_set]; exact h.len, fun w hw => ?_, fun n hn => ?_⟩
  · rcases List.mem_append.1 hw with hw | hw
    · exact h.ats w hw
    · rw [List.mem_singleton.1 hw]; show (0 : Int) ≤ i; omega
  · show readsV D.st (D.ca ++ [⟨i, s⟩]) (n : Int) = _
    rw [readsV_snoc, h.val n hn]
    unfold stepR
    by_cases e : i = n
    · subst e
      rw [if_pos rfl, List.getD_eq_getElem?_getD, List.getElem?_set_self (by rw [h.len]; exact hn)]; rfl
    · rw [if_neg (by simp; omega), List.getD_eq_getElem?_getD, List.getD_eq_getElem?_getD, List.getElem?_set_ne e]
theorem ReadsAs.settle {D : Dv} {W : List Sec} (h : ReadsAs D W) : ReadsAs (settleD D) W := by
  refine ⟨by show (settleV D.st D.ca).length = 64; rw [settleV_len]; exact h.st, h.len, fun w hw => (by cases hw), fun n hn => ?_⟩
  show readsV (settleV D.st D.ca) [] (n : Int) = _
  rw [readsV_nil, Int.toNat_natCast, settle_reads D.st n (by rw [h.st]; exact hn) _ D.ca rfl h.ats, h.val n hn]
theorem num_lt (p : Pu) : p.num < 64 := Nat.mod_lt _ (by omega)
theorem ReadsAs.put {D : Dv} {W : List Sec} (h : ReadsAs D W) (p : Pu) : ReadsAs (putD D p) (wantP W p) := by
  unfold putD wantP
  split
  · exact (h.push _ (num_lt p) _).settle
  · exact h.push _ (num_lt p) _
theorem ReadsAs.puts : ∀ (L : List Pu) {D : Dv} {W : List Sec}, ReadsAs D W → ReadsAs (putsD D L) (L.foldl wantP W)
  | [], _, _, h => h
  | p :: L, _, _, h => ReadsAs.puts L (h.put p)
theorem readsAs_new : ReadsAs (newD 64) zs := ⟨by simp [newD], by simp [zs], (fun w hw => by cases hw), fun n hn => by
  show readsV (List.replicate 64 Sec.zero) [] (n : Int) = _
  rw [readsV_nil, Int.toNat_natCast]; rfl⟩
theorem ReadsAs.read {D : Dv} {W : List Sec} (h : ReadsAs D W) (ho : D.off = false) (n : Nat) (hn : n < 64) : readE D n = 0 ∧ readD D n = W[n]'(by rw [h.len]; exact hn) := by
  have hi : inS D.st.length (n : Int) = true := inS_mk (by omega) (by rw [h.st]; omega)
  constructor
  · unfold readE; rw [ho, hi]; rfl
  · unfold readD; rw [ho, hi]
    show readsV D.st D.ca n = _
    rw [h.val n hn, List.getD_eq_getElem?_getD, List.getElem?_eq_getElem (by rw [h.len]; exact hn)]; rfl
theorem putsD_tk : ∀ (L : List Pu) (D : Dv), (putsD D L).tk = D.tk + L.length
  | [], D => by simp [putsD]
  | p :: L, D => by
    show (putsD (putD D p) L).tk = _
    rw [putsD_tk L]
    have : (putD D p).tk = D.tk + 1 := by unfold putD; split <;> rfl
    rw [this]; simp; omega

/-- What came in is turned by no call on new devices. -/
theorem safe_arg {sz : Nat} {w : World} {v : Value} {L : List (List Value)} (h : ElemsAt sz w v L) (F : Nat → Prop) : Safe w.heap.size F v := by
  intro g o m c e hm
  rcases h with ⟨a', c', rfl, hn⟩ | ⟨g', o', c', rfl, hg, _⟩
  · injection e with _ e2; exact absurd e2.symm hm
  · injection e with e1; injection e1 with e1; injection e1 with e1; left; omega

/-! ### An array of 64 sectors -/
theorem Try.info64 : (Try.prog.info? 51).map (fun i => (i.zero, i.size)) = some (some (.agg (secC zs).toArray), 8192) := by kernel_rfl
noncomputable def alloc64 : Sem Value := Instr.alloc 51 true (.tuple #[])
theorem alloc64_eq : Instr.alloc 51 true (.tuple #[]) = alloc64 := rfl
theorem run_alloc64 (w : World) : alloc64.run Try.prog w = .ok (.pointer (some ⟨w.heap.size, 0, none⟩)) (w.alloc (.cells (secC zs).toArray 51 (0, 0))) := by
  have h := Try.info64
  cases hq : Try.prog.info? 51 with
  | none => rw [hq] at h; cases h
  | some i =>
    rw [hq] at h
    simp only [Option.map_some, Option.some.injEq, Prod.mk.injEq] at h
    simp [alloc64, Instr.alloc, zeroValue, typeInfo, hq, h.1, newVar, newRow, Value.cells]
/-- The block that holds the sectors W. -/
abbrev rowO (W : List Sec) : Obj := .cells (secC W).toArray 51 (0, 0)
theorem row_load {w : World} {g : Nat} {W : List Sec} (h : w.heap[g]? = some (rowO W)) (k : Nat) (hk : k < W.length) : (loadS (.pointer (some ⟨g, k * 128, none⟩))).run Try.prog w = .ok (.agg W[k].A) w :=
  load_at (aggSec w) szSec W[k].cs_len (fun j u hj => by
    rw [cell_of_row w g _ _ _ (0, 0) h]
    have := flat_get (W.map Sec.cs) (secs_len W) k W[k].cs (by simp [hk]) j u hj
    simpa [secC] using this)
theorem row_store {w : World} {g : Nat} {W : List Sec} (h : w.heap[g]? = some (rowO W)) (k : Nat) (hk : k < W.length) (s : Sec) : ∃ cs, (storeS (.pointer (some ⟨g, k * 128, none⟩)) (.agg s.A)).run Try.prog w = .ok () (w.setRow g cs) ∧ (w.setRow g cs).heap[g]? = some (rowO (W.set k s)) := by
  have hsz : (secC W).toArray.size = W.length * 128 := by simp [secC_len]
  have hst := store_at (T := 50) (w := w) szSec (g := g) (o := k * 128) (cs := s.cs) s.cs_len h (by rw [hsz]; omega) s.one
  refine ⟨_, hst, ?_⟩
  rw [setRow_heap w g _ _ _ _ h]
  have e : secC (W.set k s) = (secC W).take (k * 128) ++ s.cs ++ (secC W).drop (k * 128 + 128) := by
    unfold secC
    rw [List.map_set]
    exact flat_set _ (secs_len W) k s.cs (by simpa using hk)
  rw [rowO, e]
/-- A store into the array, as the walk of a drawn region leaves it. -/
theorem row_mid {w : World} {g : Nat} {W : List Sec} (h : w.heap[g]? = some (rowO W)) (k : Nat) (hk : k < W.length) (s : Sec) : w.there g (k * 128) 128 ∧ (w.setCells g (k * 128) s.cs).heap[g]? = some (rowO (W.set k s)) ∧ Kept (fun b => b = g) w (w.setCells g (k * 128) s.cs) := by
  have hsz : (secC W).toArray.size = W.length * 128 := by simp [secC_len]
  have ht : w.there g (k * 128) 128 := fun j hj => by
    refine ⟨?_, frozen_of_row w g _ _ _ h⟩
    rw [cell_of_row w g _ _ _ (0, 0) h, Array.getElem?_eq_getElem (by rw [hsz]; omega)]; rfl
  obtain ⟨cs, hst, hrow⟩ := row_store h k hk s
  have hm := run_storeAt_mid (P := Try.prog) w g (k * 128) 50 s.A (by rw [s.A_size]; exact ht) (by rw [szSec, s.A_size]) (by simpa [Sec.A] using s.one)
  have e : w.setRow g cs = w.setCells g (k * 128) s.cs := by
    have h1 : (Result.ok () (w.setRow g cs) : Result Unit) = .ok () (w.setCells g (k * 128) s.A.toList) := hst.symm.trans hm
    injection h1
  rw [← e]
  exact ⟨ht, hrow, Kept.setRow (X := fun b => b = g) (Kept.refl _ w) g rfl cs⟩
/-- A foreign block turns. -/
theorem Many.row {n g : Nat} {l : List (Nat × Dv)} {F : Nat → Prop} {w w' : World} (h : Many n F w l) (hk : Kept (fun b => b = g) w w') (hF : F g) : Many n F w' l :=
  h.change hk (fun k e => .inl (e ▸ hF)) (fun _ h => .inl h) (fun k hk' => Nat.lt_of_lt_of_le (h.lt k hk') hk.size)
end Go.Proofs.Ytpboknepfjeljaa
