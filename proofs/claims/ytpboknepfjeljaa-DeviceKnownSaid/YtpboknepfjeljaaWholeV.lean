/- What DeviceWhole needs: plain; Diff of two of the devices. -/
import Derived.Test.YtpboknepfjeljaaSave
namespace Go.Proofs.Ytpboknepfjeljaa
open Go.RowKit Go.MapKept
set_option maxRecDepth 100000

theorem diffL_nil {D E : Dv} (k : Nat) (h : ∀ n, n < k → readsV D.st D.ca n = readsV E.st E.ca n) : diffL D E k = [] := by
  unfold diffL
  rw [List.filter_eq_nil_iff]
  intro n hn
  rw [h n (List.mem_range.1 hn)]; simp
theorem Many.dev {n b : Nat} {D : Dv} : ∀ {l : List (Nat × Dv)} {F : Nat → Prop} {w : World}, Many n F w l → (b, D) ∈ l → ∃ X, DevAt w b X D
  | [], _, _, _, hm => by cases hm
  | (c, E) :: r, F, w, ⟨X, h1, h2, h3⟩, hm => by
    rcases List.mem_cons.1 hm with e | e
    · cases e; exact ⟨X, h1⟩
    · exact Many.dev h3 e
/-- Diff of two devices that read alike. -/
theorem diff0_many {n b c : Nat} {F : Nat → Prop} {w : World} {l : List (Nat × Dv)} {D E : Dv} (h : Many n F w l) (hD : (b, D) ∈ l) (hE : (c, E) ∈ l) (hl : D.st.length = E.st.length) (hr : ∀ n, n < D.st.length → readsV D.st D.ca n = readsV E.st E.ca n) :
    Calls Try.prog 28 #[.pointer (some ⟨b, 0, none⟩), .pointer (some ⟨c, 0, none⟩)] w fun e w' => ∃ a cp, e = .returned (.tuple #[.slice a 0 cp, .int .i64 0]) ∧ Below w.heap.size w w' := by
  obtain ⟨X, hX⟩ := h.dev hD
  obtain ⟨Y, hY⟩ := h.dev hE
  refine (diff_same hX hY hl).mono fun e w' ⟨v, he, ho, hb⟩ => ?_
  rw [diffL_nil _ hr] at ho
  obtain ⟨a, cp, rfl⟩ := row_shape ho
  exact ⟨a, cp, he, hb⟩

def noF (p : Pu) : Pu := { p with fl := false }
theorem putD_noF (D : Dv) (p : Pu) : putD D (noF p) = push D p.num p.sec := rfl
theorem puts_noF : ∀ (M : List Pu) (D : Dv), (putsD D (M.map noF)).st = D.st ∧ (putsD D (M.map noF)).ca = D.ca ++ (M.map noF).map Pu.wr
  | [], D => by simp [putsD]
  | p :: M, D => by
    obtain ⟨h1, h2⟩ := puts_noF M (push D p.num p.sec)
    constructor
    · exact h1
    · show (putsD (push D p.num p.sec) (M.map noF)).ca = _
      rw [h2]
      show (D.ca ++ [_]) ++ _ = _
      rw [List.append_assoc]; rfl
theorem keep_all (n : Nat) : keepE n ((List.range n).map fun (i : Nat) => (i : Int)) = 0 := by
  refine keepE_0 (List.all_eq_true.2 fun x hx => ?_) fun i h => ?_
  · obtain ⟨i, hi, rfl⟩ := List.mem_map.1 hx
    exact inS_mk (by omega) (by have := List.mem_range.1 hi; omega)
  · simp; omega
theorem keptV_all (ca : List Wr) : keptV ca ((List.range ca.length).map fun (i : Nat) => (i : Int)) = ca := by
  have : ∀ k, k ≤ ca.length → keptV ca ((List.range k).map fun (i : Nat) => (i : Int)) = ca.take k := by
    intro k
    induction k with
    | zero => intro _; simp [keptV]
    | succ k ih =>
      intro hk
      rw [List.range_succ, List.map_append, List.map_singleton, keptV_snoc _ _ _ (by omega), ih (by omega), List.take_succ_eq_append_getElem (by omega)]
  rw [this _ (Nat.le_refl _), List.take_length]
theorem crash_all (D : Dv) : crashedD D ((List.range D.ca.length).map fun (i : Nat) => (i : Int)) = { st := settleV D.st D.ca, ca := [], tk := D.tk, pw := -1, off := false } := by
  unfold crashedD; rw [keptV_all]
theorem Takes.crash {D : Dv} {m : Nat} (h : Takes D m) (K : List Int) : Takes (crashedD D K) m :=
  ⟨rfl, rfl, by have := h.ca; show 0 + m ≤ 400; omega, h.tk, by show (settleV D.st _).length = 64; rw [settleV_len]; exact h.st⟩

/-! ### A row of writes of the law -/
theorem flat_set1 {sz : Nat} : ∀ (L : List (List Value)), (∀ e ∈ L, e.length = sz) → ∀ (k j : Nat) (e : List Value) (u : Value), L[k]? = some e → j < sz → L.flatten.set (k * sz + j) u = (L.set k (e.set j u)).flatten
  | [], _, k, j, e, u, hk, _ => by simp at hk
  | x :: L, h, 0, j, e, u, hk, hj => by
    have hx : x.length = sz := h x (by simp)
    simp at hk; subst hk
    rw [Nat.zero_mul, Nat.zero_add, List.flatten_cons, List.set_append_left _ _ (by omega), List.set_cons_zero, List.flatten_cons]
  | x :: L, h, k + 1, j, e, u, hk, hj => by
    have hx : x.length = sz := h x (by simp)
    have ih := flat_set1 L (fun e he => h e (by simp [he])) k j e u (by simpa using hk) hj
    rw [List.flatten_cons, List.set_append_right _ _ (by rw [hx, Nat.add_mul]; omega), hx, show (k + 1) * sz + j - sz = k * sz + j from by rw [Nat.add_mul]; omega, ih, List.set_cons_succ, List.flatten_cons]
def puC (L : List Pu) : List Value := (L.map Pu.cs).flatten
theorem puts_len (L : List Pu) : ∀ e ∈ L.map Pu.cs, e.length = 3 := by
  intro e he; obtain ⟨s, _, rfl⟩ := List.mem_map.1 he; rfl
theorem puC_len (L : List Pu) : (puC L).length = L.length * 3 := by unfold puC; rw [flat_len _ (puts_len L), List.length_map]
def mixL (L : List Pu) (k : Nat) : List Pu := (L.take k).map noF ++ L.drop k
theorem mixL_len (L : List Pu) (k : Nat) (hk : k ≤ L.length) : (mixL L k).length = L.length := by simp [mixL]; omega
theorem mixL_zero (L : List Pu) : mixL L 0 = L := by simp [mixL]
theorem mixL_all (L : List Pu) : mixL L L.length = L.map noF := by simp [mixL]
theorem mixL_get (L : List Pu) (k : Nat) (hk : k < L.length) : (mixL L k)[k]? = some L[k] := by
  unfold mixL
  rw [List.getElem?_append_right (by simp; omega)]
  have : k - ((L.take k).map noF).length = 0 := by simp; omega
  rw [this]; simp [hk]
theorem mixL_succ (L : List Pu) (k : Nat) (hk : k < L.length) : mixL L (k + 1) = (mixL L k).set k (noF L[k]) := by
  unfold mixL
  have hl : ((L.take k).map noF).length = k := by simp; omega
  rw [List.set_append_right _ _ (by omega), hl, Nat.sub_self, List.take_succ_eq_append_getElem hk, List.map_append, List.append_assoc]
  congr 1
  rw [List.drop_eq_getElem_cons hk, List.set_cons_zero]; rfl
theorem puC_mix (L : List Pu) (k : Nat) (hk : k < L.length) : (puC (mixL L k)).set (k * 3 + 2) (.bool false) = puC (mixL L (k + 1)) := by
  unfold puC
  rw [flat_set1 _ (puts_len _) k 2 L[k].cs _ (by rw [List.getElem?_map, mixL_get L k hk]; rfl) (by omega), mixL_succ L k hk, List.map_set]
  rfl
theorem puts_one (L : List Pu) : ∀ u ∈ (L.map Pu.cs).flatten, u.oneCell' = true := by
  intro u hu
  obtain ⟨l, hl, hu⟩ := List.mem_flatten.1 hu
  obtain ⟨p, _, rfl⟩ := List.mem_map.1 hl
  simp [Pu.cs] at hu
  rcases hu with rfl | rfl | rfl <;> rfl
theorem Try.infoPut : (Try.prog.info? 54).map (fun i => (i.zero, i.size, i.bytes)) = some (some (.agg #[.int .u8 0, .int .u8 0, .bool false]), 3, 3) := by kernel_rfl

/-! ### The states -/
structure WS (L M : List Pu) : Prop where
  l : L.length ≤ 60
  m : M.length ≤ 60
def wA (L : List Pu) : Dv := settleD (putsD (newD 64) L)
def wB (L M : List Pu) : Dv := putsD (wA L) (M.map noF)
def allI (n : Nat) : List Int := (List.range n).map fun (i : Nat) => (i : Int)
def wC (L M : List Pu) : Dv := crashedD (wB L M) (allI M.length)
def wD (L M : List Pu) : Dv := settleD (wB L M)
def wE (L M : List Pu) : Dv := crashedD (putsD (wC L M) (M.map noF)) []
def wG (L M : List Pu) : Dv := crashedD (wB L M) []
theorem wA_takes {L M : List Pu} (h : WS L M) : Takes (wA L) (M.map noF).length := ((Takes.puts (D := newD 64) L (M.map noF).length (newD 64) (takes_new _ (by rw [List.length_map]; have := h.l; have := h.m; omega)))).settle
theorem wB_len (L M : List Pu) : (wB L M).ca.length = M.length := by
  unfold wB; rw [(puts_noF M (wA L)).2]
  show ([] ++ _ : List Wr).length = _
  simp
theorem wC_eq (L M : List Pu) : wC L M = { st := settleV (wB L M).st (wB L M).ca, ca := [], tk := (wB L M).tk, pw := -1, off := false } := by
  unfold wC allI; rw [← wB_len L M]; exact crash_all _
theorem wC_keep (L M : List Pu) : keepE (wB L M).ca.length (allI M.length) = 0 := by rw [wB_len]; exact keep_all _
theorem wC_takes {L M : List Pu} (h : WS L M) : Takes (wC L M) (M.map noF).length := by
  have h1 : Takes (wA L) ((M.map noF).length + (M.map noF).length) := (Takes.puts (D := newD 64) L _ (newD 64) (takes_new _ (by rw [List.length_map]; have := h.l; have := h.m; omega))).settle
  exact (Takes.puts (D := wA L) _ _ (wA L) h1).crash _
theorem wE_keep (n : Nat) : keepE n [] = 0 := rfl
theorem st64 {D : Dv} {m : Nat} (h : Takes D m) : D.st.length = 64 := h.st
theorem wB_takes {L M : List Pu} (h : WS L M) : Takes (wB L M) 0 := Takes.puts (D := wA L) _ 0 (wA L) (by rw [Nat.add_zero]; exact wA_takes h)
theorem reads1 (L M : List Pu) : ∀ n, n < (wC L M).st.length → readsV (wC L M).st (wC L M).ca n = readsV (wD L M).st (wD L M).ca n := fun n _ => by rw [wC_eq]; rfl
theorem reads2 (L M : List Pu) : ∀ n, n < (wE L M).st.length → readsV (wE L M).st (wE L M).ca n = readsV (wD L M).st (wD L M).ca n := fun n _ => by
  have e : (wE L M).st = (wD L M).st := by
    show (settleV (putsD (wC L M) (M.map noF)).st []) = _
    show (putsD (wC L M) (M.map noF)).st = _
    rw [(puts_noF M (wC L M)).1, wC_eq]; rfl
  show readsV (wE L M).st [] n = readsV (wD L M).st [] n
  rw [e]
theorem reads3 (L M : List Pu) : ∀ n, n < (wG L M).st.length → readsV (wG L M).st (wG L M).ca n = readsV (putsD (newD 64) L).st (putsD (newD 64) L).ca n := fun n hn => by
  have e : (wG L M).st = (wA L).st := by
    show (settleV (wB L M).st []) = _
    show (putsD (wA L) (M.map noF)).st = _
    exact (puts_noF M (wA L)).1
  have hr : ReadsAs (putsD (newD 64) L) (L.foldl wantP zs) := ReadsAs.puts L readsAs_new
  have hl : n < (putsD (newD 64) L).st.length := by
    rw [e] at hn
    have : (wA L).st.length = (putsD (newD 64) L).st.length := settleV_len _ _
    omega
  show readsV (wG L M).st [] n = _
  rw [e, readsV_nil, Int.toNat_natCast]
  exact settle_reads _ n hl _ _ rfl hr.ats
theorem wE_len {L M : List Pu} (h : WS L M) : (wE L M).st.length = 64 := (Takes.crash (Takes.puts (D := wC L M) (M.map noF) 0 (wC L M) (by rw [Nat.add_zero]; exact wC_takes h)) []).st
theorem wD_len {L M : List Pu} (h : WS L M) : (wD L M).st.length = 64 := (wB_takes h).settle.st
theorem wG_len {L M : List Pu} (h : WS L M) : (wG L M).st.length = 64 := ((wB_takes h).crash []).st
theorem wL_len {L M : List Pu} (h : WS L M) : (putsD (newD 64) L).st.length = 64 := (Takes.puts (D := newD 64) L 0 (newD 64) (takes_new _ (by have := h.l; omega))).st
theorem wC_len {L M : List Pu} (h : WS L M) : (wC L M).st.length = 64 := ((wB_takes h).crash _).st
end Go.Proofs.Ytpboknepfjeljaa
