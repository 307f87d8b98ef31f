/- Two appends onto an empty slice of the call's own: bytes; values. -/
import Derived.Test.YtnocmkjaifjgfaaDoorRLaw
import Derived.Deep.Upon
import Derived.Deep.AppendSrc
namespace Go.Proofs.YtnocmkjaifjgfaaDoor.R
open Go.RowKit

/-- What a slice holds that is appended. -/
def SrcAt (size : Nat) (w : World) (x : Value) (m : Nat) (news : List Value) : Prop :=
  (∃ a c, x = .slice a 0 c ∧ m = 0 ∧ news = []) ∨
  (∃ g o c, x = .slice (some ⟨g, o, none⟩) m c ∧ g < w.heap.size ∧ news.length = m * size ∧ ∀ j u, news[j]? = some u → w.cell? ⟨g, o + j, none⟩ = some u ∧ u.oneCell' = true)
theorem SrcAt.below {size n m : Nat} {A B : World} {x : Value} {news : List Value} (h : SrcAt size A x m news) (hk : Below n A B) (hn : A.heap.size ≤ n) : SrcAt size B x m news := by
  rcases h with h | ⟨g, o, c, rfl, hg, hl, hc⟩
  · exact .inl h
  · have := hk.size
    exact .inr ⟨g, o, c, rfl, by omega, hl, fun j u hj => ⟨by rw [hk.cell (p := ⟨g, o + j, none⟩) (by show g < n; omega)]; exact (hc j u hj).1, (hc j u hj).2⟩⟩
theorem srcBytes {w : World} {x : Value} {l : List UInt8} (h : BytesAt w x l) : SrcAt 1 w x l.length (Lib.byteCells l) := by
  rcases h with ⟨a, c, rfl, rfl⟩ | ⟨g, o, c, rfl, hg, hc⟩
  · exact .inl ⟨a, c, rfl, rfl, rfl⟩
  · refine .inr ⟨g, o, c, rfl, hg, by simp [Lib.byteCells], fun j u hj => ?_⟩
    unfold Lib.byteCells at hj
    rw [List.getElem?_map] at hj
    have hjl : j < l.length := by
      rcases Nat.lt_or_ge j l.length with h | h
      · exact h
      · rw [List.getElem?_eq_none h] at hj; simp at hj
    rw [List.getElem?_eq_getElem hjl] at hj
    simp at hj; subst hj
    exact ⟨hc j hjl, rfl⟩
/-- The cells of values. -/
def ValCells (w : World) (l : List Rv) (news : List Value) : Prop :=
  ∀ k (h : k < l.length), news[k * 3]? = some (.int .u64 (l[k].num : Nat)) ∧ news[k * 3 + 1]? = some (.string l[k].str) ∧ ∃ x, news[k * 3 + 2]? = some x ∧ NumsAt w x l[k].list
theorem srcVals {w : World} {x : Value} {l : List Rv} (h : ValsAt w x l) : ∃ news, SrcAt 3 w x l.length news ∧ ValCells w l news ∧ news.length = l.length * 3 := by
  rcases h with ⟨a, c, rfl, rfl⟩ | ⟨g, o, c, rfl, hg, hc⟩
  · exact ⟨[], .inl ⟨a, c, rfl, rfl, rfl⟩, fun k h => by simp at h, rfl⟩
  · have hf : ∀ j, j < l.length * 3 → ∃ u, w.cell? ⟨g, o + j, none⟩ = some u ∧ u.oneCell' = true := by
      intro j hj
      obtain ⟨h0, h1, y, h2, h3⟩ := hc (j / 3) (by omega)
      have hr : j % 3 = 0 ∨ j % 3 = 1 ∨ j % 3 = 2 := by omega
      rcases hr with hr | hr | hr
      · rw [show o + j = o + j / 3 * 3 from by omega]; exact ⟨_, h0, rfl⟩
      · rw [show o + j = o + j / 3 * 3 + 1 from by omega]; exact ⟨_, h1, rfl⟩
      · rw [show o + j = o + j / 3 * 3 + 2 from by omega]
        obtain ⟨a, d, rfl⟩ := h3.shape
        exact ⟨_, h2, rfl⟩
    have hg2 : ∀ j, j < l.length * 3 → ((List.range (l.length * 3)).map fun j => (w.cell? ⟨g, o + j, none⟩).getD (.bool false))[j]? = w.cell? ⟨g, o + j, none⟩ := by
      intro j hj
      obtain ⟨u, hu, _⟩ := hf j hj
      rw [List.getElem?_map, List.getElem?_range hj, hu]
      simp [hu]
    refine ⟨(List.range (l.length * 3)).map fun j => (w.cell? ⟨g, o + j, none⟩).getD (.bool false), .inr ⟨g, o, c, rfl, hg, by simp, fun j u hj => ?_⟩, fun k hk => ?_, by simp⟩
    · have hjl : j < l.length * 3 := by
        rcases Nat.lt_or_ge j (l.length * 3) with h | h
        · exact h
        · rw [List.getElem?_eq_none (by simpa using h)] at hj; simp at hj
      obtain ⟨v, hv, h1⟩ := hf j hjl
      rw [hg2 j hjl, hv] at hj
      injection hj with hj
      subst hj
      exact ⟨hv, h1⟩
    · obtain ⟨h0, h1, y, h2, h3⟩ := hc k hk
      exact ⟨by rw [hg2 _ (by omega)]; exact h0, by rw [hg2 _ (by omega)]; exact h1, y, by rw [hg2 _ (by omega)]; exact h2, h3⟩

theorem app_src {W : World} {t ty e : TypeId} {i : TypeInfo} {z : Value} {size bytes base g n cap m : Nat} {xs news : List Value} {x : Value} (ht : Tryd.prog.underlying t = some (.slice e)) (hi : Tryd.prog.info? e = some i) (hz : i.zero = some z) (hsize : i.size = size) (hby : i.bytes = bytes) (hzs : z.cells.size = size) (hsz : 0 < size)
    (hown : W.ownsRow base e size (.slice (some ⟨g, 0, none⟩) n cap) n xs) (hx : SrcAt size W x m news) (h63 : n + m ≤ 1000000) (hbytes : (n + m) * bytes ≤ 140737488355328) (hb : base ≤ W.heap.size) :
    ∃ g' c' w', (Builtin.append_ #[t, t] ty #[.slice (some ⟨g, 0, none⟩) n cap, x]).run Tryd.prog W = .ok (.slice (some ⟨g', 0, none⟩) (n + m) c') w' ∧ w'.ownsRow base e size (.slice (some ⟨g', 0, none⟩) (n + m) c') (n + m) (xs ++ news) ∧ Kept (fun k => g = k) W w' := by
  have hnc : n ≤ cap := by
    rcases hown.2 with ⟨h, _⟩ | ⟨g', cap', cur, h, _, _, hn, _⟩
    · cases h
    · cases h; exact hn
  rcases hx with ⟨a, c, rfl, rfl, rfl⟩ | ⟨b, o, c, rfl, hlt, hl, hcell⟩
  · have hs : Src Tryd.prog i.size t (.slice a 0 c) 0 [] W := by
      cases a with
      | none => exact Src.ofNil W ht c
      | some ad => exact Src.ofSlice W ht ad 0 c [] (by simp) (fun j u h => by simp at h) (fun u h => by cases h)
    exact ⟨g, cap, W, run_append_nothing W _ _ ty _ i ht hi _ n cap hnc _ hs, by simpa using hown, Kept.refl _ _⟩
  · obtain ⟨v', w', hr, h1, h2, h3, h4⟩ := run_append_own_at (P := Tryd.prog) W base t ty e i z size bytes ht hi hz hsize hby hzs hsz _ n xs hown ⟨b, o, none⟩ m c news hl
      (fun j u hj => by rw [addr_add]; exact (hcell j u hj).1)
      (by intro u hu; obtain ⟨j, hj⟩ := List.getElem?_of_mem hu; exact (hcell j u hj).2) (by unfold maxLen; omega) hbytes hb
    rcases h1.2 with ⟨h, h0⟩ | ⟨g', cap', cur, h, _⟩
    · have := h3.1 h
      cases this.1
    · subst h
      refine ⟨g', cap', w', hr, h1, (Kept.grown h2).mono (fun k e => ?_)⟩
      simp [Value.ownBlock] at e
      exact e
theorem two_src {W : World} {t ty e : TypeId} {i : TypeInfo} {z : Value} {size bytes m n : Nat} {xs ys : List Value} {x y : Value} (ht : Tryd.prog.underlying t = some (.slice e)) (hi : Tryd.prog.info? e = some i) (hz : i.zero = some z) (hsize : i.size = size) (hby : i.bytes = bytes) (hzs : z.cells.size = size) (hsz : 0 < size)
    (hx : SrcAt size W x m xs) (hy : SrcAt size W y n ys) (h63 : m + n ≤ 1000000) (hbytes : bytes ≤ 1000) :
    ∃ g1 c1 w1 g2 c2 w2, (Builtin.append_ #[t, t] ty #[.slice (some ⟨W.heap.size, 0, none⟩) 0 0, x]).run Tryd.prog (W.alloc (.cells #[] e (0, 0))) = .ok (.slice (some ⟨g1, 0, none⟩) m c1) w1 ∧
      (Builtin.append_ #[t, t] ty #[.slice (some ⟨g1, 0, none⟩) m c1, y]).run Tryd.prog w1 = .ok (.slice (some ⟨g2, 0, none⟩) (m + n) c2) w2 ∧
      w2.ownsRow W.heap.size e size (.slice (some ⟨g2, 0, none⟩) (m + n) c2) (m + n) (xs ++ ys) ∧ Below W.heap.size W w1 ∧ Below W.heap.size W w2 := by
  have hA := (Below.refl W.heap.size W).alloc (Nat.le_refl _) (.cells #[] e (0, 0))
  have h0 : (W.alloc (.cells #[] e (0, 0))).ownsRow W.heap.size e size (.slice (some ⟨W.heap.size, 0, none⟩) 0 0) 0 [] := ⟨by simp, .inr ⟨W.heap.size, 0, #[], rfl, Nat.le_refl _, heap_alloc_new W _, Nat.le_refl _, by unfold maxLen; omega, by simp, by simp⟩⟩
  have hmul : ∀ q, q ≤ 1000000 → q * bytes ≤ 140737488355328 := fun q hq => by
    have := Nat.mul_le_mul hq hbytes
    omega
  obtain ⟨g1, c1, w1, hr1, ho1, hk1⟩ := app_src (ty := ty) ht hi hz hsize hby hzs hsz h0 (hx.below hA (Nat.le_refl _)) (by omega) (hmul _ (by omega)) (by simp)
  rw [Nat.zero_add] at hr1 ho1
  have hB1 : Below W.heap.size W w1 := hA.trans (hk1.toBelow (by simp) (fun k hk e => by omega))
  obtain ⟨g2, c2, w2, hr2, ho2, hk2⟩ := app_src (ty := ty) ht hi hz hsize hby hzs hsz ho1 (hy.below hB1 (Nat.le_refl _)) h63 (hmul _ h63) hB1.size
  have hg1 := (ho1.lt g1 rfl).1
  exact ⟨g1, c1, w1, g2, c2, w2, hr1, hr2, by simpa using ho2, hB1, hB1.trans (hk2.toBelow hB1.size (fun k hk e => by omega))⟩

noncomputable def appB (ty : TypeId) (xs : Array Value) : Sem Value := Builtin.append_ #[22, 22] ty xs
theorem appB_eq (ty : TypeId) (xs : Array Value) : Builtin.append_ #[22, 22] ty xs = appB ty xs := rfl
noncomputable def appV (ty : TypeId) (xs : Array Value) : Sem Value := Builtin.append_ #[39, 39] ty xs
theorem appV_eq (ty : TypeId) (xs : Array Value) : Builtin.append_ #[39, 39] ty xs = appV ty xs := rfl

theorem two_bytes {W : World} {x y : Value} {l m : List UInt8} (hx : BytesAt W x l) (hy : BytesAt W y m) (hl : l.length + m.length ≤ 1000000) :
    ∃ g1 c1 w1 g2 c2 w2, (appB 22 #[.slice (some ⟨W.heap.size, 0, none⟩) 0 0, x]).run Tryd.prog (W.alloc (.cells #[] 5 (0, 0))) = .ok (.slice (some ⟨g1, 0, none⟩) l.length c1) w1 ∧
      (appB 22 #[.slice (some ⟨g1, 0, none⟩) l.length c1, y]).run Tryd.prog w1 = .ok (.slice (some ⟨g2, 0, none⟩) (l ++ m).length c2) w2 ∧
      BytesAt w2 (.slice (some ⟨g2, 0, none⟩) (l ++ m).length c2) (l ++ m) ∧ (l ++ m).length ≤ c2 ∧ Below W.heap.size W w1 ∧ Below W.heap.size W w2 := by
  obtain ⟨i0, hi, hz0, hz1, hz2⟩ := info_parts infoByte
  obtain ⟨g1, c1, w1, g2, c2, w2, h1, h2, h3, h4, h5⟩ := two_src (ty := 22) Tryd.underlying22 hi hz0 hz1 hz2 rfl (by decide) (srcBytes hx) (srcBytes hy) hl (by decide)
  rw [← List.length_append] at h2 h3
  rw [← byteCells_append] at h3
  have h6 : Row w2 W.heap.size (.slice (some ⟨g2, 0, none⟩) (l ++ m).length c2) (l ++ m) := h3
  refine ⟨g1, c1, w1, g2, c2, w2, h1, h2, h6.at_, ?_, h4, h5⟩
  rcases h3.2 with ⟨h, _⟩ | ⟨g', cap', cur, h, _, _, hn, _⟩
  · cases h
  · cases h; exact hn
theorem two_vals {W : World} {x y : Value} {l m : List Rv} (hx : ValsAt W x l) (hy : ValsAt W y m) (hl : l.length + m.length ≤ 1000000) :
    ∃ g1 c1 w1 g2 c2 w2, (appV 39 #[.slice (some ⟨W.heap.size, 0, none⟩) 0 0, x]).run Tryd.prog (W.alloc (.cells #[] 38 (0, 0))) = .ok (.slice (some ⟨g1, 0, none⟩) l.length c1) w1 ∧
      (appV 39 #[.slice (some ⟨g1, 0, none⟩) l.length c1, y]).run Tryd.prog w1 = .ok (.slice (some ⟨g2, 0, none⟩) (l ++ m).length c2) w2 ∧
      ValsAt w2 (.slice (some ⟨g2, 0, none⟩) (l ++ m).length c2) (l ++ m) ∧ (l ++ m).length ≤ c2 ∧ Below W.heap.size W w1 ∧ Below W.heap.size W w2 := by
  obtain ⟨i0, hi, hz0, hz1, hz2⟩ := info_parts infoVal
  obtain ⟨xs, s1, e1, n1⟩ := srcVals hx
  obtain ⟨ys, s2, e2, n2⟩ := srcVals hy
  obtain ⟨g1, c1, w1, g2, c2, w2, h1, h2, h3, h4, h5⟩ := two_src (ty := 39) Tryd.underlying39 hi hz0 hz1 hz2 rfl (by decide) s1 s2 hl (by decide)
  rw [← List.length_append] at h2 h3
  have h3' := h3
  rcases h3'.2 with ⟨h, _⟩ | ⟨g', cap', cur, h, _, hg, hn, _⟩
  · cases h
  · cases h
    refine ⟨g1, c1, w1, g2, c2, w2, h1, h2, .inr ⟨g2, 0, c2, rfl, (Array.getElem?_eq_some_iff.1 hg).1, fun k hk => ?_⟩, hn, h4, h5⟩
    have hall : (xs ++ ys)[k * 3]? = some (.int .u64 ((l ++ m)[k].num : Nat)) ∧ (xs ++ ys)[k * 3 + 1]? = some (.string (l ++ m)[k].str) ∧ ∃ x, (xs ++ ys)[k * 3 + 2]? = some x ∧ NumsAt W x (l ++ m)[k].list := by
      by_cases hkl : k < l.length
      · obtain ⟨a0, a1, u, a2, a3⟩ := e1 k hkl
        rw [List.getElem_append_left hkl, List.getElem?_append_left (by omega), List.getElem?_append_left (by omega), List.getElem?_append_left (by omega)]
        exact ⟨a0, a1, u, a2, a3⟩
      · have hk2 : k - l.length < m.length := by rw [List.length_append] at hk; omega
        obtain ⟨a0, a1, u, a2, a3⟩ := e2 (k - l.length) hk2
        rw [List.getElem_append_right (by omega), List.getElem?_append_right (by omega), List.getElem?_append_right (by omega), List.getElem?_append_right (by omega), n1,
          show k * 3 - l.length * 3 = (k - l.length) * 3 from by omega, show k * 3 + 1 - l.length * 3 = (k - l.length) * 3 + 1 from by omega, show k * 3 + 2 - l.length * 3 = (k - l.length) * 3 + 2 from by omega]
        exact ⟨a0, a1, u, a2, a3⟩
    obtain ⟨a0, a1, u, a2, a3⟩ := hall
    have q0 := h3.cells (g := g2) rfl _ _ a0
    have q1 := h3.cells (g := g2) rfl _ _ a1
    have q2 := h3.cells (g := g2) rfl _ _ a2
    rw [addr_add] at q0 q1 q2
    exact ⟨q0, by rw [Nat.add_assoc]; exact q1, u, by rw [Nat.add_assoc]; exact q2, a3.below h5 (Nat.le_refl _)⟩
end Go.Proofs.YtnocmkjaifjgfaaDoor.R
