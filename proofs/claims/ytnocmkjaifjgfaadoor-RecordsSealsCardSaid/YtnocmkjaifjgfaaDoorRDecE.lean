/- Decode, Whole. -/
import Derived.Test.YtnocmkjaifjgfaaDoorRDecD
import Derived.Test.YtnocmkjaifjgfaaDoorREncG
import Derived.ScopeJumps
import Derived.WalkMore
namespace Go.Proofs.YtnocmkjaifjgfaaDoor.R
open Go.RowKit
attribute [local go_sem] run_store_func run_store_nilFunc

theorem infoVal : (Tryd.prog.info? 38).map (fun i => (i.zero, i.size, i.bytes)) = some (some (.agg #[.int .u64 0, .string ⟨#[]⟩, .slice none 0 0]), 3, 48) := by kernel_rfl
/-- The slice v owns the values vs, whose lists are the call's own. -/
def RowV (w : World) (base b1 : Nat) (v : Value) (vs : List Rv) : Prop :=
  ∃ xs, w.ownsRow base 38 3 v vs.length xs ∧ ∀ k (h : k < vs.length), xs[k * 3]? = some (.int .u64 (vs[k].num : Nat)) ∧ xs[k * 3 + 1]? = some (.string vs[k].str) ∧ ∃ x, xs[k * 3 + 2]? = some x ∧ Own32 w b1 x vs[k].list
theorem RowV.nil (w : World) (base b1 : Nat) : RowV w base b1 (.slice none 0 0) [] := ⟨[], World.ownsRow_nil w base 38 3, fun k h => by simp at h⟩
theorem RowV.ge {w : World} {base b1 g : Nat} {v : Value} {vs : List Rv} (h : RowV w base b1 v vs) (e : v.ownBlock = some g) : base ≤ g ∧ g < w.heap.size := by
  obtain ⟨xs, h, _⟩ := h; exact h.lt g e
theorem RowV.kept {X : Nat → Prop} {w w' : World} {base b1 : Nat} {v : Value} {vs : List Rv} (h : RowV w base b1 v vs) (hk : Kept X w w') (hx : ∀ g, v.ownBlock = some g → ¬ X g) (hx1 : ∀ g, b1 ≤ g → g < w.heap.size → ¬ X g) : RowV w' base b1 v vs := by
  obtain ⟨xs, h, hc⟩ := h
  refine ⟨xs, ⟨h.1, ?_⟩, fun k hk' => ?_⟩
  · rcases h.2 with ⟨rfl, h0⟩ | ⟨g, cap, cur, rfl, hb, hg, hr⟩
    · exact .inl ⟨rfl, h0⟩
    · exact .inr ⟨g, cap, cur, rfl, hb, (hk.block g (Array.getElem?_eq_some_iff.1 hg).1 (hx g rfl)).trans hg, hr⟩
  · obtain ⟨h0, h1, x, h2, h3⟩ := hc k hk'
    exact ⟨h0, h1, x, h2, h3.kept hk (fun g e => hx1 g (h3.ge e).1 (h3.ge e).2)⟩
theorem RowV.at_ {w : World} {base b1 : Nat} {v : Value} {vs : List Rv} (h : RowV w base b1 v vs) : ValsAt w v vs := by
  obtain ⟨xs, h, hc⟩ := h
  rcases h.2 with ⟨rfl, h0⟩ | ⟨g, cap, cur, rfl, _, hg, _⟩
  · have : vs = [] := List.eq_nil_of_length_eq_zero h0
    subst this
    exact .inl ⟨none, 0, rfl, rfl⟩
  · refine .inr ⟨g, 0, cap, rfl, (Array.getElem?_eq_some_iff.1 hg).1, fun j hj => ?_⟩
    obtain ⟨h0, h1, x, h2, h3⟩ := hc j hj
    have e0 := h.cells (g := g) rfl _ _ h0
    have e1 := h.cells (g := g) rfl _ _ h1
    have e2 := h.cells (g := g) rfl _ _ h2
    rw [addr_add] at e0 e1 e2
    exact ⟨e0, by rw [Nat.add_assoc]; exact e1, x, by rw [Nat.add_assoc]; exact e2, h3.at_⟩
theorem RowV.shapeM {w : World} {base b1 : Nat} {v : Value} {vs : List Rv} (h : RowV w base b1 v vs) : ∃ a d, v = .slice a vs.length d := h.at_.shape
theorem own32_not_row {w : World} {base base2 b1 n : Nat} {v x : Value} {xs : List Value} {l : List Nat} (h : w.ownsRow base 38 3 v n xs) (hx : Own32 w b1 x l) (g : Nat) (e : x.ownBlock = some g) : ¬ v.ownBlock = some g := by
  intro e2
  rcases h.2 with ⟨rfl, h0⟩ | ⟨g1, cap, cur, rfl, hb, hg, hr⟩
  · simp [Value.ownBlock] at e2
  · rcases hx.2 with ⟨rfl, h0⟩ | ⟨g2, cap2, cur2, rfl, hb2, hg2, hr2⟩
    · simp [Value.ownBlock] at e
    · simp [Value.ownBlock] at e e2
      subst e; subst e2
      rw [hg] at hg2
      injection hg2 with hg2
      injection hg2 with _ ht
      exact absurd ht (by decide)
theorem run_append_val {W : World} {ty : TypeId} {base b1 : Nat} {v x : Value} {vs : List Rv} (y : Rv) (hown : RowV W base b1 v vs) (hx : Own32 W b1 x y.list) (hx1 : x.oneCell' = true) (hl : vs.length ≤ 1000) (hb : base ≤ W.heap.size) :
    ∃ v' w', (Builtin.append_ #[39, 39] ty #[v, .slice (some ⟨W.heap.size, 0, none⟩) 1 1]).run Tryd.prog (W.alloc (.cells #[.int .u64 (y.num : Nat), .string y.str, x] 38 (0, 0))) = .ok v' w' ∧ RowV w' base b1 v' (vs ++ [y]) ∧ Kept (fun k => v.ownBlock = some k) W w' := by
  obtain ⟨i0, hi, hz0, hz1, hz2⟩ := info_parts infoVal
  obtain ⟨xs, hown, hc⟩ := hown
  have hA := (Kept.refl (fun _ => False) W).alloc (.cells #[.int .u64 (y.num : Nat), .string y.str, x] 38 (0, 0))
  have hown2 : (W.alloc (.cells #[.int .u64 (y.num : Nat), .string y.str, x] 38 (0, 0))).ownsRow base 38 3 v vs.length xs := by
    refine ⟨hown.1, ?_⟩
    rcases hown.2 with ⟨rfl, h0⟩ | ⟨g, cap, cur, rfl, hb, hg, hr⟩
    · exact .inl ⟨rfl, h0⟩
    · exact .inr ⟨g, cap, cur, rfl, hb, (hA.block g (Array.getElem?_eq_some_iff.1 hg).1 (fun h => h)).trans hg, hr⟩
  obtain ⟨v', w', hr, h1, h2, h3, h4⟩ := run_append_own_at (P := Tryd.prog) (W.alloc (.cells #[.int .u64 (y.num : Nat), .string y.str, x] 38 (0, 0))) base 39 ty 38 i0 _ 3 48 Tryd.underlying39 hi hz0 hz1 hz2 rfl (by decide) v vs.length xs hown2 ⟨W.heap.size, 0, none⟩ 1 1 [.int .u64 (y.num : Nat), .string y.str, x] rfl
    (fun j u hj => by
      rw [addr_add]
      match j, hj with
      | 0, hj => simp at hj; subst hj; simp
      | 1, hj => simp at hj; subst hj; simp
      | 2, hj => simp at hj; subst hj; simp
      | j + 3, hj => simp at hj)
    (by intro u hu; simp at hu; rcases hu with rfl | rfl | rfl; rfl; rfl; exact hx1) (by unfold maxLen; omega) (by omega) (by simp; omega)
  have hkk := (hA.mono (fun _ h => h.elim)).trans (Kept.grown h2)
  refine ⟨v', w', hr, ⟨_, by rw [List.length_append]; exact h1, fun k hk => ?_⟩, hkk⟩
  have hxl : xs.length = vs.length * 3 := hown.1
  rw [List.length_append, List.length_singleton] at hk
  by_cases e : k < vs.length
  · obtain ⟨c0, c1, z, c2, c3⟩ := hc k e
    rw [List.getElem_append_left e]
    refine ⟨by rw [List.getElem?_append_left (by omega)]; exact c0, by rw [List.getElem?_append_left (by omega)]; exact c1, z, by rw [List.getElem?_append_left (by omega)]; exact c2, c3.kept hkk (fun g eg => own32_not_row (base2 := 0) hown c3 g eg)⟩
  · obtain rfl : k = vs.length := by omega
    have hy : (vs ++ [y])[vs.length]'(by simp) = y := by simp
    rw [hy]
    refine ⟨by rw [List.getElem?_append_right (by omega), hxl]; simp, by rw [List.getElem?_append_right (by omega), hxl, show vs.length * 3 + 1 - vs.length * 3 = 1 from by omega]; rfl, x, by rw [List.getElem?_append_right (by omega), hxl, show vs.length * 3 + 2 - vs.length * 3 = 2 from by omega]; rfl, hx.kept hkk (fun g eg => own32_not_row (base2 := 0) hown hx g eg)⟩
/-- The method at the letter c. -/
theorem read_any (W0 : World) (b c : Nat) (l : List UInt8) (w : World) (hk : kindB c = true) (hR : RdAt W0 w b l) (hB0 : Below W0.heap.size W0 w) (hl : l.length ≤ maxLen) (hW0 : W0.heap.size ≤ b) :
    Calls Tryd.prog (rfV c) #[.pointer (some ⟨b, 0, none⟩), .int .i64 (szV c : Nat)] w (RdPost W0 w b c l) := by
  rcases letters hk with ⟨h1, _, h2, h3⟩ | rfl | rfl | rfl
  · rw [h2, h3]; exact rfixed_any W0 b c l w h1 hR hB0 hl hW0
  · exact rgrouped_any W0 b _ l w hR hB0 hl hW0
  · exact rstr_any W0 b l w hR hB0 hl hW0
  · exact rlist_any W0 b l w hR hB0 hl hW0
theorem oneCell_slice {w : World} {b : Nat} {x : Value} {l : List Nat} (h : Own32 w b x l) : x.oneCell' = true := by
  obtain ⟨a, m, d, rfl⟩ := h.shapeM; rfl

theorem oneD_le (c : Nat) (l : List UInt8) (h : (oneD c l).2.2 = 0) : (oneD c l).2.1 ≤ l.length := by
  unfold oneD at h ⊢
  by_cases h1 : 0 < widV c
  · rw [if_pos h1] at h ⊢
    by_cases h2 : l.length < widV c
    · rw [if_pos h2] at h; simp at h
    · rw [if_neg h2]; show widV c ≤ _; omega
  · rw [if_neg h1] at h ⊢
    by_cases h2 : (grpD l).2.2 ≠ 0
    · rw [if_pos h2] at h; exact absurd h h2
    · have hle := grpD_le l (by omega)
      rw [if_neg h2] at h ⊢
      by_cases h3 : c = 118
      · rw [if_pos h3]; exact hle
      · rw [if_neg h3] at h ⊢
        by_cases h4 : c = 115
        · rw [if_pos h4] at h ⊢
          by_cases h5 : 400 < (grpD l).1
          · rw [if_pos h5] at h; simp at h
          · rw [if_neg h5] at h ⊢
            by_cases h6 : l.length - (grpD l).2.1 < (grpD l).1
            · rw [if_pos h6] at h; simp at h
            · rw [if_neg h6]; show (grpD l).2.1 + (grpD l).1 ≤ _; omega
        · rw [if_neg h4] at h ⊢
          by_cases h5 : 60 < (grpD l).1
          · rw [if_pos h5] at h; simp at h
          · rw [if_neg h5] at h ⊢
            by_cases h6 : l.length - (grpD l).2.1 < 4 * (grpD l).1
            · rw [if_pos h6] at h; simp at h
            · rw [if_neg h6]; show (grpD l).2.1 + 4 * (grpD l).1 ≤ _; omega
theorem combD_comb (vs us : List Rv) (n m : Nat) (r : List Rv × Nat × Nat) : combD vs n (combD us m r) = combD (vs ++ us) (n + m) r := by
  unfold combD
  by_cases h : r.2.2 ≠ 0
  · rw [if_pos h, if_pos h]; simp only []; rw [if_pos h]
  · rw [if_neg h, if_neg h]; simp [List.append_assoc, Nat.add_assoc]
theorem combD_form (vs : List Rv) (n : Nat) (r : List Rv × Nat × Nat) : combD [] 0 (combD vs n r) = combD vs n r := by
  rw [combD_comb]; simp
theorem combD_nil (s b : List UInt8) : decV s b = combD [] 0 (decV s b) := by
  cases s with
  | nil => rfl
  | cons c s =>
    rw [decV]
    by_cases h : (oneD c.toNat b).2.2 ≠ 0
    · rw [if_pos h]; unfold combD; rw [if_pos h]
    · rw [if_neg h, combD_form]
theorem decV_step {s b : List UInt8} {vs : List Rv} {k n : Nat} (hk : k < s.length) (h : decV s b = combD vs n (decV (s.drop k) (b.drop n))) :
    ((oneD s[k].toNat (b.drop n)).2.2 ≠ 0 → decV s b = ([], 0, (oneD s[k].toNat (b.drop n)).2.2)) ∧
    ((oneD s[k].toNat (b.drop n)).2.2 = 0 → decV s b = combD (vs ++ [(oneD s[k].toNat (b.drop n)).1]) (n + (oneD s[k].toNat (b.drop n)).2.1) (decV (s.drop (k + 1)) (b.drop (n + (oneD s[k].toNat (b.drop n)).2.1)))) := by
  rw [h, List.drop_eq_getElem_cons hk, decV]
  constructor
  · intro e; rw [if_pos e]; unfold combD; rw [if_pos e]
  · intro e; rw [if_neg (by omega), combD_comb, List.drop_drop]

theorem put3_size (q : Nat) (u0 u1 u2 : Value) (W : World) : (((W.setCell ⟨q, 0, none⟩ u0).setCell ⟨q, 1, none⟩ u1).setCell ⟨q, 2, none⟩ u2).heap.size = W.heap.size := by simp [World.setCell]
/-- At the jump: slot 6 holds the error. -/
def JD (w : World) (s b : List UInt8) (a : Act) (w' : World) : Prop :=
  ∃ q u0 u1 u2 u3 u4 u5 u7 u8 u9 u10 u11 u12 u13 u14 u15 u16 u17 u18 u19 u20 u21 u22 u23 u24 u25 u26 u27 u28 u29 u30 u31 u32 u33 u34 u35 u36 u37 u38 u39 u40 u41 u42 u43 u44 u45 u46 u47 u48 u49 u50 u51 u52, decR s b = ([], 0, q) ∧ Below w.heap.size w w' ∧ a = { tmps := #[u0, u1, u2, u3, u4, u5, .int .i64 (q : Nat), u7, u8, u9, u10, u11, u12, u13, u14, u15, u16, u17, u18, u19, u20, u21, u22, u23, u24, u25, u26, u27, u28, u29, u30, u31, u32, u33, u34, u35, u36, u37, u38, u39, u40, u41, u42, u43, u44, u45, u46, u47, u48, u49, u50, u51, u52], defers := [] }
theorem jump_ret {l : Nat} {J : Act → World → Prop} {Q : Exit → Act → World → Prop} {a : Act} {w : World} : Exit.jump l J Q .ret a w = Q .ret a w := rfl

set_option maxHeartbeats 4000000 in
set_option maxRecDepth 100000 in
theorem decode_any (s : ByteArray) (v : Value) (b : List UInt8) (w : World) (hs : s.size ≤ maxLen) (hv : ∃ a d, v = .slice a b.length d ∧ b.length ≤ d) (hb : BytesAt w v b) (hl : b.length ≤ maxLen) :
    Calls Tryd.prog 17 #[.string s, v] w fun e w' => ∃ u, e = .returned (.tuple #[u, .int .i64 (decR s.data.toList b).2.1, .int .i64 (decR s.data.toList b).2.2]) ∧ ValsAt w' u (decR s.data.toList b).1 ∧ Below w.heap.size w w' := by
  obtain ⟨a, d, rfl, hd⟩ := hv
  have HS := Lib.hid (size_data s)
  have HB := Lib.hid hb
  have HAL := Lib.hid ((Below.refl w.heap.size w).alloc (Nat.le_refl _) (.cells #[.slice a b.length d] 61 (0, 0)))
  have HR0 : Hid (RdAt w (w.alloc (.cells #[.slice a b.length d] 61 (0, 0))) w.heap.size b) := Lib.hid ⟨⟨a, d, by simp, hb, hd⟩, by simp⟩
  have HKO := Lib.hid (kindsOf_any s (w.alloc (.cells #[.slice a b.length d] 61 (0, 0))) hs)
  have HSW := Lib.hid (show (w.alloc (.cells #[.slice a b.length d] 61 (0, 0))).heap.size = w.heap.size + 1 by simp)
  unfold maxLen at hl hs
  clear hb
  go_enter Tryd.func17, Tryd.ntmps17
  go_wp2_with fail
  refine wp_scope_jumps 0 (JD w s.data.toList b) (fun _ _ => 0) rfl ?first ?pass
  case pass =>
    rintro a w' ⟨q, u0, u1, u2, u3, u4, u5, u7, u8, u9, u10, u11, u12, u13, u14, u15, u16, u17, u18, u19, u20, u21, u22, u23, u24, u25, u26, u27, u28, u29, u30, u31, u32, u33, u34, u35, u36, u37, u38, u39, u40, u41, u42, u43, u44, u45, u46, u47, u48, u49, u50, u51, u52, hdec, hbel, rfl⟩
    have HD := Lib.hid hdec
    have HBL := Lib.hid hbel
    clear hdec hbel
    first | go_wp2_with fail | skip
    first | go_step3 | skip
    go_wp2_with fail
    rw [jump_ret]
    go_ret3
    exact ⟨_, by rw [HD.out]; rfl, by rw [HD.out]; exact .inl ⟨_, _, rfl, rfl⟩, HBL.out⟩
  case first =>
  go_wp2_with fail
  refine HKO.out.mono ?_
  rintro e w2 ⟨hb2, ⟨hE, rfl⟩ | ⟨hE, g, hg, hKI, rfl⟩⟩
  · have hz : ((formE s.data.toList : Int) == 0) = false := by simp; omega
    have HE := Lib.hid (show decR s.data.toList b = ([], 0, formE s.data.toList) by unfold decR; rw [if_pos hE])
    have HB2 := Lib.hid (HAL.out.trans (hb2.mono HAL.out.size))
    generalize formE s.data.toList = q at *
    clear hE
    go_wp2_with fail
    go_step3
    refine ⟨rfl, q, _, _, _, _, _, _, _, _, _, _, _, _, _, _, _, _, _, _, _, _, _, _, _, _, _, _, _, _, _, _, _, _, _, _, _, _, _, _, _, _, _, _, _, _, _, _, _, _, _, _, _, _, HE.out, HB2.out, rfl⟩
  · have HE0 := Lib.hid hE
    have HK1 := Lib.hid hKI
    have HB2 := Lib.hid (HAL.out.trans (hb2.mono HAL.out.size))
    have hsz2 := hb2.size
    rw [HSW.out] at hsz2 hg
    have hgl := hKI.lt
    obtain ⟨hs64, hkind⟩ := formE_kind hE
    rw [HS.out] at hs64
    have HKD := Lib.hid hkind
    have HR2 := Lib.hid (HR0.out.kept (Kept.of_below hb2 (fun _ => False)) (fun h => h))
    rw [HS.out]
    clear hKI hE hkind hb2
    go_wp2_with fail
    go_loopw [4, 6, 10, 11, 23] (fun v4 v6 _ _ i wr => ∃ (k n : Nat) (vs : List Rv), k ≤ s.size ∧ n ≤ b.length ∧ vs.length = k ∧ i = .int .i64 k ∧ v6 = .int .i64 0 ∧ Hid (RowV wr w2.heap.size w2.heap.size v4 vs) ∧ Hid (RdAt w wr w.heap.size (b.drop n)) ∧ Hid (Kept (fun j => j = w.heap.size) w2 wr) ∧ Hid (decV s.data.toList b = combD vs n (decV (s.data.toList.drop k) (b.drop n)))) (fun _ _ _ _ i _ => s.size - (intOf i).toNat)
    case atStart => exact ⟨0, 0, [], by omega, by omega, rfl, rfl, rfl, Lib.hid (RowV.nil _ _ _), HR2, Lib.hid (Kept.refl _ _), Lib.hid (combD_nil _ _)⟩
    case round =>
      obtain ⟨k, n, vs, hk, hn, hvk, rfl, rfl, hRV, hRD, hKW, hD⟩ := hrel
      have hwsz := hKW.out.size
      have HVK := Lib.hid hvk
      have hvk2 : vs.length ≤ 64 := by omega
      clear hvk
      by_cases hlt : k < s.size
      · have hk' : k < s.data.toList.length := by rw [HS.out]; exact hlt
        obtain ⟨cs, hbk, hcz, hrd⟩ := HK1.out
        obtain ⟨r0, r1, r2⟩ := hrd k hk' hk'
        have hcg0 := (hKW.out.cell (b := g) (k * 3) hgl (by omega)).trans ((hbk.cell _).trans r0)
        have hcg1 := (hKW.out.cell (b := g) (k * 3 + 1) hgl (by omega)).trans ((hbk.cell _).trans r1)
        have hcg2 := (hKW.out.cell (b := g) (k * 3 + 2) hgl (by omega)).trans ((hbk.cell _).trans r2)
        have hkc := HKD.out k hk'
        have HST := Lib.hid (decV_step hk' hD.out)
        have HLE := Lib.hid (oneD_le s.data.toList[k].toNat (b.drop n))
        obtain ⟨f, hf, hff⟩ : ∃ f, rfV s.data.toList[k].toNat = f ∧ (f = 45 ∨ f = 47 ∨ f = 49 ∨ f = 51) := by
          refine ⟨_, rfl, ?_⟩
          unfold rfV
          split
          · exact .inr (.inl rfl)
          · split
            · exact .inr (.inr (.inl rfl))
            · split
              · exact .inr (.inr (.inr rfl))
              · exact .inl rfl
        have hcf : ∀ args w, (callFunc f args).run Tryd.prog w = .ok (.enter f args) w := by
          rcases hff with rfl | rfl | rfl | rfl <;> (intro args w; rfl)
        obtain ⟨WA, hWA⟩ : ∃ WA, (wr.alloc (.cells #[.int .i64 (szV s.data.toList[k].toNat), .func (.func (wfV s.data.toList[k].toNat)) #[] #[], .func (.func f) #[] #[]] 58 (0, 0))).alloc (.cells #[.int .u64 0, .string ⟨#[]⟩, .slice none 0 0] 38 (0, 0)) = WA := ⟨_, rfl⟩
        have hWAs : WA.heap.size = wr.heap.size + 2 := by rw [← hWA]; simp
        have hWAk : Kept (fun _ => False) wr WA := by rw [← hWA]; exact ((Kept.refl _ wr).alloc _).alloc _
        have hWAb : Blk WA (wr.heap.size + 1) 38 #[.int .u64 0, .string ⟨#[]⟩, .slice none 0 0] := by
          rw [← hWA]; have := heap_alloc_new (wr.alloc (.cells #[.int .i64 (szV s.data.toList[k].toNat), .func (.func (wfV s.data.toList[k].toNat)) #[] #[], .func (.func f) #[] #[]] 58 (0, 0))) (.cells #[.int .u64 0, .string ⟨#[]⟩, .slice none 0 0] 38 (0, 0)); rw [World.size_alloc] at this; exact this
        have HX := Lib.hid (read_any w w.heap.size s.data.toList[k].toNat (b.drop n) WA hkc (hRD.out.kept hWAk (fun h => h)) ((HB2.out.trans (hKW.out.toBelow (by omega) (fun j hj e => by omega))).trans ((hWAk.toBelow (n := w.heap.size) (by omega) (fun _ _ h => h)))) (by rw [List.length_drop]; unfold maxLen; omega) (Nat.le_refl _))
        have HWA := Lib.hid hWA
        rw [hf] at HX hcg2
        unfold RdPost at HX
        generalize oneD s.data.toList[k].toNat (b.drop n) = q3 at *
        obtain ⟨rv, u, er⟩ := q3
        simp only [] at HX HST HLE
        generalize s.data.toList[k].toNat = c at *
        clear hWA hf hff hrd hbk hcz r0 r1 r2 hkc
        go_wp2_with fail
        rw [HWA.out]
        refine HX.out.mono ?_
        rintro e w3 ⟨x, rfl, hox, hrd3, hk3⟩
        obtain ⟨a3, m3, d3, rfl⟩ := hox.shapeM
        have hb3 : Blk w3 (wr.heap.size + 1) 38 #[.int .u64 0, .string ⟨#[]⟩, .slice none 0 0] := (hk3.block _ hWAb.lt (by omega)).trans hWAb
        have hv0 := hb3.cell 0
        have hv1 := hb3.cell 1
        have hv2 := hb3.cell 2
        have hf0 := hb3.frozen 0
        have hf1 := hb3.frozen 1
        have hf2 := hb3.frozen 2
        simp at hv0 hv1 hv2
        have hput := put3 (wr.heap.size + 1) (.int .u64 (rv.num : Nat)) (.string rv.str) (.slice a3 m3 d3) w3
        have hk3s := hk3.size
        have hKS : Kept (fun j => j = w.heap.size) wr (((w3.setCell ⟨wr.heap.size + 1, 0, none⟩ (.int .u64 (rv.num : Nat))).setCell ⟨wr.heap.size + 1, 1, none⟩ (.string rv.str)).setCell ⟨wr.heap.size + 1, 2, none⟩ (.slice a3 m3 d3)) :=
          (((hWAk.mono (fun _ h => h.elim)).trans hk3).trans' hput (fun i hi e => by omega))
        have HKS := Lib.hid hKS
        have HOX := Lib.hid ((hox.kept hput (fun g e q => by have := (hox.ge e).1; omega)).mono (base' := w2.heap.size) (by omega))
        have HRD3 := Lib.hid (fun (h0 : er = 0) => (hrd3 h0).kept hput (by omega))
        have HWW : Hid (Below w.heap.size w wr) := Lib.hid (HB2.out.trans (hKW.out.toBelow (by omega) (fun j hj e => by omega)))
        have hput3s := hput.size
        by_cases h0 : er = 0
        · subst h0
          obtain ⟨a4, d4, rfl⟩ := hRV.out.shapeM
          have HRVS := Lib.hid (hRV.out.kept hKS (fun g e q => by have := (hRV.out.ge e).1; omega) (fun g e _ q => by omega))
          obtain ⟨v5, w5, hrun, hrow5, hk5⟩ := run_append_val (ty := 39) rv HRVS.out HOX.out rfl (by omega) (by have := hKS.size; omega)
          obtain ⟨a5, m5, d5, rfl⟩ : ∃ a m d, v5 = .slice a m d := by obtain ⟨a, d, e⟩ := hrow5.shapeM; exact ⟨a, _, d, e⟩
          rw [put3_size] at hrun
          have HRUN := Lib.hid hrun
          have hne5 : ¬ Value.ownBlock (.slice a4 vs.length d4) = some w.heap.size := fun e => by have := (hRV.out.ge e).1; omega
          have HR5 := Lib.hid hrow5
          have HRDF := Lib.hid ((HRD3.out rfl).kept hk5 hne5)
          have HKF := Lib.hid ((hKW.out.trans hKS).trans' hk5 (fun i hi e => by have := (hRV.out.ge e).1; omega))
          have HLN := Lib.hid (HLE.out rfl)
          have HST2 := Lib.hid (HST.out.2 rfl)
          have hlen := HLN.out
          rw [List.length_drop] at hlen
          rw [List.drop_drop] at HRDF
          clear hb3 hox hrd3 hk3 hput hKS hrun hrow5 hk5 hcf HX
          go_wp2_with (at_builtin; refine wpList_append_run (by rfl) _ _ _ _ (by rfl) (.slice a4 vs.length d4) _ (.slice a5 m5 d5) w5 (by rfl) (by rfl) HRUN.out ?_)
          go_roundw
          case rel => exact ⟨k + 1, n + u, vs ++ [rv], by omega, by omega, by rw [List.length_append, HVK.out]; rfl, by go_num, rfl, HR5, HRDF, HKF, HST2⟩
          case measure => simp [intOf]; omega
        · have hz : ((er : Int) == 0) = false := by simp; omega
          have HE := Lib.hid (show decR s.data.toList b = ([], 0, er) by
            have h1 := HST.out.1 h0
            unfold decR
            rw [if_neg (by rw [HE0.out]; decide), h1, if_pos h0])
          clear hb3 hox hrd3 hk3 hput hKS hcf HX h0
          go_wp2_with fail
          go_step3
          exact ⟨rfl, er, _, _, _, _, _, _, _, _, _, _, _, _, _, _, _, _, _, _, _, _, _, _, _, _, _, _, _, _, _, _, _, _, _, _, _, _, _, _, _, _, _, _, _, _, _, _, _, _, _, _, _, _, HE.out, HWW.out.trans (HKS.out.toBelow (by omega) (fun j hj e => by omega)), rfl⟩
      · obtain rfl : k = s.size := by omega
        have HDV := Lib.hid (show decV s.data.toList b = (vs, n, 0) by
          rw [hD.out, List.drop_of_length_le (Nat.le_of_eq HS.out)]; unfold combD decV; simp)
        have HDR := Lib.hid (show decR s.data.toList b = if 4000 < n then ([], 0, 3) else (vs, n, 0) by
          unfold decR
          rw [if_neg (by rw [HE0.out]; decide), HDV.out, if_neg (by simp)])
        obtain ⟨sr, dr, hcr, _, _⟩ := hRD.out.val
        obtain ⟨n2, hn2⟩ : ∃ n2, n2 = (b.drop n).length := ⟨_, rfl⟩
        rw [← hn2] at hcr
        rw [List.length_drop] at hn2
        have hsub : (b.length : Int) - (n2 : Int) = n := by omega
        have HWW : Hid (Below w.heap.size w wr) := Lib.hid (HB2.out.trans (hKW.out.toBelow (by omega) (fun j hj e => by omega)))
        have HRV := Lib.hid hRV.out.at_
        clear hn2
        by_cases h4 : 4000 < n
        · have d4 : decide ((4000 : Int) < n) = true := decide_eq_true (by omega)
          have HE := Lib.hid (show decR s.data.toList b = ([], 0, 3) by rw [HDR.out, if_pos h4])
          clear h4
          go_wp2_with fail
          go_step3
          exact ⟨rfl, 3, _, _, _, _, _, _, _, _, _, _, _, _, _, _, _, _, _, _, _, _, _, _, _, _, _, _, _, _, _, _, _, _, _, _, _, _, _, _, _, _, _, _, _, _, _, _, _, _, _, _, _, _, HE.out, HWW.out, rfl⟩
        · have d4 : decide ((4000 : Int) < n) = false := decide_eq_false (by omega)
          have HE := Lib.hid (show decR s.data.toList b = (vs, n, 0) by rw [HDR.out, if_neg h4])
          clear h4
          go_wp2_with fail
          rw [jump_ret]
          go_ret3
          exact ⟨_, by rw [HE.out]; rfl, by rw [HE.out]; exact HRV.out, HWW.out⟩
end Go.Proofs.YtnocmkjaifjgfaaDoor.R
