/- Parse. -/
import Derived.Test.YtbgfeonlnhlbfaaPieces
import Derived.Test.YtbgfeonlnhlbfaaFresh
namespace Go.Proofs.Ytbgfeonlnhlbfaa
open Go.RowKit
attribute [local go_sem] Oper.semAt_some

def toB (b : Bs) : ByteArray := ⟨b.toArray⟩
theorem toB_data (b : Bs) : (toB b).data.toList = b := rfl
theorem toB_size (b : Bs) : (toB b).size = b.length := by rw [← size_len]; rfl
theorem bsL_toB (l : List Bs) : bsL (l.map toB) = l := by
  rw [bsL, List.map_map]
  conv => rhs; rw [← List.map_id l]
  exact List.map_congr_left (fun b _ => rfl)
def parseA (s : ByteArray) : List ByteArray := (parseP s.data.toList).map toB
theorem splitS_len (l : Bs) : ∀ s ∈ splitS l, s.length ≤ l.length := by
  induction l with
  | nil => intro s hs; simp [splitS] at hs; subst hs; simp
  | cons c r ih =>
    intro s hs
    rw [splitS] at hs
    split at hs
    · rcases List.mem_cons.1 hs with rfl | hs
      · simp
      · have := ih s hs; simp; omega
    · split at hs
      · simp at hs; subst hs; simp
      · rename_i a t h
        rw [h] at ih
        rcases List.mem_cons.1 hs with rfl | hs
        · have := ih a (by simp); simp; omega
        · have := ih s (by simp [hs]); simp; omega

/-- Between two rounds: the box of p holds the pieces that have come. -/
def PI (w : World) (pre : List Bs) (W : World) : Prop :=
  (∃ v, Boxed W w.heap.size 22 v ∧ W.ownsRow (w.heap.size + 4) 9 1 v pre.length (cellsL (pre.map toB))) ∧ Below w.heap.size w W ∧ pre.length ≤ 8
def PX (w : World) (c : Code) (pre : List Bs) (W : World) : Prop :=
  c = .exit 0 ∧ (∃ v, Boxed W w.heap.size 22 v ∧ W.ownsRow (w.heap.size + 4) 9 1 v pre.length (cellsL (pre.map toB))) ∧ Below w.heap.size w W ∧ pre.length = 9
theorem row_kept {X : Nat → Prop} {W W' : World} {base e size n : Nat} {v : Value} {xs : List Value} (h : W.ownsRow base e size v n xs) (hk : Kept X W W') (hx : ∀ g, base ≤ g → v.ownBlock = some g → ¬ X g) : W'.ownsRow base e size v n xs := by
  rcases h with ⟨h1, h2 | ⟨g, cap, cur, rfl, hb, hg, r1, r2, r3⟩⟩
  · exact ⟨h1, .inl h2⟩
  · exact ⟨h1, .inr ⟨g, cap, cur, rfl, hb, (hk.block g (bf_lt hg) (hx g hb rfl)).trans hg, r1, r2, r3⟩⟩
theorem boxed_set {W : World} {b t : Nat} {v : Value} (h : Boxed W b t v) (u : Value) : Boxed (W.setCell ⟨b, 0, none⟩ u) b t u := h.set u
theorem row_set {W : World} {base e size n b j : Nat} {v u : Value} {xs : List Value} (h : W.ownsRow base e size v n xs) (hb : b < base) : (W.setCell ⟨b, j, none⟩ u).ownsRow base e size v n xs :=
  ownsRow_setCell_below h (a := ⟨b, j, none⟩) hb u
theorem strs_kept {W W' : World} {v : Value} {ss : List ByteArray} {k : Nat} (h : StrsAt W v ss) (hk : Kept (· = k) W W') (hne : ∀ b o n c, v = .slice (some ⟨b, o, none⟩) n c → b ≠ k) : StrsAt W' v ss := by
  rcases h with h | ⟨b, o, c, rfl, hc, hb, hcell⟩
  · exact .inl h
  · refine .inr ⟨b, o, c, rfl, hc, Nat.lt_of_lt_of_le hb hk.size, fun j hj => ?_⟩
    rw [World.cell?_of_block (w := W) (hk.block b hb (hne b o _ c rfl))]
    exact hcell j hj
theorem trim_slash {r : Bs} : Lib.trimPrefix (47 :: r) [47] = r ∧ Lib.hasPrefix (47 :: r) [47] = true := by
  have : Lib.hasPrefix (47 :: r) [47] = true := by simp [Lib.hasPrefix, List.isPrefixOf]
  exact ⟨by unfold Lib.trimPrefix; rw [if_pos this]; rfl, this⟩
theorem no_trim {l : Bs} (h : ∀ r, l ≠ 47 :: r) : Lib.hasPrefix l [47] = false := by
  cases l with
  | nil => rfl
  | cons c r =>
    have : (47 : UInt8) ≠ c := fun e => h r (by rw [e])
    simp [Lib.hasPrefix, List.isPrefixOf, this]

set_option maxHeartbeats 4000000 in
set_option maxRecDepth 100000 in
theorem parse_in (n : Nat) (hn : 8 ≤ n) (s : ByteArray) (r : Bs) (w : World) (hE : EnvM w) (hr : s.data.toList = 47 :: r) (hr0 : r ≠ []) (hrl : r.length ≤ 1000) :
    CallsIn Fence.wide n Try.prog 13 #[.string s] w fun e w' => ∃ v, e = .returned (.tuple #[v, .int .i64 (parseE s.data.toList)]) ∧ StrsAt w' v (parseA s) ∧ Below w.heap.size w w' := by
  obtain ⟨ht1, ht2⟩ := trim_slash (r := r)
  have HE := Lib.hid (show parseE s.data.toList = checkE (splitS r) by rw [hr, parseE, if_pos rfl, if_neg hr0])
  have HA := Lib.hid (show parseA s = if checkE (splitS r) = 0 then (splitS r).map toB else [] by
    unfold parseA parseP
    rw [hr, parseE, if_pos rfl, if_neg hr0]
    split
    · rw [if_neg (fun e => hr0 (by rw [List.cons.injEq] at e; exact e.2))]; rfl
    · rfl)
  have HR := Lib.hid hr
  have hpos := hE.pos
  rw [HE.out, HA.out]
  obtain ⟨zz, hzz⟩ : ∃ zz, zz = checkE (splitS r) := ⟨_, rfl⟩
  rw [← hzz]
  have HZZ := Lib.hid hzz
  clear hr hzz HE HA
  obtain ⟨i0, hi, hz0, hz1, hz2⟩ := info_parts Try.infoStr
  have hrs : (⟨r.toArray⟩ : ByteArray).size ≤ 1000 := by rw [← size_len]; exact hrl
  have hie : List.isEmpty r = false := by simpa using hr0
  refine callsIn_of_wp_marks Try.func13 rfl trivial ?_ rfl
  simp only [Try.ntmps13, List.size_toArray, List.length_cons, List.length_nil, Nat.reduceAdd, Nat.reduceSub, Array.replicate_succ, Array.replicate_zero, List.push_toArray, List.append_toArray, List.nil_append, List.cons_append]
  gi_wp2_with fail
  refine ⟨trivial, fun _ => by omega, (callsIn_wide.2 (Try.strings_CutPrefix s ⟨#[47]⟩ w)).mono ?_⟩
  rw [show (⟨#[47]⟩ : ByteArray).data.toList = [47] from rfl, HR.out, ht1, ht2]
  rintro e w' ⟨rfl, hw'⟩
  rw [hw']
  clear hw'
  gi_wp2_with fail
  refine ⟨trivial, fun _ => by omega, (callsIn_wide.2 (pieces_any ⟨r.toArray⟩ _)).mono ?_⟩
  rintro e w' ⟨rfl, rfl⟩
  gi_wp2_with fail
  obtain ⟨W2, hW2⟩ : ∃ W2, (w.alloc (.cells #[.slice none 0 0] 22)).alloc (.cells #[.string ⟨r.toArray⟩] 9) = W2 := ⟨_, rfl⟩
  have hs2 : W2.heap.size = w.heap.size + 2 := by rw [← hW2]; simp
  have hB2 : Below w.heap.size w W2 := by rw [← hW2]; exact ((Below.refl _ w).alloc (Nat.le_refl _) _).alloc (by simp) _
  have b0 : Boxed W2 w.heap.size 22 (.slice none 0 0) := by rw [← hW2]; exact (Boxed.new w _ _).alloc _
  have b1 : Boxed W2 (w.heap.size + 1) 9 (.string ⟨r.toArray⟩) := by
    rw [← hW2]; have := Boxed.new (w.alloc (.cells #[.slice none 0 0] 22)) 9 (.string ⟨r.toArray⟩); rw [World.size_alloc] at this; exact this
  try rw [hW2]
  clear hW2
  have hx2 : ∀ k, O2 (· = w.heap.size + 1) W2.heap.size k → w.heap.size < k ∧ k < w.heap.size + 4 := fun k hk => by
    unfold O2 at hk; rw [hs2] at hk; omega
  have hI : Stays (O2 (· = w.heap.size + 1) W2.heap.size) (PI w) := by
    rintro s A B ⟨⟨v, hv, hrow⟩, hbel, hlen⟩ hk
    exact ⟨⟨v, boxed_kept hv hk (fun h => by have := hx2 _ h; omega), row_kept hrow hk (fun g hg _ h => by have := hx2 _ h; omega)⟩, below_kept hbel hk (Nat.le_refl _) (fun k h => by have := hx2 _ h; omega), hlen⟩
  have hIx : ∀ c, Stays (O2 (· = w.heap.size + 1) W2.heap.size) (PX w c) := by
    rintro c s A B ⟨hc, ⟨v, hv, hrow⟩, hbel, hlen⟩ hk
    exact ⟨hc, ⟨v, boxed_kept hv hk (fun h => by have := hx2 _ h; omega), row_kept hrow hk (fun g hg _ h => by have := hx2 _ h; omega)⟩, below_kept hbel hk (Nat.le_refl _) (fun k h => by have := hx2 _ h; omega), hlen⟩
  have HPL := Lib.hid (fun x (h : x ∈ splitS r) => splitS_len r x h)
  refine range_law (n := n) rfl (by omega) (gf := 56) (lb := #[.pointer (some ⟨w.heap.size + 1, 0, none⟩)]) rfl trivial (enters_of Try.func56 (by kernel_rfl) rfl)
    (O := (· = w.heap.size + 1)) (R := pieceR w (w.heap.size + 1)) (encs := encB) ⟨by omega, by omega⟩
    (fun W1 hb1 hs1 => pieces_seq (n - 1) (by omega) w hE (w.heap.size + 1) ⟨r.toArray⟩ W1 hrs (hB2.trans (hb1.mono (by omega))) ((hb1.block _ b1.lt).trans b1) (by omega)) (fun _ => rfl) (fun k h => by omega)
    (PI w) (PX w) hI hIx ⟨⟨_, b0, World.ownsRow_nil _ _ _ _⟩, hB2, Nat.zero_le _⟩ ?round ?done ?stop
  case round =>
    rintro pre x W hPI hbf hC K hK
    unfold encB
    gi_wp2
    refine hK _ _ (Kept.refl _ _) ?_
    clear hK
    intro W3 hk3
    obtain ⟨⟨v, hv, hrow⟩, hbel, hlen⟩ := hI _ _ _ hPI (hk3.mono (fun k (h : k = _) => .inr (.inr h)))
    have hsz3 : w.heap.size + 4 ≤ W3.heap.size := by have := hk3.size; omega
    have hxl : x.length ≤ 1000 := by
      have := HPL.out x (hC.subset (by simp)); omega
    have hcv := hv.cell; have hfv := hv.frozen; have hltv := hv.lt
    have hnext : cellsL ((pre ++ [x]).map toB) = cellsL (pre.map toB) ++ [.string ⟨x.toArray⟩] := by simp [cellsL, toB]
    have HNX := Lib.hid hnext
    clear hPI hC hk3 hnext
    gi_wp2_with (gi_at_builtin; refine wpListIn_append_own _ rfl _ _ 22 rfl (w.heap.size + 4) 9 i0 (.string ⟨#[]⟩) 1 16 Try.underlying22 hi hz0 hz1 hz2 rfl (by decide) _ _ _ rfl (hrow.alloc _) ⟨W3.heap.size, 0, none⟩ 1 1 [.string ⟨x.toArray⟩] rfl rfl (cell_one_new _ _ _) (by simp [Value.oneCell']) (by unfold maxLen; omega) (by omega) (by simp; omega) ?_; intro v' w1 hown' hgrow _; obtain ⟨g', cap', rfl⟩ := ownsRow_succ hown'; have hkw : Kept (fun k => w.heap.size + 4 ≤ k) W3 w1 := (Kept.alloc (Kept.refl _ W3) _).grown hgrow (fun k e => .inl (hrow.lt k e).1); have hv1 := boxed_kept hv hkw (by omega); have hcv1 := hv1.cell; have hfv1 := hv1.frozen; have hlt1 := hv1.lt)
    · have h8 : pre.length = 8 := by omega
      refine ⟨?_, rfl, ⟨_, boxed_set hv1 _, ?_⟩, ?_, by rw [List.length_append, List.length_singleton]; omega⟩
      · exact (hkw.mono (fun k (h : w.heap.size + 4 ≤ k) => by unfold R2 pieceR; omega)).setCell ⟨w.heap.size, 0, none⟩ (by unfold R2 pieceR; simp; omega) _
      · rw [HNX.out, List.length_append, List.length_singleton]; exact row_set hown' (by omega)
      · exact (below_kept hbel hkw (Nat.le_refl _) (fun k (h : w.heap.size + 4 ≤ k) => by omega)).setCell (p := ⟨w.heap.size, 0, none⟩) (Nat.le_refl _) _
    · refine ⟨?_, ⟨_, boxed_set hv1 _, ?_⟩, ?_, by rw [List.length_append, List.length_singleton]; omega⟩
      · exact (hkw.mono (fun k (h : w.heap.size + 4 ≤ k) => by unfold R2 pieceR; omega)).setCell ⟨w.heap.size, 0, none⟩ (by unfold R2 pieceR; simp; omega) _
      · rw [HNX.out, List.length_append, List.length_singleton]; exact row_set hown' (by omega)
      · exact (below_kept hbel hkw (Nat.le_refl _) (fun k (h : w.heap.size + 4 ≤ k) => by omega)).setCell (p := ⟨w.heap.size, 0, none⟩) (Nat.le_refl _) _
  case done =>
    rintro xs W hxs ⟨⟨v, hv, hrow⟩, hbel, hlen8⟩ hD
    obtain rfl : xs = splitS r := hxs
    have hrows := strs_of_row (ss := (splitS r).map toB) (by rw [List.length_map]; exact hrow)
    have HROWS := Lib.hid hrows
    have hmod : Small ((splitS r).map toB) := ⟨by rw [List.length_map]; omega, fun s hs => by
      obtain ⟨x, hx, rfl⟩ := List.mem_map.1 hs
      exact Nat.le_trans (Nat.le_of_eq (toB_size x)) (Nat.le_trans (HPL.out x hx) hrl)⟩
    have HCK := Lib.hid (check_any v ((splitS r).map toB) W hrows hmod.modest)
    have HMOD := Lib.hid hmod
    have hcv := hv.cell
    obtain ⟨av, cv, hvv⟩ := hrows.shape
    rw [List.length_map] at hvv
    subst hvv
    clear hrow hrows hmod
    rw [bsL_toB] at HCK
    rw [← HZZ.out] at HCK
    gi_wp2_with fail
    refine ⟨trivial, fun _ => by omega, (callsIn_wide.2 HCK.out).mono ?_⟩
    rintro e W3 ⟨rfl, hb3⟩
    have hs3 := hbel.size
    have hbel3 := hbel.trans (hb3.mono hs3)
    have hs4 := hb3.size
    rw [hs2] at hD
    by_cases hz0 : zz = 0
    · subst hz0
      have hcv3 := (boxed_kept hv ((Kept.refl (fun _ => False) W).below hb3) (fun h => h)).cell
      gi_wp2_with fail
      refine ⟨trivial, fun _ => by omega, (callsIn_wide.2 (fresh_any _ ((splitS r).map toB) W3 (HROWS.out.below hb3) HMOD.out)).mono ?_⟩
      rintro e W4 ⟨u, rfl, hf, hb4⟩
      have HU := Lib.hid hf.strs
      have hfb : Hid (∀ k, k < w.heap.size + 3 → ∀ b o n c, u = .slice (some ⟨b, o, none⟩) n c → b ≠ k) := Lib.hid (by
        intro k hk b o n c hu
        obtain ⟨g, cap, rfl, hg⟩ := hf
        cases hu
        have h7 : W3.heap.size ≤ b := (hg.lt _ rfl).1
        have h8 := bf_lt hD
        omega)
      obtain ⟨au, cu, huu⟩ := HU.out.shape
      rw [List.length_map] at huu
      subst huu
      have hbel4 := hbel3.trans (hb4.mono (by omega))
      have hs5 := hb4.size
      clear hf
      have hD4 : W4.heap[w.heap.size + 2]? = some (.deferred (some [])) := (hb4.block _ (by have := bf_lt hD; omega)).trans ((hb3.block _ (bf_lt hD)).trans hD)
      have hp : Kept (· = w.heap.size + 2) W4 (W4.putObj (w.heap.size + 2) (.deferred none)) := Kept.putObj _ _ _ _ rfl
      have HFIN := Lib.hid (strs_kept HU.out hp (fun b o n c h => hfb.out (w.heap.size + 2) (by omega) b o n c h))
      gi_wp2_with fail
      refine ⟨by simp, .inl ⟨_, _, rfl, run_takeDeferred hD4, ?_⟩⟩
      exact ⟨.tuple #[.slice au (splitS r).length cu, .int .i64 0], by simp [results, Try.results13, go_sem], .slice au (splitS r).length cu, rfl, HFIN.out, below_kept hbel4 hp (Nat.le_refl _) (fun k (h : k = _) => by omega)⟩
    · have hz' : (zz != 0) = true := by simpa using hz0
      have hD3 : W3.heap[w.heap.size + 2]? = some (.deferred (some [])) := (hb3.block _ (bf_lt hD)).trans hD
      have hp : Kept (· = w.heap.size + 2) W3 (W3.putObj (w.heap.size + 2) (.deferred none)) := Kept.putObj _ _ _ _ rfl
      gi_wp2_with fail
      refine ⟨by simp, .inl ⟨_, _, rfl, run_takeDeferred hD3, ?_⟩⟩
      exact ⟨.tuple #[.slice none 0 0, .int .i64 zz], by simp [results, Try.results13, go_sem], .slice none 0 0, rfl, .inl ⟨_, _, rfl, rfl⟩, below_kept hbel3 hp (Nat.le_refl _) (fun k (h : k = _) => by omega)⟩
  case stop =>
    rintro c pre W hpre ⟨rfl, ⟨v, hv, hrow⟩, hbel, hlen9⟩ hD
    replace hpre : pre <+: splitS r := hpre
    have h3 : checkE pre = 3 := by unfold checkE; rw [if_pos (by omega)]
    have h3' : zz = 3 := by rw [HZZ.out]; unfold checkE; rw [if_pos (by have := hpre.length_le; omega)]
    subst h3'
    have hrows := strs_of_row (ss := pre.map toB) (by rw [List.length_map]; exact hrow)
    have HROWS := Lib.hid hrows
    have hmod : Small (pre.map toB) := ⟨by rw [List.length_map]; omega, fun s hs => by
      obtain ⟨x, hx, rfl⟩ := List.mem_map.1 hs
      exact Nat.le_trans (Nat.le_of_eq (toB_size x)) (Nat.le_trans (HPL.out x (hpre.subset hx)) hrl)⟩
    have HCK := Lib.hid (check_any v (pre.map toB) W hrows hmod.modest)
    have HMOD := Lib.hid hmod
    have hcv := hv.cell
    obtain ⟨av, cv, hvv⟩ := hrows.shape
    rw [List.length_map, hlen9] at hvv
    subst hvv
    clear hrow hrows hmod
    rw [bsL_toB] at HCK
    rw [h3] at HCK
    gi_wp2_with fail
    refine ⟨trivial, fun _ => by omega, (callsIn_wide.2 HCK.out).mono ?_⟩
    rintro e W3 ⟨rfl, hb3⟩
    have hs3 := hbel.size
    have hbel3 := hbel.trans (hb3.mono hs3)
    have hs4 := hb3.size
    rw [hs2] at hD
    have hD3 : W3.heap[w.heap.size + 2]? = some (.deferred (some [])) := (hb3.block _ (bf_lt hD)).trans hD
    have hp : Kept (· = w.heap.size + 2) W3 (W3.putObj (w.heap.size + 2) (.deferred none)) := Kept.putObj _ _ _ _ rfl
    gi_wp2_with fail
    refine ⟨by simp, .inl ⟨_, _, rfl, run_takeDeferred hD3, ?_⟩⟩
    exact ⟨.tuple #[.slice none 0 0, .int .i64 3], by simp [results, Try.results13, go_sem], .slice none 0 0, rfl, .inl ⟨_, _, rfl, rfl⟩, below_kept hbel3 hp (Nat.le_refl _) (fun k (h : k = _) => by omega)⟩

set_option maxHeartbeats 1000000 in
theorem Parse_any (s : ByteArray) (w : World) (hE : EnvM w) (hs : s.size ≤ 1000) :
    Calls Try.prog 13 #[.string s] w fun e w' => ∃ v, e = .returned (.tuple #[v, .int .i64 (parseE s.data.toList)]) ∧ StrsAt w' v (parseA s) ∧ Below w.heap.size w w' := by
  by_cases hsl : ∃ r, s.data.toList = 47 :: r
  · obtain ⟨r, hr⟩ := hsl
    have hrl : r.length ≤ 1000 := by have := size_len s; rw [hr] at this; simp at this; omega
    by_cases hr0 : r = []
    · subst hr0
      obtain ⟨ht1, ht2⟩ := trim_slash (r := [])
      have HE := Lib.hid (show parseE s.data.toList = 0 by rw [hr]; rfl)
      have HA := Lib.hid (show parseA s = [] by unfold parseA; rw [hr]; rfl)
      have HC := Lib.hid (Try.strings_CutPrefix s ⟨#[47]⟩ w)
      rw [show (⟨#[47]⟩ : ByteArray).data.toList = [47] from rfl, hr, ht1, ht2] at HC
      rw [HE.out, HA.out]
      clear hr ht1 ht2
      go_enter Try.func13, Try.ntmps13
      go_wp2_with fail
      refine HC.out.mono ?_
      rintro e w' ⟨rfl, hw'⟩
      rw [hw']
      go_wp2_with fail
      go_ret2
      exact ⟨.slice none 0 0, rfl, .inl ⟨_, _, rfl, rfl⟩, Below.refl _ _⟩
    · exact (callsIn_wide (n := 8)).1 (parse_in 8 (Nat.le_refl _) s r w hE hr hr0 hrl)
  · have hno : ∀ r, s.data.toList ≠ 47 :: r := fun r h => hsl ⟨r, h⟩
    have hp := no_trim hno
    have HE := Lib.hid (show parseE s.data.toList = 6 by
      cases h : s.data.toList with
      | nil => rfl
      | cons c r => rw [parseE, if_neg]; rintro rfl; exact hno r h)
    have HA := Lib.hid (show parseA s = [] by unfold parseA parseP; rw [HE.out]; rfl)
    have HC := Lib.hid (Try.strings_CutPrefix s ⟨#[47]⟩ w)
    rw [show (⟨#[47]⟩ : ByteArray).data.toList = [47] from rfl, hp] at HC
    rw [HE.out, HA.out]
    clear hsl hno hp
    go_enter Try.func13, Try.ntmps13
    go_wp2_with fail
    refine HC.out.mono ?_
    rintro e w' ⟨rfl, hw'⟩
    rw [hw']
    go_wp2_with fail
    go_ret2
    exact ⟨.slice none 0 0, rfl, .inl ⟨_, _, rfl, rfl⟩, Below.refl _ _⟩
end Go.Proofs.Ytbgfeonlnhlbfaa
