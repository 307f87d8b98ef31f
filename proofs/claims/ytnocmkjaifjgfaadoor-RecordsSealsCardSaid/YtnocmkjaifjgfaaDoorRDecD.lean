/- (*reader).list. -/
import Derived.Test.YtnocmkjaifjgfaaDoorRDecC
import Derived.Test.YtnocmkjaifjgfaaDoorREncF
namespace Go.Proofs.YtnocmkjaifjgfaaDoor.R
open Go.RowKit

theorem numsL_take : ∀ (k : Nat) (b : List UInt8), numsL k (b.take (k * 4)) = numsL k b := by
  intro k
  induction k with
  | zero => intro b; rfl
  | succ k ih =>
    intro b
    simp only [numsL, List.take_take, List.drop_take]
    rw [show min 4 ((k + 1) * 4) = 4 from by omega, show (k + 1) * 4 - 4 = k * 4 from by omega, ih]
theorem numsL_snoc : ∀ (k : Nat) (b : List UInt8), numsL (k + 1) b = numsL k b ++ [numL ((b.drop (4 * k)).take 4)] := by
  intro k
  induction k with
  | zero => intro b; simp [numsL]
  | succ k ih =>
    intro b
    rw [numsL, ih (b.drop 4), numsL, List.drop_drop, show 4 + 4 * k = 4 * (k + 1) from by omega]; rfl
theorem oneD_108 (l : List UInt8) : (cntE 60 4 l ≠ 0 → oneD 108 l = (Rv.zero, 0, cntE 60 4 l)) ∧
    (cntE 60 4 l = 0 → (grpD l).1 ≤ 60 ∧ (grpD l).1 * 4 ≤ l.length - (grpD l).2.1 ∧ oneD 108 l = (⟨0, ByteArray.empty, numsL (grpD l).1 ((l.drop (grpD l).2.1).take ((grpD l).1 * 4))⟩, (grpD l).2.1 + (grpD l).1 * 4, 0)) := by
  rw [numsL_take]
  unfold oneD cntE
  rw [if_neg (show ¬ 0 < widV 108 by decide)]
  by_cases h : (grpD l).2.2 ≠ 0
  · rw [if_pos h, if_pos h]; exact ⟨fun _ => rfl, fun e => absurd e h⟩
  · rw [if_neg h, if_neg h, if_neg (show ¬ (108 : Nat) = 118 by decide), if_neg (show ¬ (108 : Nat) = 115 by decide), Nat.mul_comm 4]
    by_cases h1 : 60 < (grpD l).1
    · rw [if_pos h1, if_pos h1]; exact ⟨fun _ => rfl, fun e => by omega⟩
    · rw [if_neg h1, if_neg h1]
      by_cases h2 : l.length - (grpD l).2.1 < (grpD l).1 * 4
      · rw [if_pos h2, if_pos h2]; exact ⟨fun _ => rfl, fun e => by omega⟩
      · rw [if_neg h2, if_neg h2]; exact ⟨fun e => by omega, fun _ => ⟨by omega, by omega, rfl⟩⟩
/-- What is read, good or bad, in one form. -/
theorem list_form {W0 w w2 : World} {b m d : Nat} {s : Option Addr} {l : List UInt8} (h : Counted W0 w b l 60 4 s m d w2) :
    ∃ (q u : Nat) (bs : List UInt8), m = 4 * q ∧ q ≤ 60 ∧ bs.length = 4 * q ∧ BytesAt W0 (.slice s (4 * q) d) bs ∧ oneD 108 l = (⟨0, ⟨#[]⟩, numsL q bs⟩, u, cntE 60 4 l) ∧ (cntE 60 4 l = 0 → RdAt W0 w2 b (l.drop u)) := by
  by_cases h0 : cntE 60 4 l = 0
  · obtain ⟨hm, hby, hr⟩ := h.good h0
    obtain ⟨h1, h2, h3⟩ := (oneD_108 l).2 h0
    rw [hm] at hby hr
    refine ⟨(grpD l).1, _, (l.drop (grpD l).2.1).take ((grpD l).1 * 4), by omega, h1, by rw [List.length_take, List.length_drop]; omega, by rw [Nat.mul_comm]; exact hby, by rw [h3, h0]; rfl, fun _ => hr⟩
  · obtain rfl := h.bad h0
    exact ⟨0, 0, [], rfl, by omega, rfl, BytesAt.none_ _ _, (oneD_108 l).1 h0, fun e => absurd e h0⟩

noncomputable def appX (ty : TypeId) (xs : Array Value) : Sem Value := Builtin.append_ #[36, 36] ty xs
theorem appX_eq (ty : TypeId) (xs : Array Value) : Builtin.append_ #[36, 36] ty xs = appX ty xs := rfl
theorem run_append_num {W : World} {ty : TypeId} {base : Nat} {v : Value} {l0 : List Nat} (y : Nat) (hown : Own32 W base v l0) (hl : l0.length ≤ 1000) (hb : base ≤ W.heap.size) :
    ∃ v' w', (appX ty #[v, .slice (some ⟨W.heap.size, 0, none⟩) 1 1]).run Tryd.prog (W.alloc (.cells #[.int .u32 (y : Nat)] 44 (0, 0))) = .ok v' w' ∧ Own32 w' base v' (l0 ++ [y]) ∧ Kept (fun k => v.ownBlock = some k) W w' := by
  obtain ⟨i0, hi, hz0, hz1, hz2⟩ := info_parts infoU32
  have hA := (Kept.refl (fun _ => False) W).alloc (.cells #[.int .u32 (y : Nat)] 44 (0, 0))
  obtain ⟨v', w', hr, h1, h2, h3, h4⟩ := run_append_own_at (P := Tryd.prog) (W.alloc (.cells #[.int .u32 (y : Nat)] 44 (0, 0))) base 36 ty 44 i0 (.int .u32 0) 1 4 Tryd.underlying36 hi hz0 hz1 hz2 rfl (by decide) v l0.length _ (hown.kept hA (fun _ _ h => h)) ⟨W.heap.size, 0, none⟩ 1 1 [.int .u32 (y : Nat)] rfl
    (fun j u hj => by
      cases j with
      | zero => simp at hj; subst hj; rw [addr_add]; simp
      | succ j => simp at hj)
    (by intro u hu; simp at hu; subst hu; rfl) (by unfold maxLen; omega) (by omega) (by simp; omega)
  refine ⟨v', w', hr, ?_, (hA.mono (fun _ h => h.elim)).trans (Kept.grown h2)⟩
  unfold Own32
  simp only [List.length_append, List.length_singleton, List.map_append, List.map_cons, List.map_nil]
  exact h1

theorem range_next {pre : List Nat} {x q : Nat} (h : pre ++ [x] = List.range (pre ++ [x]).length ∧ (pre ++ [x]).length ≤ q) : x = pre.length ∧ pre.length < q := by
  obtain ⟨h1, h2⟩ := h
  have e : (pre ++ [x])[pre.length]? = some x := by simp
  rw [h1] at e
  simp at e h2
  exact ⟨e.symm, by omega⟩
theorem Own32.shapeM {w : World} {base : Nat} {v : Value} {l : List Nat} (h : Own32 w base v l) : ∃ a m d, v = .slice a m d := by
  obtain ⟨a, d, e⟩ := h.at_.shape
  exact ⟨a, _, d, e⟩
/-- The bytes of the round x. -/
theorem chunk_bytes {W0 : World} {s : Option Addr} {q d x : Nat} {bs : List UInt8} (h : BytesAt W0 (.slice s (4 * q) d) bs) (hl : bs.length = 4 * q) (hx : x < q) : BytesAt W0 (.slice (s.map fun y => y.add (4 * x)) 4 4) ((bs.drop (4 * x)).take 4) := by
  rw [← hl] at h
  have h1 := bytes_cut (d' := 4) h (4 * x) (by omega)
  have h2 : (bs.drop (4 * x)).length = bs.length - 4 * x := List.length_drop
  rw [← h2] at h1
  exact h1.take 4 (by omega)
/-- Between two rounds. -/
structure LiI (W2 : World) (vb base : Nat) (bs : List UInt8) (pre : List Nat) (W : World) (r : Value) : Prop where
  v : Blk W vb 38 #[.int .u64 0, .string ⟨#[]⟩, r]
  own : Own32 W base r (numsL pre.length bs)
  kept : Kept (fun k => k = vb) W2 W
theorem LiI.keptX {X : Nat → Prop} {W2 : World} {vb base : Nat} {bs : List UInt8} {pre : List Nat} {A B : World} {r : Value} (h : LiI W2 vb base bs pre A r) (hk : Kept X A B) (hx : ∀ k, X k → W2.heap.size ≤ k ∧ k < base ∧ k ≠ vb) : LiI W2 vb base bs pre B r :=
  ⟨(hk.block vb h.v.lt (fun q => (hx _ q).2.2 rfl)).trans h.v, h.own.kept hk (fun g e q => by have := (h.own.ge e).1; have := (hx _ q).2.1; omega), h.kept.trans' hk (fun i hi e => by have := (hx _ e).1; omega)⟩

attribute [local go_sem] Oper.semAt_some
attribute [local go_sem ↓] appX_eq

set_option maxHeartbeats 4000000 in
set_option maxRecDepth 100000 in
theorem rlist_in (n : Nat) (hn : 8 ≤ n) (W0 : World) (b : Nat) (l : List UInt8) (w : World) (hR : RdAt W0 w b l) (hB0 : Below W0.heap.size W0 w) (hl : l.length ≤ maxLen) (hW0 : W0.heap.size ≤ b) :
    CallsIn Fence.wide n Tryd.prog 51 #[.pointer (some ⟨b, 0, none⟩), .int .i64 60] w (RdPost W0 w b 108 l) := by
  have hbb := hR.lt
  have HAL := Lib.hid ((Below.refl w.heap.size w).alloc (Nat.le_refl _) (.cells #[.int .u64 0, .string ⟨#[]⟩, .slice none 0 0] 38 (0, 0)))
  have HB1 := Lib.hid (hB0.trans (HAL.out.mono hB0.size))
  have HC := Lib.hid (counted_60 W0 b l _ (hR.kept (Kept.of_below HAL.out (fun _ => False)) (fun h => h)) HB1.out hl hW0)
  have HV0 : Hid (Blk (w.alloc (.cells #[.int .u64 0, .string ⟨#[]⟩, .slice none 0 0] 38 (0, 0))) w.heap.size 38 #[.int .u64 0, .string ⟨#[]⟩, .slice none 0 0]) := Lib.hid (heap_alloc_new w _)
  have HSW := Lib.hid (show (w.alloc (.cells #[.int .u64 0, .string ⟨#[]⟩, .slice none 0 0] 38 (0, 0))).heap.size = w.heap.size + 1 by simp)
  clear hR
  refine callsIn_of_wp_marks Tryd.func51 rfl trivial ?_ rfl
  simp only [Tryd.ntmps51, List.size_toArray, List.length_cons, List.length_nil, Nat.reduceAdd, Nat.reduceSub, Array.replicate_succ, Array.replicate_zero, List.push_toArray, List.append_toArray, List.nil_append, List.cons_append]
  gi_wp2_with fail
  refine ⟨trivial, fun _ => by omega, (callsIn_wide.2 HC.out).mono ?_⟩
  rintro e W2 ⟨s, m, d, rfl, hC⟩
  obtain ⟨q, u, bs, rfl, hq, hbl, hby, hone, hrd⟩ := list_form hC
  have hk2 := hC.kept
  have hd := hC.le
  have hsz2 := hk2.size
  rw [HSW.out] at hsz2
  have hv2 : Blk W2 w.heap.size 38 #[.int .u64 0, .string ⟨#[]⟩, .slice none 0 0] := (hk2.block _ HV0.out.lt (by omega)).trans HV0.out
  have HBY := Lib.hid hby
  have HONE := Lib.hid hone
  have HRD := Lib.hid hrd
  have HBL := Lib.hid hbl
  have HK2 := Lib.hid hk2
  have HBW : Hid (Below W0.heap.size W0 W2) := Lib.hid (HB1.out.trans (hk2.toBelow (by rw [HSW.out]; have := hB0.size; omega) (fun j hj e => by omega)))
  have HSS : Hid (0 < q → s.isSome = true) := Lib.hid (fun h => by
    rcases hby with ⟨a, c, hva, hl0⟩ | ⟨g, i, c, hva, _⟩
    · rw [hl0] at hbl; simp at hbl; omega
    · injection hva with h1 h2 h3; rw [h1]; rfl)
  generalize cntE 60 4 l = er at *
  clear hC hby hone hrd hbl hk2 HC
  gi_wp2_with fail
  refine ⟨trivial, fun _ => by omega, (callsIn_wide.2 (chunk_any s (4 * q) d _)).mono ?_⟩
  rintro e W7 ⟨rfl, rfl⟩
  gi_wp2_with fail
  obtain ⟨W8, hW8⟩ : ∃ W8, (W2.alloc (.cells #[.slice s (4 * q) d] 22)).alloc (.cells #[.int .i64 4] 3) = W8 := ⟨_, rfl⟩
  have hs8 : W8.heap.size = W2.heap.size + 2 := by rw [← hW8]; simp
  have x8 : Boxed W8 W2.heap.size 22 (.slice s (4 * q) d) := by rw [← hW8]; exact (Boxed.new W2 _ _).alloc _
  have y8 : Boxed W8 (W2.heap.size + 1) 3 (.int .i64 4) := by
    rw [← hW8]; have := Boxed.new (W2.alloc (.cells #[.slice s (4 * q) d] 22)) 3 (.int .i64 4); rw [World.size_alloc] at this; exact this
  have HI0 : Hid (∃ r, LiI W2 w.heap.size (W8.heap.size + 2) bs [] W8 r) := Lib.hid ⟨.slice none 0 0, by rw [← hW8]; exact (hv2.alloc _).alloc _, Own32.nil _ _, by rw [← hW8]; exact ((Kept.refl _ _).alloc _).alloc _⟩
  rw [hW8]
  have hI : Stays (O2 (fun _ => False) W8.heap.size) (fun pre W => ∃ r, LiI W2 w.heap.size (W8.heap.size + 2) bs pre W r) := fun pre A B ⟨r, h⟩ hk => ⟨r, h.keptX hk (fun k e => by unfold O2 at e; simp at e; omega)⟩
  have hIx : ∀ _ : Code, Stays (O2 (fun _ => False) W8.heap.size) (fun (_ : List Nat) (_ : World) => False) := fun _ _ _ _ h _ => h
  clear hW8 hv2
  refine range_law (n := n) rfl (by omega) (gf := 60) (lb := #[.pointer (some ⟨W2.heap.size, 0, none⟩), .pointer (some ⟨W2.heap.size + 1, 0, none⟩)]) rfl trivial (enters_of Tryd.func60 (by kernel_rfl) rfl)
    (O := fun _ => False) (R := chR w.heap.size W2.heap.size) (encs := encC s) ⟨by omega, by omega, by omega⟩
    (fun W1 hb1' hs1 => chunk_seq (n - 1) (by omega) w.heap.size W2.heap.size q s d W1 HSS.out hq hd ((hb1'.block _ x8.lt).trans x8) ((hb1'.block _ y8.lt).trans y8)) (fun _ => rfl) (fun k h => h.elim)
    (fun pre W => ∃ r, LiI W2 w.heap.size (W8.heap.size + 2) bs pre W r) (fun _ _ _ => False) hI hIx HI0.out ?round ?done ?stop
  case stop => rintro c pre W _ h _; exact h.elim
  case round =>
    rintro pre x W hL hbf hC K hK
    obtain ⟨rfl, hxq⟩ := range_next hC
    unfold encC
    gi_wp2
    refine hK _ _ (Kept.refl _ _) ?_
    clear hK
    intro W3 hk3
    obtain ⟨r, hL2⟩ := hI _ _ _ hL (hk3.mono (fun k (h : k = _) => .inr (.inr h)))
    have hbw3 : Below W0.heap.size W0 W3 := HBW.out.trans (hL2.kept.toBelow (by have := HBW.out.size; omega) (fun j hj e => by have := hB0.size; omega))
    have hchk := chunk_bytes HBY.out HBL.out hxq
    have HSN := Lib.hid (numsL_snoc pre.length bs)
    have hlen4 : ((bs.drop (4 * pre.length)).take 4).length = 4 := by rw [List.length_take, List.length_drop, HBL.out]; omega
    have hz := numL_lt ((bs.drop (4 * pre.length)).take 4)
    rw [hlen4] at hz
    have HNU := Lib.hid (number_any _ _ W3.drew ((hchk.below hbw3 (Nat.le_refl _)).below (below_drew (Below.refl W3.heap.size W3)) (Nat.le_refl _)) (by omega))
    generalize numL ((bs.drop (4 * pre.length)).take 4) = z at *
    have hz32 : z < 4294967296 := by simpa using hz
    have hw3 : W8.heap.size + 2 ≤ W3.heap.size := Nat.le_trans hbf (by exact hk3.size)
    obtain ⟨v', w', hrun, hown', hkw⟩ := run_append_num (ty := 36) (W := W3.drew) z (hL2.own.kept ((Kept.refl (fun _ => False) W3).drew) (fun _ _ h => h)) (by rw [numsL_len]; omega) hw3
    obtain ⟨a3, m3, d3, rfl⟩ := hown'.shapeM
    have hrun' : Sem.run Tryd.prog (appX 36 #[r, .slice (some ⟨W3.heap.size, 0, none⟩) 1 1]) ((W3.alloc (.cells #[.int .u32 z] 44 (0, 0))).drew) = .ok (.slice a3 m3 d3) w' := hrun
    have hwz : IntKind.u32.wrap (z : Int) = z := by rw [IntKind.wrap_u32]; omega
    have hvl := hL2.v.lt
    have hro : ¬ r.ownBlock = some w.heap.size := fun e => by have := (hL2.own.ge e).1; omega
    have hc2 : W3.drew.cell? ⟨w.heap.size, 2, none⟩ = some r := hL2.v.cell 2
    have hc20 : W3.cell? ⟨w.heap.size, 2, none⟩ = some r := hL2.v.cell 2
    have hc22 : (W3.alloc (.cells #[.int .u32 z] 44 (0, 0))).drew.cell? ⟨w.heap.size, 2, none⟩ = some r := (hL2.v.alloc _).cell 2
    have hc23 : (W3.alloc (.cells #[.int .u32 z] 44 (0, 0))).cell? ⟨w.heap.size, 2, none⟩ = some r := (hL2.v.alloc _).cell 2
    have hc9 : w'.cell? ⟨w.heap.size, 2, none⟩ = some r := (hkw.cell (b := w.heap.size) 2 hvl hro).trans hc2
    have hf9 : w'.frozen? ⟨w.heap.size, 2, none⟩ = false := (hkw.frozen (b := w.heap.size) 2 hvl hro).trans (hL2.v.frozen 2)
    have HFIN := Lib.hid (show ∀ a, roundPost (chR w.heap.size W2.heap.size) W8.heap.size (fun pre W => ∃ r, LiI W2 w.heap.size (W8.heap.size + 2) bs pre W r) (fun _ _ _ => False) (pre ++ [pre.length]) W3 .normal a (w'.setCell ⟨w.heap.size, 2, none⟩ (.slice a3 m3 d3)) from fun a => by
      have hk9 : Kept (fun k => r.ownBlock = some k) W3 w' := ((Kept.refl (fun k => r.ownBlock = some k) W3).drew).trans hkw
      have hst := (Kept.refl (fun k => k = w.heap.size) w').setCell ⟨w.heap.size, 2, none⟩ (.inl rfl) (.slice a3 m3 d3)
      refine ⟨?_, .slice a3 m3 d3, ⟨?_, ?_, ?_⟩⟩
      · refine (hk9.mono (Y := R2 (chR w.heap.size W2.heap.size) W8.heap.size) (fun k e => ?_)).trans (hst.mono (fun k e => ?_))
        · have := (hL2.own.ge e).1; unfold R2 chR; omega
        · unfold R2 chR; omega
      · have hb9 : Blk w' w.heap.size 38 #[.int .u64 0, .string ⟨#[]⟩, r] := (hk9.block _ hvl hro).trans hL2.v
        exact hb9.set_ 2 _
      · rw [List.length_append, List.length_singleton, HSN.out]
        exact hown'.kept hst (fun g e q => by have := (hown'.ge e).1; omega)
      · exact (hL2.kept.trans' hk9 (fun i hi e => by have := (hL2.own.ge e).1; omega)).trans' hst (fun i hi e => e))
    clear hrun hkw hown' hL2 hchk hlen4 hz hbw3 hI hIx hC hL
    gi_wp2_with fail
    gi_region_with (refine ⟨trivial, fun _ => by omega, (CallsIn.inRound _ (callsIn_wide.2 HNU.out)).mono ?_⟩; rintro e w9 ⟨rfl, rfl⟩)
    all_goals exact HFIN.out ⟨#[], []⟩
  case done =>
    rintro xs W hxs ⟨r, hL⟩ hD
    obtain rfl : xs = List.range q := hxs
    have hown := hL.own
    rw [List.length_range] at hown
    obtain ⟨a3, m3, d3, rfl⟩ := hown.shapeM
    have hc0 := hL.v.cell 0
    have hc1 := hL.v.cell 1
    have hc2 := hL.v.cell 2
    have hf0 := hL.v.frozen 0
    have hf1 := hL.v.frozen 1
    have hf2 := hL.v.frozen 2
    simp at hc0 hc1 hc2
    have HL := Lib.hid hL
    have HOW := Lib.hid hown
    have HD := Lib.hid hD
    clear hL hown hD hI hIx
    gi_wp2_with fail
    have hput := put3 w.heap.size (.int .u64 0) (.string ⟨#[]⟩) (.slice a3 m3 d3) W
    have hbF : Blk (((W.setCell ⟨w.heap.size, 0, none⟩ (.int .u64 0)).setCell ⟨w.heap.size, 1, none⟩ (.string ⟨#[]⟩)).setCell ⟨w.heap.size, 2, none⟩ (.slice a3 m3 d3)) w.heap.size 38 #[.int .u64 0, .string ⟨#[]⟩, .slice a3 m3 d3] := ((HL.out.v.set_ 0 (.int .u64 0)).set_ 1 (.string ⟨#[]⟩)).set_ 2 (.slice a3 m3 d3)
    have hlt8 : W8.heap.size < W.heap.size := (Array.getElem?_eq_some_iff.1 HD.out).1
    have hD3 := (hput.block W8.heap.size hlt8 (by omega)).trans HD.out
    have hKF := HL.out.kept.trans hput
    have hOF := HOW.out.kept hput (fun g e q => by have := (HOW.out.ge e).1; omega)
    generalize ((W.setCell ⟨w.heap.size, 0, none⟩ (.int .u64 0)).setCell ⟨w.heap.size, 1, none⟩ (.string ⟨#[]⟩)).setCell ⟨w.heap.size, 2, none⟩ (.slice a3 m3 d3) = WF at *
    have hp : Kept (fun k => k = W8.heap.size) WF (WF.putObj W8.heap.size (.deferred none)) := Kept.putObj _ _ _ _ rfl
    have hbE : Blk (WF.putObj W8.heap.size (.deferred none)) w.heap.size 38 #[.int .u64 0, .string ⟨#[]⟩, .slice a3 m3 d3] := (hp.block _ hbF.lt (by omega)).trans hbF
    refine ⟨by simp, .inl ⟨_, _, rfl, run_takeDeferred hD3, ?_⟩⟩
    have B0 := hbE.cell 0
    have B1 := hbE.cell 1
    have B2 := hbE.cell 2
    simp at B0 B1 B2
    have hKE : Kept (fun k => k = b) w (WF.putObj W8.heap.size (.deferred none)) := by
      refine ((((Kept.of_below HAL.out (fun k => k = b)).trans HK2.out).trans' hKF (fun i hi e => by omega))).trans' hp (fun i hi e => by omega)
    exact ⟨.tuple #[.agg #[.int .u64 0, .string ⟨#[]⟩, .slice a3 m3 d3], .int .i64 er], by simp [results, Tryd.results51, go_sem, B0, B1, B2],
      rd_post HONE.out ((hOF.kept hp (fun g e q => by have := (hOF.ge e).1; omega)).mono (by omega)) (fun h0 => ((HRD.out h0).kept hKF (by omega)).kept hp (by omega)) hKE⟩
theorem rlist_any (W0 : World) (b : Nat) (l : List UInt8) (w : World) (hR : RdAt W0 w b l) (hB0 : Below W0.heap.size W0 w) (hl : l.length ≤ maxLen) (hW0 : W0.heap.size ≤ b) :
    Calls Tryd.prog 51 #[.pointer (some ⟨b, 0, none⟩), .int .i64 60] w (RdPost W0 w b 108 l) := callsIn_wide.1 (rlist_in 8 (Nat.le_refl _) W0 b l w hR hB0 hl hW0)
end Go.Proofs.YtnocmkjaifjgfaaDoor.R
