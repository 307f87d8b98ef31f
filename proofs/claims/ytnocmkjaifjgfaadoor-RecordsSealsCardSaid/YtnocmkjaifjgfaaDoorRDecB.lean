/- (*reader).counted, fixed, grouped, str. -/
import Derived.Test.YtnocmkjaifjgfaaDoorRDecA
import Derived.Lib.BufferRead
namespace Go.Proofs.YtnocmkjaifjgfaaDoor.R
open Go.RowKit

def cntE (most size : Nat) (l : List UInt8) : Nat :=
  if (grpD l).2.2 ≠ 0 then (grpD l).2.2 else if most < (grpD l).1 then 3 else if l.length - (grpD l).2.1 < (grpD l).1 * size then 10 else 0
/-- What counted leaves. -/
structure Counted (W0 w : World) (b : Nat) (l : List UInt8) (most size : Nat) (s : Option Addr) (m d : Nat) (w' : World) : Prop where
  bad : cntE most size l ≠ 0 → m = 0
  good : cntE most size l = 0 → m = (grpD l).1 * size ∧ BytesAt W0 (.slice s m d) ((l.drop (grpD l).2.1).take m) ∧ RdAt W0 w' b (l.drop ((grpD l).2.1 + m))
  le : m ≤ d
  kept : Kept (fun k => k = b) w w'
def CntPost (W0 w : World) (b : Nat) (l : List UInt8) (most size : Nat) (e : Ending) (w' : World) : Prop :=
  ∃ s m d, e = .returned (.tuple #[.slice s m d, .int .i64 (cntE most size l)]) ∧ Counted W0 w b l most size s m d w'
theorem grpK_le (l : List UInt8) : ∀ (k i a : Nat), (grpK k i a l).2.2 = 0 → (grpK k i a l).2.1 ≤ i + l.length := by
  induction l with
  | nil => intro k i a h; cases k <;> simp [grpK] at h
  | cons c l ih =>
    intro k i a h
    cases k with
    | zero => simp [grpK] at h
    | succ k =>
      simp only [grpK] at h ⊢
      split at h
      · rw [if_pos (by assumption)]; have := ih _ _ _ h; simp; omega
      · rw [if_neg (by assumption)]
        split at h
        · simp at h
        · rw [if_neg (by assumption)]; simp
theorem grpD_le (l : List UInt8) (h : (grpD l).2.2 = 0) : (grpD l).2.1 ≤ l.length := by have := grpK_le l 10 0 0 h; unfold grpD; omega
theorem BytesAt.shapeD {w : World} {s : Option Addr} {m d : Nat} {l : List UInt8} (h : BytesAt w (.slice s m d) l) : l.length = m := by
  rcases h with ⟨a, c, hv, rfl⟩ | ⟨b, o, c, hv, _⟩
  · cases hv; rfl
  · injection hv with h1 h2 h3; exact h2.symm

set_option maxHeartbeats 2000000 in
theorem counted_400 (W0 : World) (b : Nat) (l : List UInt8) (w : World) (hR : RdAt W0 w b l) (hB0 : Below W0.heap.size W0 w) (hl : l.length ≤ maxLen) (hW0 : W0.heap.size ≤ b) :
    Calls Tryd.prog 57 #[.pointer (some ⟨b, 0, none⟩), .int .i64 400, .int .i64 1] w (CntPost W0 w b l 400 1) := by
  have HG := Lib.hid (rgroups_any W0 b l w hR hB0 hl)
  have HR0 := Lib.hid hR
  clear hR
  by_cases he : (grpD l).2.2 = 0
  · have hle := grpD_le l he
    have HE0 := Lib.hid he
    by_cases hm : 400 < (grpD l).1
    · have HC : Hid (cntE 400 1 l = 3) := Lib.hid (by unfold cntE; rw [if_neg (by rw [he]; decide), if_pos hm])
      have hn := (grpD_one l he).2.2
      generalize hgn : (grpD l).1 = n at *
      have HGN := Lib.hid hgn
      have d1 : decide ((400 : Int) < n) = true := decide_eq_true (by omega)
      clear he hle hm hgn hB0
      go_enter Tryd.func57, Tryd.ntmps57
      go_wp2_with fail
      refine HG.out.mono ?_
      rintro e w2 ⟨rfl, hr2, hk2⟩
      have HK2 := Lib.hid hk2
      rw [HE0.out, HGN.out]
      clear hr2 hk2
      go_wp2_with fail
      go_ret2
      exact ⟨none, 0, 0, by rw [HC.out]; rfl, ⟨fun _ => rfl, fun h => by rw [HC.out] at h; omega, by omega, HK2.out⟩⟩
    · have hn := (grpD_one l he).2.2
      by_cases hs : l.length - (grpD l).2.1 < (grpD l).1 * 1
      · have HC : Hid (cntE 400 1 l = 10) := Lib.hid (by unfold cntE; rw [if_neg (by rw [he]; decide), if_neg hm, if_pos hs])
        have HT : Hid (∀ (w2 : World), RdAt W0 w2 b (l.drop (grpD l).2.1) → Calls Tryd.prog 54 #[.pointer (some ⟨b, 0, none⟩), .int .i64 ((grpD l).1 : Int)] w2 fun e w' => e = .returned (.tuple #[.slice none 0 0, .int .i64 10]) ∧ w2 = w') := Lib.hid (fun w2 hr => by
          have h := take_no W0 b ((grpD l).1 * 1) _ w2 hr (by rw [List.length_drop]; omega) (by rw [List.length_drop]; exact hs) (by unfold maxLen; omega)
          exact (by rw [show (((grpD l).1 * 1 : Nat) : Int) = ((grpD l).1 : Int) from by omega] at h; exact h))
        generalize hgn : (grpD l).1 = n at *
        have HGN := Lib.hid hgn
        have d1 : decide ((400 : Int) < n) = false := decide_eq_false (by omega)
        clear he hle hs hgn hB0
        go_enter Tryd.func57, Tryd.ntmps57
        go_wp2_with fail
        refine HG.out.mono ?_
        rintro e w2 ⟨rfl, hr2, hk2⟩
        have HK2 := Lib.hid hk2
        have HT2 := Lib.hid (HT.out w2 hr2)
        rw [HE0.out, HGN.out]
        clear hr2 hk2
        go_wp2_with fail
        refine HT2.out.mono ?_
        rintro e w3 ⟨rfl, rfl⟩
        go_wp2_with fail
        go_ret2
        exact ⟨none, 0, 0, by rw [HC.out]; rfl, ⟨fun _ => rfl, fun h => by rw [HC.out] at h; omega, by omega, HK2.out⟩⟩
      · have HC : Hid (cntE 400 1 l = 0) := Lib.hid (by unfold cntE; rw [if_neg (by rw [he]; decide), if_neg hm, if_neg hs])
        have HT : Hid (∀ (w2 : World), RdAt W0 w2 b (l.drop (grpD l).2.1) → Calls Tryd.prog 54 #[.pointer (some ⟨b, 0, none⟩), .int .i64 ((grpD l).1 : Int)] w2 fun e w' => ∃ s d, e = .returned (.tuple #[.slice s ((grpD l).1 * 1) d, .int .i64 0]) ∧ BytesAt W0 (.slice s ((grpD l).1 * 1) d) ((l.drop (grpD l).2.1).take ((grpD l).1 * 1)) ∧ (grpD l).1 * 1 ≤ d ∧ RdAt W0 w' b ((l.drop (grpD l).2.1).drop ((grpD l).1 * 1)) ∧ Kept (fun k => k = b) w2 w') := Lib.hid (fun w2 hr => by
          have h := take_yes W0 b ((grpD l).1 * 1) _ w2 hr (by rw [List.length_drop]; omega) (by rw [List.length_drop]; omega)
          exact (by rw [show (((grpD l).1 * 1 : Nat) : Int) = ((grpD l).1 : Int) from by omega] at h; exact h))
        generalize hgn : (grpD l).1 = n at *
        have HGN := Lib.hid hgn
        have d1 : decide ((400 : Int) < n) = false := decide_eq_false (by omega)
        clear he hle hs hgn hB0
        go_enter Tryd.func57, Tryd.ntmps57
        go_wp2_with fail
        refine HG.out.mono ?_
        rintro e w2 ⟨rfl, hr2, hk2⟩
        have HK2 := Lib.hid hk2
        have HT2 := Lib.hid (HT.out w2 hr2)
        rw [HE0.out, HGN.out]
        clear hr2 hk2
        go_wp2_with fail
        refine HT2.out.mono ?_
        rintro e w3 ⟨s, d, rfl, hby, hd, hr3, hk3⟩
        have HF : Hid (Counted W0 w b l 400 1 s (n * 1) d w3) := Lib.hid ⟨fun h => absurd HC.out h, fun _ => ⟨by rw [HGN.out], hby, by rw [← List.drop_drop]; exact hr3⟩, hd, HK2.out.trans hk3⟩
        clear hby hr3 hk3
        go_wp2_with fail
        go_ret2
        exact ⟨s, n * 1, d, by rw [HC.out]; rw [Nat.mul_one]; rfl, HF.out⟩
  · have HC : Hid (cntE 400 1 l = (grpD l).2.2) := Lib.hid (by unfold cntE; rw [if_pos he])
    have HE := Lib.hid he
    have hz : ((((grpD l).2.2 : Nat) : Int) == 0) = false := by simp; omega
    generalize hq : (grpD l).2.2 = q at *
    have HQ := Lib.hid hq
    clear he hB0 hq
    go_enter Tryd.func57, Tryd.ntmps57
    go_wp2_with fail
    refine HG.out.mono ?_
    rintro e w2 ⟨rfl, hr2, hk2⟩
    have HK2 := Lib.hid hk2
    rw [HQ.out]
    clear hr2 hk2
    go_wp2_with fail
    go_ret2
    exact ⟨none, 0, 0, by rw [HC.out]; rfl, ⟨fun _ => rfl, fun h => by rw [HC.out] at h; exact absurd h HE.out, by omega, HK2.out⟩⟩

set_option maxHeartbeats 2000000 in
theorem counted_60 (W0 : World) (b : Nat) (l : List UInt8) (w : World) (hR : RdAt W0 w b l) (hB0 : Below W0.heap.size W0 w) (hl : l.length ≤ maxLen) (hW0 : W0.heap.size ≤ b) :
    Calls Tryd.prog 57 #[.pointer (some ⟨b, 0, none⟩), .int .i64 60, .int .i64 4] w (CntPost W0 w b l 60 4) := by
  have HG := Lib.hid (rgroups_any W0 b l w hR hB0 hl)
  have HR0 := Lib.hid hR
  clear hR
  by_cases he : (grpD l).2.2 = 0
  · have hle := grpD_le l he
    have HE0 := Lib.hid he
    by_cases hm : 60 < (grpD l).1
    · have HC : Hid (cntE 60 4 l = 3) := Lib.hid (by unfold cntE; rw [if_neg (by rw [he]; decide), if_pos hm])
      have hn := (grpD_one l he).2.2
      generalize hgn : (grpD l).1 = n at *
      have HGN := Lib.hid hgn
      have d1 : decide ((60 : Int) < n) = true := decide_eq_true (by omega)
      clear he hle hm hgn hB0
      go_enter Tryd.func57, Tryd.ntmps57
      go_wp2_with fail
      refine HG.out.mono ?_
      rintro e w2 ⟨rfl, hr2, hk2⟩
      have HK2 := Lib.hid hk2
      rw [HE0.out, HGN.out]
      clear hr2 hk2
      go_wp2_with fail
      go_ret2
      exact ⟨none, 0, 0, by rw [HC.out]; rfl, ⟨fun _ => rfl, fun h => by rw [HC.out] at h; omega, by omega, HK2.out⟩⟩
    · have hn := (grpD_one l he).2.2
      by_cases hs : l.length - (grpD l).2.1 < (grpD l).1 * 4
      · have HC : Hid (cntE 60 4 l = 10) := Lib.hid (by unfold cntE; rw [if_neg (by rw [he]; decide), if_neg hm, if_pos hs])
        have HT : Hid (∀ (w2 : World), RdAt W0 w2 b (l.drop (grpD l).2.1) → Calls Tryd.prog 54 #[.pointer (some ⟨b, 0, none⟩), .int .i64 (((grpD l).1 : Int) * 4)] w2 fun e w' => e = .returned (.tuple #[.slice none 0 0, .int .i64 10]) ∧ w2 = w') := Lib.hid (fun w2 hr => by
          have h := take_no W0 b ((grpD l).1 * 4) _ w2 hr (by rw [List.length_drop]; omega) (by rw [List.length_drop]; exact hs) (by unfold maxLen; omega)
          exact (by rw [show (((grpD l).1 * 4 : Nat) : Int) = ((grpD l).1 : Int) * 4 from by omega] at h; exact h))
        generalize hgn : (grpD l).1 = n at *
        have HGN := Lib.hid hgn
        have d1 : decide ((60 : Int) < n) = false := decide_eq_false (by omega)
        clear he hle hs hgn hB0
        go_enter Tryd.func57, Tryd.ntmps57
        go_wp2_with fail
        refine HG.out.mono ?_
        rintro e w2 ⟨rfl, hr2, hk2⟩
        have HK2 := Lib.hid hk2
        have HT2 := Lib.hid (HT.out w2 hr2)
        rw [HE0.out, HGN.out]
        clear hr2 hk2
        go_wp2_with fail
        refine HT2.out.mono ?_
        rintro e w3 ⟨rfl, rfl⟩
        go_wp2_with fail
        go_ret2
        exact ⟨none, 0, 0, by rw [HC.out]; rfl, ⟨fun _ => rfl, fun h => by rw [HC.out] at h; omega, by omega, HK2.out⟩⟩
      · have HC : Hid (cntE 60 4 l = 0) := Lib.hid (by unfold cntE; rw [if_neg (by rw [he]; decide), if_neg hm, if_neg hs])
        have HT : Hid (∀ (w2 : World), RdAt W0 w2 b (l.drop (grpD l).2.1) → Calls Tryd.prog 54 #[.pointer (some ⟨b, 0, none⟩), .int .i64 (((grpD l).1 : Int) * 4)] w2 fun e w' => ∃ s d, e = .returned (.tuple #[.slice s ((grpD l).1 * 4) d, .int .i64 0]) ∧ BytesAt W0 (.slice s ((grpD l).1 * 4) d) ((l.drop (grpD l).2.1).take ((grpD l).1 * 4)) ∧ (grpD l).1 * 4 ≤ d ∧ RdAt W0 w' b ((l.drop (grpD l).2.1).drop ((grpD l).1 * 4)) ∧ Kept (fun k => k = b) w2 w') := Lib.hid (fun w2 hr => by
          have h := take_yes W0 b ((grpD l).1 * 4) _ w2 hr (by rw [List.length_drop]; omega) (by rw [List.length_drop]; omega)
          exact (by rw [show (((grpD l).1 * 4 : Nat) : Int) = ((grpD l).1 : Int) * 4 from by omega] at h; exact h))
        generalize hgn : (grpD l).1 = n at *
        have HGN := Lib.hid hgn
        have d1 : decide ((60 : Int) < n) = false := decide_eq_false (by omega)
        clear he hle hs hgn hB0
        go_enter Tryd.func57, Tryd.ntmps57
        go_wp2_with fail
        refine HG.out.mono ?_
        rintro e w2 ⟨rfl, hr2, hk2⟩
        have HK2 := Lib.hid hk2
        have HT2 := Lib.hid (HT.out w2 hr2)
        rw [HE0.out, HGN.out]
        clear hr2 hk2
        go_wp2_with fail
        refine HT2.out.mono ?_
        rintro e w3 ⟨s, d, rfl, hby, hd, hr3, hk3⟩
        have HF : Hid (Counted W0 w b l 60 4 s (n * 4) d w3) := Lib.hid ⟨fun h => absurd HC.out h, fun _ => ⟨by rw [HGN.out], hby, by rw [← List.drop_drop]; exact hr3⟩, hd, HK2.out.trans hk3⟩
        clear hby hr3 hk3
        go_wp2_with fail
        go_ret2
        exact ⟨s, n * 4, d, by rw [HC.out]; rfl, HF.out⟩
  · have HC : Hid (cntE 60 4 l = (grpD l).2.2) := Lib.hid (by unfold cntE; rw [if_pos he])
    have HE := Lib.hid he
    have hz : ((((grpD l).2.2 : Nat) : Int) == 0) = false := by simp; omega
    generalize hq : (grpD l).2.2 = q at *
    have HQ := Lib.hid hq
    clear he hB0 hq
    go_enter Tryd.func57, Tryd.ntmps57
    go_wp2_with fail
    refine HG.out.mono ?_
    rintro e w2 ⟨rfl, hr2, hk2⟩
    have HK2 := Lib.hid hk2
    rw [HQ.out]
    clear hr2 hk2
    go_wp2_with fail
    go_ret2
    exact ⟨none, 0, 0, by rw [HC.out]; rfl, ⟨fun _ => rfl, fun h => by rw [HC.out] at h; exact absurd h HE.out, by omega, HK2.out⟩⟩

/-! ### the methods -/
theorem infoU32 : (Tryd.prog.info? 44).map (fun i => (i.zero, i.size, i.bytes)) = some (some (.int .u32 0), 1, 4) := by kernel_rfl
/-- The slice x owns the numbers l. -/
def Own32 (w : World) (base : Nat) (x : Value) (l : List Nat) : Prop := w.ownsRow base 44 1 x l.length (l.map fun n => .int .u32 (n : Nat))
theorem Own32.nil (w : World) (base : Nat) : Own32 w base (.slice none 0 0) [] := World.ownsRow_nil w base 44 1
theorem Own32.at_ {w : World} {base : Nat} {v : Value} {l : List Nat} (h : Own32 w base v l) : NumsAt w v l := by
  rcases h.2 with ⟨rfl, h0⟩ | ⟨g, cap, cur, rfl, _, hg, _⟩
  · have : l = [] := List.eq_nil_of_length_eq_zero h0
    subst this
    exact .inl ⟨none, 0, rfl, rfl⟩
  · refine .inr ⟨g, 0, cap, rfl, (Array.getElem?_eq_some_iff.1 hg).1, fun j hj => ?_⟩
    have := h.cells (g := g) rfl j (.int .u32 (l[j] : Nat)) (by simp [List.getElem?_map, List.getElem?_eq_getElem hj])
    rw [addr_add] at this
    exact this
theorem Own32.mono {w : World} {base base' : Nat} {v : Value} {l : List Nat} (h : Own32 w base v l) (hb : base' ≤ base) : Own32 w base' v l := by
  refine ⟨h.1, ?_⟩
  rcases h.2 with ⟨rfl, h0⟩ | ⟨g, cap, cur, rfl, hbg, hr⟩
  · exact .inl ⟨rfl, h0⟩
  · exact .inr ⟨g, cap, cur, rfl, by omega, hr⟩
theorem Own32.kept {X : Nat → Prop} {w w' : World} {base : Nat} {v : Value} {l : List Nat} (h : Own32 w base v l) (hk : Kept X w w') (hx : ∀ g, v.ownBlock = some g → ¬ X g) : Own32 w' base v l := by
  refine ⟨h.1, ?_⟩
  rcases h.2 with ⟨rfl, h0⟩ | ⟨g, cap, cur, rfl, hb, hg, hr⟩
  · exact .inl ⟨rfl, h0⟩
  · exact .inr ⟨g, cap, cur, rfl, hb, (hk.block g (Array.getElem?_eq_some_iff.1 hg).1 (hx g rfl)).trans hg, hr⟩
theorem Own32.ge {w : World} {base g : Nat} {v : Value} {l : List Nat} (h : Own32 w base v l) (e : v.ownBlock = some g) : base ≤ g ∧ g < w.heap.size := h.lt g e
/-- What a method of the reader leaves: the kind's letter c. -/
def RdPost (W0 w : World) (b : Nat) (c : Nat) (l : List UInt8) (e : Ending) (w' : World) : Prop :=
  ∃ x, e = .returned (.tuple #[.agg #[.int .u64 (oneD c l).1.num, .string (oneD c l).1.str, x], .int .i64 (oneD c l).2.2]) ∧ Own32 w' w.heap.size x (oneD c l).1.list ∧
    ((oneD c l).2.2 = 0 → RdAt W0 w' b (l.drop (oneD c l).2.1)) ∧ Kept (fun k => k = b) w w'
theorem rd_post {W0 w : World} {b c : Nat} {l : List UInt8} {rv : Rv} {u er : Nat} (h : oneD c l = (rv, u, er)) {x : Value} {w' : World} (hx : Own32 w' w.heap.size x rv.list) (hr : er = 0 → RdAt W0 w' b (l.drop u)) (hk : Kept (fun k => k = b) w w') :
    RdPost W0 w b c l (.returned (.tuple #[.agg #[.int .u64 rv.num, .string rv.str, x], .int .i64 er])) w' := by
  unfold RdPost; rw [h]; exact ⟨x, rfl, hx, hr, hk⟩
theorem oneD_w {c : Nat} {l : List UInt8} (hc : 0 < widV c) : oneD c l = if l.length < widV c then (Rv.zero, 0, 10) else (⟨numL (l.take (widV c)), ByteArray.empty, []⟩, widV c, 0) := by unfold oneD; rw [if_pos hc]

theorem put3 (q : Nat) (u0 u1 u2 : Value) (W : World) : Kept (fun k => k = q) W (((W.setCell ⟨q, 0, none⟩ u0).setCell ⟨q, 1, none⟩ u1).setCell ⟨q, 2, none⟩ u2) :=
  (((Kept.refl (fun k => k = q) W).setCell ⟨q, 0, none⟩ (.inl rfl) u0).setCell ⟨q, 1, none⟩ (.inl rfl) u1).setCell ⟨q, 2, none⟩ (.inl rfl) u2
theorem kept_fin {w wa w2 w3 : World} {b : Nat} (ha : Below w.heap.size w wa) (h2 : Kept (fun k => k = b) wa w2) (h3 : Kept (fun k => k = w.heap.size) w2 w3) : Kept (fun k => k = b) w w3 :=
  ((Kept.of_below ha (fun k => k = b)).trans h2).trans' h3 (fun i hi e => by omega)

set_option maxHeartbeats 2000000 in
theorem rfixed_any (W0 : World) (b c : Nat) (l : List UInt8) (w : World) (hc : 0 < widV c) (hR : RdAt W0 w b l) (hB0 : Below W0.heap.size W0 w) (hl : l.length ≤ maxLen) (hW0 : W0.heap.size ≤ b) :
    Calls Tryd.prog 45 #[.pointer (some ⟨b, 0, none⟩), .int .i64 (widV c : Nat)] w (RdPost W0 w b c l) := by
  have HO := Lib.hid (oneD_w (l := l) hc)
  have hw8 := wid_le c
  have hbb := hR.lt
  have HAL := Lib.hid ((Below.refl w.heap.size w).alloc (Nat.le_refl _) (.cells #[.int .u64 0, .string ⟨#[]⟩, .slice none 0 0] 38 (0, 0)))
  have HR1 := Lib.hid (hR.kept (Kept.of_below HAL.out (fun _ => False)) (fun h => h))
  generalize widV c = k at *
  by_cases hn : l.length < k
  · have HT := Lib.hid (take_no W0 b k l _ HR1.out hl hn (by unfold maxLen; omega))
    have HE := Lib.hid (show oneD c l = (Rv.zero, 0, 10) by rw [HO.out, if_pos hn])
    have HN0 : Hid (∀ w, Calls Tryd.prog 19 #[.slice none 0 0] w fun e w' => e = .returned (.int .u64 0) ∧ w = w') := Lib.hid (fun w => number_any (.slice none 0 0) [] w (BytesAt.none_ _ _) (by simp))
    clear hn hR hB0
    go_enter Tryd.func45, Tryd.ntmps45
    go_wp2_with fail
    refine HT.out.mono ?_
    rintro e w2 ⟨rfl, rfl⟩
    go_wp2_with fail
    refine (HN0.out _).mono ?_
    rintro e w2 ⟨rfl, rfl⟩
    go_wp2_with fail
    exact bodyPost_ret (v := .tuple #[.agg #[.int .u64 0, .string ⟨#[]⟩, .slice none 0 0], .int .i64 10]) (by simp [results, Tryd.results45, go_sem]) rfl (rd_post HE.out (Own32.nil _ _) (fun h => by cases h) ((Kept.refl _ _).alloc _))
  · have HT := Lib.hid (take_yes W0 b k l _ HR1.out hl (by omega))
    have HE := Lib.hid (show oneD c l = (⟨numL (l.take k), ByteArray.empty, []⟩, k, 0) by rw [HO.out, if_neg hn])
    have hlt : (l.take k).length = k := by rw [List.length_take]; omega
    have HN0 := Lib.hid (fun w v (h : BytesAt w v (l.take k)) => number_any v (l.take k) w h (by omega))
    have HB1 := Lib.hid (hB0.trans (HAL.out.mono hB0.size))
    generalize numL (l.take k) = z at *
    clear hn hR hB0 hlt
    go_enter Tryd.func45, Tryd.ntmps45
    go_wp2_with fail
    refine HT.out.mono ?_
    rintro e w2 ⟨s, d, rfl, hby, hd, hr2, hk2⟩
    have HX := Lib.hid (HN0.out w2 _ (hby.below (HB1.out.trans (hk2.toBelow (n := W0.heap.size) (by simp; omega) (fun j hj e => by omega))) (Nat.le_refl _)))
    have HR2 := Lib.hid hr2
    have HK2 := Lib.hid hk2
    have hv0 := hk2.cell (b := w.heap.size) 0 (by simp) (by omega)
    have hv1 := hk2.cell (b := w.heap.size) 1 (by simp) (by omega)
    have hv2 := hk2.cell (b := w.heap.size) 2 (by simp) (by omega)
    have hf0 := hk2.frozen (b := w.heap.size) 0 (by simp) (by omega)
    have hf1 := hk2.frozen (b := w.heap.size) 1 (by simp) (by omega)
    have hf2 := hk2.frozen (b := w.heap.size) 2 (by simp) (by omega)
    simp [World.cell?_alloc_new] at hv0 hv1 hv2 hf0 hf1 hf2
    clear hby hr2 hk2
    go_wp2_with fail
    refine HX.out.mono ?_
    rintro e w3 ⟨rfl, rfl⟩
    go_wp2_with fail
    exact bodyPost_ret (v := .tuple #[.agg #[.int .u64 z, .string ⟨#[]⟩, .slice none 0 0], .int .i64 0]) (by simp [results, Tryd.results45, go_sem, hv0, hv1, hv2]) rfl
      (rd_post HE.out (Own32.nil _ _) (fun _ => HR2.out.kept (put3 _ _ _ _ _) (by omega)) (kept_fin HAL.out HK2.out (put3 _ _ _ _ _)))

theorem oneD_118 (l : List UInt8) : oneD 118 l = if (grpD l).2.2 ≠ 0 then (Rv.zero, 0, (grpD l).2.2) else (⟨(grpD l).1, ByteArray.empty, []⟩, (grpD l).2.1, 0) := by
  unfold oneD; rw [if_neg (by decide)]; simp only [if_true]
theorem grpD_bad {l : List UInt8} (h : (grpD l).2.2 ≠ 0) : (grpD l).1 = 0 ∧ (grpD l).2.1 = 0 := by
  rcases grpK_cases 10 0 0 l with h1 | h1
  · exact absurd h1 h
  · exact h1
theorem oneD_118' (l : List UInt8) : oneD 118 l = (⟨(grpD l).1, ByteArray.empty, []⟩, (grpD l).2.1, (grpD l).2.2) := by
  rw [oneD_118]
  by_cases h : (grpD l).2.2 ≠ 0
  · obtain ⟨h1, h2⟩ := grpD_bad h
    rw [if_pos h, h1, h2]; rfl
  · have h0 : (grpD l).2.2 = 0 := by omega
    rw [if_neg h, h0]

set_option maxHeartbeats 2000000 in
theorem rgrouped_any (W0 : World) (b : Nat) (m : Int) (l : List UInt8) (w : World) (hR : RdAt W0 w b l) (hB0 : Below W0.heap.size W0 w) (hl : l.length ≤ maxLen) (hW0 : W0.heap.size ≤ b) :
    Calls Tryd.prog 47 #[.pointer (some ⟨b, 0, none⟩), .int .i64 m] w (RdPost W0 w b 118 l) := by
  have hbb := hR.lt
  have HE := Lib.hid (oneD_118' l)
  have HAL := Lib.hid ((Below.refl w.heap.size w).alloc (Nat.le_refl _) (.cells #[.int .u64 0, .string ⟨#[]⟩, .slice none 0 0] 38 (0, 0)))
  have HG := Lib.hid (rgroups_any W0 b l _ (hR.kept (Kept.of_below HAL.out (fun _ => False)) (fun h => h)) (hB0.trans (HAL.out.mono hB0.size)) hl)
  clear hR hB0
  go_enter Tryd.func47, Tryd.ntmps47
  go_wp2_with fail
  refine HG.out.mono ?_
  rintro e w2 ⟨rfl, hr2, hk2⟩
  have HR2 := Lib.hid hr2
  have HK2 := Lib.hid hk2
  have hv0 := hk2.cell (b := w.heap.size) 0 (by simp) (by omega)
  have hv1 := hk2.cell (b := w.heap.size) 1 (by simp) (by omega)
  have hv2 := hk2.cell (b := w.heap.size) 2 (by simp) (by omega)
  have hf0 := hk2.frozen (b := w.heap.size) 0 (by simp) (by omega)
  have hf1 := hk2.frozen (b := w.heap.size) 1 (by simp) (by omega)
  have hf2 := hk2.frozen (b := w.heap.size) 2 (by simp) (by omega)
  simp [World.cell?_alloc_new] at hv0 hv1 hv2 hf0 hf1 hf2
  clear hr2 hk2
  generalize grpD l = q at *
  go_wp2_with fail
  exact bodyPost_ret (v := .tuple #[.agg #[.int .u64 q.1, .string ⟨#[]⟩, .slice none 0 0], .int .i64 q.2.2]) (by simp [results, Tryd.results47, go_sem, hv0, hv1, hv2]) rfl
    (rd_post HE.out (Own32.nil _ _) (fun _ => HR2.out.kept (put3 _ _ _ _ _) (by omega)) (kept_fin HAL.out HK2.out (put3 _ _ _ _ _)))

/-! ### strings -/
theorem BytesAt.conv {w : World} {v : Value} {l : List UInt8} (h : BytesAt w v l) : (convert 22 9 v).run Tryd.prog w = .ok (.string ⟨l.toArray⟩) w := by
  rcases h with ⟨a, c, rfl, rfl⟩ | ⟨b, o, c, rfl, hb, hc⟩
  · cases a with
    | none => exact Lib.run_convert_nil_bytes w _ _ _ _ Tryd.underlying22 Tryd.underlying5 Tryd.underlying9
    | some p => exact run_convert_bytes_back w _ _ _ p c [] Tryd.underlying22 Tryd.underlying5 Tryd.underlying9 (fun j hj => by simp at hj)
  · refine run_convert_bytes_back w _ _ _ ⟨b, o, none⟩ c l Tryd.underlying22 Tryd.underlying5 Tryd.underlying9 fun j hj => ?_
    rw [addr_add]; exact hc j hj
theorem oneD_115 (l : List UInt8) : (oneD 115 l).2.2 = cntE 400 1 l ∧ (cntE 400 1 l ≠ 0 → oneD 115 l = (Rv.zero, 0, cntE 400 1 l)) ∧
    (cntE 400 1 l = 0 → oneD 115 l = (⟨0, ⟨((l.drop (grpD l).2.1).take ((grpD l).1 * 1)).toArray⟩, []⟩, (grpD l).2.1 + (grpD l).1 * 1, 0)) := by
  unfold oneD cntE
  rw [if_neg (show ¬ 0 < widV 115 by decide)]
  by_cases h : (grpD l).2.2 ≠ 0
  · rw [if_pos h, if_pos h]; exact ⟨rfl, fun _ => rfl, fun e => absurd e h⟩
  · rw [if_neg h, if_neg h, if_neg (show ¬ (115 : Nat) = 118 by decide), if_pos rfl, Nat.mul_one]
    by_cases h1 : 400 < (grpD l).1
    · rw [if_pos h1, if_pos h1]; exact ⟨rfl, fun _ => rfl, fun e => by omega⟩
    · rw [if_neg h1, if_neg h1]
      by_cases h2 : l.length - (grpD l).2.1 < (grpD l).1
      · rw [if_pos h2, if_pos h2]; exact ⟨rfl, fun _ => rfl, fun e => by omega⟩
      · rw [if_neg h2, if_neg h2]; exact ⟨rfl, fun e => by omega, fun _ => rfl⟩

set_option maxHeartbeats 2000000 in
theorem rstr_any (W0 : World) (b : Nat) (l : List UInt8) (w : World) (hR : RdAt W0 w b l) (hB0 : Below W0.heap.size W0 w) (hl : l.length ≤ maxLen) (hW0 : W0.heap.size ≤ b) :
    Calls Tryd.prog 49 #[.pointer (some ⟨b, 0, none⟩), .int .i64 400] w (RdPost W0 w b 115 l) := by
  have hbb := hR.lt
  have HE := Lib.hid (oneD_115 l)
  have HAL := Lib.hid ((Below.refl w.heap.size w).alloc (Nat.le_refl _) (.cells #[.int .u64 0, .string ⟨#[]⟩, .slice none 0 0] 38 (0, 0)))
  have HB1 := Lib.hid (hB0.trans (HAL.out.mono hB0.size))
  have HG := Lib.hid (counted_400 W0 b l _ (hR.kept (Kept.of_below HAL.out (fun _ => False)) (fun h => h)) HB1.out hl hW0)
  clear hR hB0
  go_enter Tryd.func49, Tryd.ntmps49
  go_wp2_with fail
  refine HG.out.mono ?_
  rintro e w2 ⟨s, m, d, rfl, hC⟩
  have HC := Lib.hid hC
  have hk2 := hC.kept
  have HK2 := Lib.hid hk2
  have hv0 := hk2.cell (b := w.heap.size) 0 (by simp) (by omega)
  have hv1 := hk2.cell (b := w.heap.size) 1 (by simp) (by omega)
  have hv2 := hk2.cell (b := w.heap.size) 2 (by simp) (by omega)
  have hf0 := hk2.frozen (b := w.heap.size) 0 (by simp) (by omega)
  have hf1 := hk2.frozen (b := w.heap.size) 1 (by simp) (by omega)
  have hf2 := hk2.frozen (b := w.heap.size) 2 (by simp) (by omega)
  simp [World.cell?_alloc_new] at hv0 hv1 hv2 hf0 hf1 hf2
  have hBW : Below W0.heap.size W0 w2 := HB1.out.trans (hk2.toBelow (n := W0.heap.size) (by simp; omega) (fun j hj e => by omega))
  by_cases h0 : cntE 400 1 l = 0
  · obtain ⟨hm, hby, hr2⟩ := hC.good h0
    have hcv := (hby.below hBW (Nat.le_refl _)).conv
    have HV := Lib.hid (HE.out.2.2 h0)
    rw [← hm] at HV
    have HR2 := Lib.hid hr2
    rw [h0]
    clear hC hk2 hm hby hr2 hBW h0 HG
    generalize (List.take m (l.drop (grpD l).2.1)).toArray = sa at *
    go_wp2_with fail
    exact bodyPost_ret (v := .tuple #[.agg #[.int .u64 0, .string ⟨sa⟩, .slice none 0 0], .int .i64 0]) (by simp [results, Tryd.results49, go_sem, hv0, hv1, hv2]) rfl
      (rd_post HV.out (Own32.nil _ _) (fun _ => HR2.out.kept (put3 _ _ _ _ _) (by omega)) (kept_fin HAL.out HK2.out (put3 _ _ _ _ _)))
  · obtain rfl := hC.bad h0
    have hcv := (BytesAt.none_ (w := w2) s d).conv
    have HV := Lib.hid (HE.out.2.1 h0)
    have HN := Lib.hid h0
    generalize cntE 400 1 l = q at *
    clear hC hk2 hBW h0 HG
    go_wp2_with fail
    exact bodyPost_ret (v := .tuple #[.agg #[.int .u64 0, .string ⟨#[]⟩, .slice none 0 0], .int .i64 q]) (by simp [results, Tryd.results49, go_sem, hv0, hv1, hv2]) rfl
      (rd_post HV.out (Own32.nil _ _) (fun h => absurd h HN.out) (kept_fin HAL.out HK2.out (put3 _ _ _ _ _)))
end Go.Proofs.YtnocmkjaifjgfaaDoor.R
