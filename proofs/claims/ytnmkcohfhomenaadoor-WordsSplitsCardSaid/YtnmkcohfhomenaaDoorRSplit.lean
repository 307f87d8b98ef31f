/- The reference's Split: the walk. -/
import Derived.Test.YtnmkcohfhomenaaDoorRBare
import Derived.Test.YtnmkcohfhomenaaDoorSplit
namespace Go.Proofs.YtnmkcohfhomenaaDoor
open Go.RowKit

theorem splitN_bad {L : List UInt8} (hl : L.length ≤ 8192) (h : ∃ x ∈ seqOf L, x.ok = false) : splitN L = 6 := by
  unfold splitN
  rw [if_neg (by omega), if_pos]
  rw [List.all_eq_false]
  obtain ⟨x, hx, hb⟩ := h
  exact ⟨x, hx, by simp [hb]⟩
def longF (pre : List Fld) : Bool := pre.any fun x => decide (2000 < x.s.length)
theorem longF_snoc (pre : List Fld) (x : Fld) : longF (pre ++ [x]) = (longF pre || decide (2000 < x.s.length)) := by simp [longF, List.any_append]
theorem tooL_long (pre : List Fld) : tooL (pre.map fldP) = (longF pre || decide (64 < pre.length)) := by
  unfold tooL longF
  rw [List.length_map, List.any_map, Bool.or_comm]
  congr 2
theorem splitN_end {L : List UInt8} (hl : L.length ≤ 8192) (hok : ∀ x ∈ seqOf L, x.ok = true) : splitN L = if (longF (seqOf L) || decide (64 < (seqOf L).length)) then 3 else 0 := by
  unfold splitN
  rw [if_neg (by omega), if_neg (by rw [List.all_eq_true.2 hok]; decide), tooL_long]

/-- Between two rounds. -/
def SpRel (L : List UInt8) (w : World) (v : Value) (lg : Bool) (k : Nat) (wr : World) : Prop :=
  ∃ pre : List Fld, wr.ownsRow w.heap.size 50 2 v pre.length (fldCells pre) ∧ Below w.heap.size w wr ∧ seqOf L = pre ++ goL (L.drop k) ∧ (∀ x ∈ pre, x.ok = true) ∧ lg = longF pre ∧ pre.length ≤ k
/-- What the reference's Split leaves. -/
def SpTo (L : List UInt8) (w : World) (e : Ending) (w' : World) : Prop :=
  ∃ v, e = .returned (.tuple #[v, .int .i64 (splitN L)]) ∧ w'.ownsRow w.heap.size 50 2 v (splitF L).length (fldCells (splitF L)) ∧ Below w.heap.size w w'
theorem spTo_err {L : List UInt8} {w w' : World} {n : Int} (hn : splitN L = n) (h0 : n ≠ 0) (hb : Below w.heap.size w w') : SpTo L w (.returned (.tuple #[.slice none 0 0, .int .i64 n])) w' := by
  have hF : splitF L = [] := by unfold splitF; rw [hn, if_neg h0]
  exact ⟨_, by rw [hn], by rw [hF]; exact World.ownsRow_nil _ _ _ _, hb⟩
theorem spTo_bad {L : List UInt8} {w w' : World} (hl : L.length ≤ 8192) (h : ∃ x ∈ seqOf L, x.ok = false) (hb : Below w.heap.size w w') : SpTo L w (.returned (.tuple #[.slice none 0 0, .int .i64 6])) w' := spTo_err (splitN_bad hl h) (by decide) hb
theorem spTo_long {L : List UInt8} {w w' : World} (hl : L.length ≤ 8192) (hok : ∀ x ∈ seqOf L, x.ok = true) (h : (longF (seqOf L) || decide (64 < (seqOf L).length)) = true) (hb : Below w.heap.size w w') :
    SpTo L w (.returned (.tuple #[.slice none 0 0, .int .i64 3])) w' := spTo_err (by rw [splitN_end hl hok, if_pos h]) (by decide) hb
theorem spTo_ok {L : List UInt8} {w w' : World} {v : Value} (hl : L.length ≤ 8192) (hok : ∀ x ∈ seqOf L, x.ok = true) (h : (longF (seqOf L) || decide (64 < (seqOf L).length)) = false)
    (hrow : w'.ownsRow w.heap.size 50 2 v (seqOf L).length (fldCells (seqOf L))) (hb : Below w.heap.size w w') : SpTo L w (.returned (.tuple #[v, .int .i64 0])) w' := by
  have hn : splitN L = 0 := by rw [splitN_end hl hok, h]; rfl
  have hF : splitF L = seqOf L := by unfold splitF; rw [if_pos hn]
  exact ⟨v, by rw [hn], by rw [hF]; exact hrow, hb⟩

theorem drop_split {L : List UInt8} {k N : Nat} (h : k + N < L.length) : L.drop (k + N) = L[k + N] :: L.drop (k + N + 1) := List.drop_eq_getElem_cons h
/-- One field on. -/
theorem step_end {L : List UInt8} {k N : Nat} {pre : List Fld} {x : Fld} (h : seqOf L = pre ++ goL (L.drop k)) (hg : goL (L.drop k) = x :: goR (L.drop (k + N))) (he : k + N = L.length) : seqOf L = pre ++ [x] := by
  rw [h, hg, he, List.drop_length, goR_nil]
theorem step_bad {L : List UInt8} {k N : Nat} {pre : List Fld} {x : Fld} (h : seqOf L = pre ++ goL (L.drop k)) (hg : goL (L.drop k) = x :: goR (L.drop (k + N))) (he : k + N < L.length) (hs : (L[k + N]).toNat ≠ 32) : ∃ y ∈ seqOf L, y.ok = false := by
  rw [h, hg, drop_split he, goR_bad _ _ hs]
  exact ⟨Fld.bad, by simp, rfl⟩
theorem step_on {L : List UInt8} {k N : Nat} {pre : List Fld} {x : Fld} (h : seqOf L = pre ++ goL (L.drop k)) (hg : goL (L.drop k) = x :: goR (L.drop (k + N))) (he : k + N < L.length) (hs : (L[k + N]).toNat = 32) : seqOf L = (pre ++ [x]) ++ goL (L.drop (k + N + 1)) := by
  rw [h, hg, drop_split he, goR_space _ _ hs]; simp
theorem row_succ {w : World} {base : Nat} {v : Value} {pre : List Fld} {x : Fld} (h : w.ownsRow base 50 2 v (pre ++ [x]).length (fldCells (pre ++ [x]))) : ∃ g c, v = .slice (some ⟨g, 0, none⟩) (pre.length + 1) c := by
  rw [List.length_append, List.length_singleton] at h
  exact ownsRow_succ h
theorem ok_snoc {pre : List Fld} {x : Fld} (h : ∀ y ∈ pre, y.ok = true) (hx : x.ok = true) : ∀ y ∈ pre ++ [x], y.ok = true := by
  intro y hy
  rcases List.mem_append.1 hy with hy | hy
  · exact h y hy
  · rw [List.mem_singleton.1 hy]; exact hx
theorem ext_eq (s : ByteArray) (k m : Nat) : s.extract k (k + m) = ⟨((s.data.toList.drop k).take m).toArray⟩ := by
  apply eq_of_data
  rw [ByteArray.data_extract, Array.toList_extract]
  show (s.data.toList.drop k).take (k + m - k) = _
  rw [Nat.add_sub_cancel_left]

set_option maxHeartbeats 8000000 in
set_option maxRecDepth 100000 in
theorem splitR_some (s : ByteArray) (w : World) (h0 : 0 < s.size) (hs : s.size ≤ 8192) :
    Calls Tryd.prog 24 #[.string s] w (SpTo s.data.toList w) := by
  obtain ⟨i0, hi, hz0, hz1, hz2⟩ := info_parts Tryd.infoField
  have hsl := size_len s
  obtain ⟨L, hL⟩ : ∃ L, s.data.toList = L := ⟨_, rfl⟩
  have hLl : L.length = s.size := by rw [← hL]; exact hsl
  have HLl := Lib.hid hLl
  have HL := Lib.hid hL
  have hne := isEmpty_false s h0
  have hstart : Hid (SpRel L w (.slice none 0 0) false 0 w) := Lib.hid ⟨[], World.ownsRow_nil _ _ _ _, Below.refl _ _, by
    have : L ≠ [] := by intro e; rw [e] at hLl; simp at hLl; omega
    unfold seqOf; rw [if_neg this]; rfl, (fun x hx => by cases hx), rfl, Nat.le_refl _⟩
  have hgL : ∀ j (hj : j < s.size) (hj' : j < L.length), s[j] = L[j] := fun j hj hj' => by
    subst hL; rfl
  have HG := Lib.hid hgL
  rw [hL]
  clear hL hsl hgL hLl
  go_enter Tryd.func24, Tryd.ntmps24
  go_wp2_with fail
  go_loopw [4, 5, 6] (fun v lg at_ wr => ∃ (k : Nat) (b : Bool), k ≤ s.size ∧ at_ = .int .i64 k ∧ lg = .bool b ∧ Hid (SpRel L w v b k wr)) (fun _ _ at_ _ => s.size + 1 - (intOf at_).toNat)
  case atStart => exact ⟨0, false, Nat.zero_le _, rfl, rfl, hstart⟩
  case round =>
    obtain ⟨k, lg, hk, rfl, rfl, hrel⟩ := hrel
    have hexl : (s.extract k s.size).data.toList = L.drop k := by rw [ext_drop, HL.out]
    have hexs : (s.extract k s.size).size = s.size - k := by rw [← size_len, hexl, List.length_drop, HLl.out]
    have HQ := Lib.hid (quotedR_any (s.extract k s.size) wr (by omega))
    obtain ⟨pre, hrow, hbel, hseq, hok, hlong, hpl⟩ := hrel.out
    have HSEQ := Lib.hid hseq
    have HOK := Lib.hid hok
    have HLONG := Lib.hid hlong
    have hlb := hbel.size
    clear hseq hok hlong hrel
    cases hq : cutQ (L.drop k) with
    | some x =>
      obtain ⟨t, r⟩ := x
      have hqv : quotedV (s.extract k s.size) = .tuple #[.string ⟨t.toArray⟩, .int .i64 ((s.size - k - r.length : Nat) : Int)] := by unfold quotedV; rw [hexl, hq, hexs]
      have hrl := cutQ_less hq
      have hts := cutQ_size hq
      rw [List.length_drop, HLl.out] at hrl hts
      obtain ⟨N, hN⟩ : ∃ N, s.size - k - r.length = N := ⟨_, rfl⟩
      have hN1 : 1 ≤ N := by omega
      have hN2 : k + N ≤ s.size := by omega
      have hr : r = L.drop (k + N) := by
        have := cutQ_drop hq
        rw [List.length_drop, HLl.out, List.drop_drop] at this
        rw [this, hN]
      have HGO : Hid (goL (L.drop k) = ⟨t, true, true⟩ :: goR (L.drop (k + N))) := Lib.hid (by rw [goL_some _ _ _ _ (cutF_quoted hq), hr])
      rw [hqv, hN] at HQ
      have hn0 : ((N : Int) == 0) = false := by rw [beq_eq_false_iff_ne]; omega
      have hts2 : (⟨t.toArray⟩ : ByteArray).size = t.length := (size_len ⟨t.toArray⟩).symm
      have HTS := Lib.hid hts2
      clear hqv hexl hexs hq hr hN hrl hts2
      have hw3 : k + N = s.size ∨ (k + N < s.size ∧ ∃ h : k + N < s.size, s[k + N].toNat ≠ 32) ∨ (k + N < s.size ∧ ∃ h : k + N < s.size, s[k + N].toNat = 32) := by
        by_cases e : k + N = s.size
        · exact .inl e
        · have hlt : k + N < s.size := by omega
          by_cases e2 : s[k + N].toNat = 32
          · exact .inr (.inr ⟨hlt, hlt, e2⟩)
          · exact .inr (.inl ⟨hlt, hlt, e2⟩)
      rcases hw3 with he | ⟨hlt, _, he⟩ | ⟨hlt, _, he⟩
      · have HEND := Lib.hid (step_end HSEQ.out HGO.out (by rw [HLl.out]; exact he))
        have e1 : ((k : Int) + N == s.size) = true := beq_iff_eq.2 (by omega)
        have e2 : ((k + N : Nat) : Int) = s.size := by omega
        clear e2 he
        have hlgc : (lg = true) ∨ (lg = false ∧ 2000 < t.length) ∨ (lg = false ∧ ¬ 2000 < t.length) := by
          cases lg
          · by_cases h : 2000 < t.length
            · exact .inr (.inl ⟨rfl, h⟩)
            · exact .inr (.inr ⟨rfl, h⟩)
          · exact .inl rfl
        rcases hlgc with rfl | ⟨rfl, h2⟩ | ⟨rfl, h2⟩
        · go_wp2_with fail
          refine HQ.out.mono ?_
          rintro e w2 ⟨rfl, hB2⟩
          have hrow2 := ownsRow_below hrow hB2
          have hs2 := hB2.size
          go_wp2_with (at_builtin; refine wpList_append_own _ rfl _ _ 32 rfl w.heap.size 50 i0 (.agg #[.string ⟨#[]⟩, .bool false]) 2 24 Tryd.underlying32 hi hz0 hz1 hz2 rfl (by decide) _ _ _ rfl ((hrow2.alloc _).alloc _) ⟨w2.heap.size + 1, 0, none⟩ 1 1 [.string ⟨t.toArray⟩, .bool true] rfl rfl (by have := cell_two_new (w2.alloc (.cells #[.string ⟨t.toArray⟩, .bool true] 50)) (.string ⟨t.toArray⟩) (.bool true) 50; rw [World.size_alloc] at this; exact this) (by simp [Value.oneCell']) (by unfold maxLen; omega) (by omega) (by simp; omega) ?_; intro v3 w3 hown3 hgrow3 _; have hc3 : w3.cell? ⟨w2.heap.size, 0, none⟩ = some (.string ⟨t.toArray⟩) := (World.cell?_of_block (hgrow3.block w2.heap.size (by simp; omega) (fun e => by have := (hrow2.lt _ e.symm).2; omega))).trans (by simp); have hB3 : Below w.heap.size w w3 := (((hbel.trans (hB2.mono hlb)).alloc (by omega) _).alloc (by simp; omega) _).grown hgrow3 (by simp; omega) (fun q e => (hrow2.lt q e).1))
          go_ret2
          exact spTo_long (by rw [HLl.out]; omega) (by rw [HEND.out]; exact ok_snoc HOK.out rfl) (by rw [HEND.out, longF_snoc, ← HLONG.out]; rfl) hB3
        · have d2 : decide (2000 < (t.length : Int)) = true := decide_eq_true (by omega)
          go_wp2_with fail
          refine HQ.out.mono ?_
          rintro e w2 ⟨rfl, hB2⟩
          have hrow2 := ownsRow_below hrow hB2
          have hs2 := hB2.size
          go_wp2_with (at_builtin; refine wpList_append_own _ rfl _ _ 32 rfl w.heap.size 50 i0 (.agg #[.string ⟨#[]⟩, .bool false]) 2 24 Tryd.underlying32 hi hz0 hz1 hz2 rfl (by decide) _ _ _ rfl ((hrow2.alloc _).alloc _) ⟨w2.heap.size + 1, 0, none⟩ 1 1 [.string ⟨t.toArray⟩, .bool true] rfl rfl (by have := cell_two_new (w2.alloc (.cells #[.string ⟨t.toArray⟩, .bool true] 50)) (.string ⟨t.toArray⟩) (.bool true) 50; rw [World.size_alloc] at this; exact this) (by simp [Value.oneCell']) (by unfold maxLen; omega) (by omega) (by simp; omega) ?_; intro v3 w3 hown3 hgrow3 _; have hc3 : w3.cell? ⟨w2.heap.size, 0, none⟩ = some (.string ⟨t.toArray⟩) := (World.cell?_of_block (hgrow3.block w2.heap.size (by simp; omega) (fun e => by have := (hrow2.lt _ e.symm).2; omega))).trans (by simp); have hB3 : Below w.heap.size w w3 := (((hbel.trans (hB2.mono hlb)).alloc (by omega) _).alloc (by simp; omega) _).grown hgrow3 (by simp; omega) (fun q e => (hrow2.lt q e).1))
          go_ret2
          exact spTo_long (by rw [HLl.out]; omega) (by rw [HEND.out]; exact ok_snoc HOK.out rfl) (by rw [HEND.out, longF_snoc, ← HLONG.out, decide_eq_true h2]; rfl) hB3
        · have d2 : decide (2000 < (t.length : Int)) = false := decide_eq_false (by omega)
          by_cases h64 : 64 < pre.length + 1
          · have d64 : decide ((64 : Int) < (pre.length : Int) + 1) = true := decide_eq_true (by omega)
            go_wp2_with fail
            refine HQ.out.mono ?_
            rintro e w2 ⟨rfl, hB2⟩
            have hrow2 := ownsRow_below hrow hB2
            have hs2 := hB2.size
            go_wp2_with (at_builtin; refine wpList_append_own _ rfl _ _ 32 rfl w.heap.size 50 i0 (.agg #[.string ⟨#[]⟩, .bool false]) 2 24 Tryd.underlying32 hi hz0 hz1 hz2 rfl (by decide) _ _ _ rfl ((hrow2.alloc _).alloc _) ⟨w2.heap.size + 1, 0, none⟩ 1 1 [.string ⟨t.toArray⟩, .bool true] rfl rfl (by have := cell_two_new (w2.alloc (.cells #[.string ⟨t.toArray⟩, .bool true] 50)) (.string ⟨t.toArray⟩) (.bool true) 50; rw [World.size_alloc] at this; exact this) (by simp [Value.oneCell']) (by unfold maxLen; omega) (by omega) (by simp; omega) ?_; intro v3 w3 hown3 hgrow3 _; have hc3 : w3.cell? ⟨w2.heap.size, 0, none⟩ = some (.string ⟨t.toArray⟩) := (World.cell?_of_block (hgrow3.block w2.heap.size (by simp; omega) (fun e => by have := (hrow2.lt _ e.symm).2; omega))).trans (by simp); have hB3 : Below w.heap.size w w3 := (((hbel.trans (hB2.mono hlb)).alloc (by omega) _).alloc (by simp; omega) _).grown hgrow3 (by simp; omega) (fun q e => (hrow2.lt q e).1); obtain ⟨g3, c3, rfl⟩ := ownsRow_succ hown3)
            go_ret2
            exact spTo_long (by rw [HLl.out]; omega) (by rw [HEND.out]; exact ok_snoc HOK.out rfl) (by rw [HEND.out, longF_snoc, ← HLONG.out, decide_eq_false h2, List.length_append, List.length_singleton, decide_eq_true h64]; rfl) hB3
          · have d64 : decide ((64 : Int) < (pre.length : Int) + 1) = false := decide_eq_false (by omega)
            go_wp2_with fail
            refine HQ.out.mono ?_
            rintro e w2 ⟨rfl, hB2⟩
            have hrow2 := ownsRow_below hrow hB2
            have hs2 := hB2.size
            go_wp2_with (at_builtin; refine wpList_append_own _ rfl _ _ 32 rfl w.heap.size 50 i0 (.agg #[.string ⟨#[]⟩, .bool false]) 2 24 Tryd.underlying32 hi hz0 hz1 hz2 rfl (by decide) _ _ _ rfl ((hrow2.alloc _).alloc _) ⟨w2.heap.size + 1, 0, none⟩ 1 1 [.string ⟨t.toArray⟩, .bool true] rfl rfl (by have := cell_two_new (w2.alloc (.cells #[.string ⟨t.toArray⟩, .bool true] 50)) (.string ⟨t.toArray⟩) (.bool true) 50; rw [World.size_alloc] at this; exact this) (by simp [Value.oneCell']) (by unfold maxLen; omega) (by omega) (by simp; omega) ?_; intro v3 w3 hown3 hgrow3 _; have hc3 : w3.cell? ⟨w2.heap.size, 0, none⟩ = some (.string ⟨t.toArray⟩) := (World.cell?_of_block (hgrow3.block w2.heap.size (by simp; omega) (fun e => by have := (hrow2.lt _ e.symm).2; omega))).trans (by simp); have hB3 : Below w.heap.size w w3 := (((hbel.trans (hB2.mono hlb)).alloc (by omega) _).alloc (by simp; omega) _).grown hgrow3 (by simp; omega) (fun q e => (hrow2.lt q e).1); obtain ⟨g3, c3, rfl⟩ := ownsRow_succ hown3)
            go_ret2
            exact spTo_ok (by rw [HLl.out]; omega) (by rw [HEND.out]; exact ok_snoc HOK.out rfl) (by rw [HEND.out, longF_snoc, ← HLONG.out, decide_eq_false h2, List.length_append, List.length_singleton, decide_eq_false h64]; rfl) (by rw [HEND.out]; exact (by rw [fldCells_snoc, List.length_append, List.length_singleton]; exact hown3)) hB3
      · have HBD := Lib.hid (step_bad HSEQ.out HGO.out (by rw [HLl.out]; exact hlt) (by rw [← HG.out (k + N) hlt (by rw [HLl.out]; exact hlt)]; exact he))
        have e1 : ((k : Int) + N == s.size) = false := beq_eq_false_iff_ne.2 (by omega)
        have e2 : ((s[k + N].toNat : Int) != 32) = true := by simp; omega
        clear he
        have hlgc : (lg = true) ∨ (lg = false ∧ 2000 < t.length) ∨ (lg = false ∧ ¬ 2000 < t.length) := by
          cases lg
          · by_cases h : 2000 < t.length
            · exact .inr (.inl ⟨rfl, h⟩)
            · exact .inr (.inr ⟨rfl, h⟩)
          · exact .inl rfl
        rcases hlgc with rfl | ⟨rfl, h2⟩ | ⟨rfl, h2⟩
        · go_wp2_with fail
          refine HQ.out.mono ?_
          rintro e w2 ⟨rfl, hB2⟩
          have hrow2 := ownsRow_below hrow hB2
          have hs2 := hB2.size
          go_wp2_with (at_builtin; refine wpList_append_own _ rfl _ _ 32 rfl w.heap.size 50 i0 (.agg #[.string ⟨#[]⟩, .bool false]) 2 24 Tryd.underlying32 hi hz0 hz1 hz2 rfl (by decide) _ _ _ rfl ((hrow2.alloc _).alloc _) ⟨w2.heap.size + 1, 0, none⟩ 1 1 [.string ⟨t.toArray⟩, .bool true] rfl rfl (by have := cell_two_new (w2.alloc (.cells #[.string ⟨t.toArray⟩, .bool true] 50)) (.string ⟨t.toArray⟩) (.bool true) 50; rw [World.size_alloc] at this; exact this) (by simp [Value.oneCell']) (by unfold maxLen; omega) (by omega) (by simp; omega) ?_; intro v3 w3 hown3 hgrow3 _; have hc3 : w3.cell? ⟨w2.heap.size, 0, none⟩ = some (.string ⟨t.toArray⟩) := (World.cell?_of_block (hgrow3.block w2.heap.size (by simp; omega) (fun e => by have := (hrow2.lt _ e.symm).2; omega))).trans (by simp); have hB3 : Below w.heap.size w w3 := (((hbel.trans (hB2.mono hlb)).alloc (by omega) _).alloc (by simp; omega) _).grown hgrow3 (by simp; omega) (fun q e => (hrow2.lt q e).1))
          go_ret2
          exact spTo_bad (by rw [HLl.out]; omega) HBD.out hB3
        · have d2 : decide (2000 < (t.length : Int)) = true := decide_eq_true (by omega)
          go_wp2_with fail
          refine HQ.out.mono ?_
          rintro e w2 ⟨rfl, hB2⟩
          have hrow2 := ownsRow_below hrow hB2
          have hs2 := hB2.size
          go_wp2_with (at_builtin; refine wpList_append_own _ rfl _ _ 32 rfl w.heap.size 50 i0 (.agg #[.string ⟨#[]⟩, .bool false]) 2 24 Tryd.underlying32 hi hz0 hz1 hz2 rfl (by decide) _ _ _ rfl ((hrow2.alloc _).alloc _) ⟨w2.heap.size + 1, 0, none⟩ 1 1 [.string ⟨t.toArray⟩, .bool true] rfl rfl (by have := cell_two_new (w2.alloc (.cells #[.string ⟨t.toArray⟩, .bool true] 50)) (.string ⟨t.toArray⟩) (.bool true) 50; rw [World.size_alloc] at this; exact this) (by simp [Value.oneCell']) (by unfold maxLen; omega) (by omega) (by simp; omega) ?_; intro v3 w3 hown3 hgrow3 _; have hc3 : w3.cell? ⟨w2.heap.size, 0, none⟩ = some (.string ⟨t.toArray⟩) := (World.cell?_of_block (hgrow3.block w2.heap.size (by simp; omega) (fun e => by have := (hrow2.lt _ e.symm).2; omega))).trans (by simp); have hB3 : Below w.heap.size w w3 := (((hbel.trans (hB2.mono hlb)).alloc (by omega) _).alloc (by simp; omega) _).grown hgrow3 (by simp; omega) (fun q e => (hrow2.lt q e).1))
          go_ret2
          exact spTo_bad (by rw [HLl.out]; omega) HBD.out hB3
        · have d2 : decide (2000 < (t.length : Int)) = false := decide_eq_false (by omega)
          go_wp2_with fail
          refine HQ.out.mono ?_
          rintro e w2 ⟨rfl, hB2⟩
          have hrow2 := ownsRow_below hrow hB2
          have hs2 := hB2.size
          go_wp2_with (at_builtin; refine wpList_append_own _ rfl _ _ 32 rfl w.heap.size 50 i0 (.agg #[.string ⟨#[]⟩, .bool false]) 2 24 Tryd.underlying32 hi hz0 hz1 hz2 rfl (by decide) _ _ _ rfl ((hrow2.alloc _).alloc _) ⟨w2.heap.size + 1, 0, none⟩ 1 1 [.string ⟨t.toArray⟩, .bool true] rfl rfl (by have := cell_two_new (w2.alloc (.cells #[.string ⟨t.toArray⟩, .bool true] 50)) (.string ⟨t.toArray⟩) (.bool true) 50; rw [World.size_alloc] at this; exact this) (by simp [Value.oneCell']) (by unfold maxLen; omega) (by omega) (by simp; omega) ?_; intro v3 w3 hown3 hgrow3 _; have hc3 : w3.cell? ⟨w2.heap.size, 0, none⟩ = some (.string ⟨t.toArray⟩) := (World.cell?_of_block (hgrow3.block w2.heap.size (by simp; omega) (fun e => by have := (hrow2.lt _ e.symm).2; omega))).trans (by simp); have hB3 : Below w.heap.size w w3 := (((hbel.trans (hB2.mono hlb)).alloc (by omega) _).alloc (by simp; omega) _).grown hgrow3 (by simp; omega) (fun q e => (hrow2.lt q e).1))
          go_ret2
          exact spTo_bad (by rw [HLl.out]; omega) HBD.out hB3
      · have HON := Lib.hid (step_on HSEQ.out HGO.out (by rw [HLl.out]; exact hlt) (by rw [← HG.out (k + N) hlt (by rw [HLl.out]; exact hlt)]; exact he))
        have e1 : ((k : Int) + N == s.size) = false := beq_eq_false_iff_ne.2 (by omega)
        have e2 : ((s[k + N].toNat : Int) != 32) = false := by simp; omega
        clear he
        have hlgc : (lg = true) ∨ (lg = false ∧ 2000 < t.length) ∨ (lg = false ∧ ¬ 2000 < t.length) := by
          cases lg
          · by_cases h : 2000 < t.length
            · exact .inr (.inl ⟨rfl, h⟩)
            · exact .inr (.inr ⟨rfl, h⟩)
          · exact .inl rfl
        rcases hlgc with rfl | ⟨rfl, h2⟩ | ⟨rfl, h2⟩
        · go_wp2_with fail
          refine HQ.out.mono ?_
          rintro e w2 ⟨rfl, hB2⟩
          have hrow2 := ownsRow_below hrow hB2
          have hs2 := hB2.size
          go_wp2_with (at_builtin; refine wpList_append_own _ rfl _ _ 32 rfl w.heap.size 50 i0 (.agg #[.string ⟨#[]⟩, .bool false]) 2 24 Tryd.underlying32 hi hz0 hz1 hz2 rfl (by decide) _ _ _ rfl ((hrow2.alloc _).alloc _) ⟨w2.heap.size + 1, 0, none⟩ 1 1 [.string ⟨t.toArray⟩, .bool true] rfl rfl (by have := cell_two_new (w2.alloc (.cells #[.string ⟨t.toArray⟩, .bool true] 50)) (.string ⟨t.toArray⟩) (.bool true) 50; rw [World.size_alloc] at this; exact this) (by simp [Value.oneCell']) (by unfold maxLen; omega) (by omega) (by simp; omega) ?_; intro v3 w3 hown3 hgrow3 _; have hc3 : w3.cell? ⟨w2.heap.size, 0, none⟩ = some (.string ⟨t.toArray⟩) := (World.cell?_of_block (hgrow3.block w2.heap.size (by simp; omega) (fun e => by have := (hrow2.lt _ e.symm).2; omega))).trans (by simp); have hB3 : Below w.heap.size w w3 := (((hbel.trans (hB2.mono hlb)).alloc (by omega) _).alloc (by simp; omega) _).grown hgrow3 (by simp; omega) (fun q e => (hrow2.lt q e).1))
          go_roundw
          case rel => exact ⟨k + N + 1, true, by omega, by go_num, rfl, Lib.hid ⟨pre ++ [⟨t, true, true⟩], by rw [fldCells_snoc, List.length_append, List.length_singleton]; exact hown3, hB3, HON.out, ok_snoc HOK.out rfl, (by rw [longF_snoc, ← HLONG.out]; rfl), by simp; omega⟩⟩
          case measure => simp [intOf]; omega
        · have d2 : decide (2000 < (t.length : Int)) = true := decide_eq_true (by omega)
          go_wp2_with fail
          refine HQ.out.mono ?_
          rintro e w2 ⟨rfl, hB2⟩
          have hrow2 := ownsRow_below hrow hB2
          have hs2 := hB2.size
          go_wp2_with (at_builtin; refine wpList_append_own _ rfl _ _ 32 rfl w.heap.size 50 i0 (.agg #[.string ⟨#[]⟩, .bool false]) 2 24 Tryd.underlying32 hi hz0 hz1 hz2 rfl (by decide) _ _ _ rfl ((hrow2.alloc _).alloc _) ⟨w2.heap.size + 1, 0, none⟩ 1 1 [.string ⟨t.toArray⟩, .bool true] rfl rfl (by have := cell_two_new (w2.alloc (.cells #[.string ⟨t.toArray⟩, .bool true] 50)) (.string ⟨t.toArray⟩) (.bool true) 50; rw [World.size_alloc] at this; exact this) (by simp [Value.oneCell']) (by unfold maxLen; omega) (by omega) (by simp; omega) ?_; intro v3 w3 hown3 hgrow3 _; have hc3 : w3.cell? ⟨w2.heap.size, 0, none⟩ = some (.string ⟨t.toArray⟩) := (World.cell?_of_block (hgrow3.block w2.heap.size (by simp; omega) (fun e => by have := (hrow2.lt _ e.symm).2; omega))).trans (by simp); have hB3 : Below w.heap.size w w3 := (((hbel.trans (hB2.mono hlb)).alloc (by omega) _).alloc (by simp; omega) _).grown hgrow3 (by simp; omega) (fun q e => (hrow2.lt q e).1))
          go_roundw
          case rel => exact ⟨k + N + 1, true, by omega, by go_num, rfl, Lib.hid ⟨pre ++ [⟨t, true, true⟩], by rw [fldCells_snoc, List.length_append, List.length_singleton]; exact hown3, hB3, HON.out, ok_snoc HOK.out rfl, (by rw [longF_snoc, ← HLONG.out, decide_eq_true h2]; rfl), by simp; omega⟩⟩
          case measure => simp [intOf]; omega
        · have d2 : decide (2000 < (t.length : Int)) = false := decide_eq_false (by omega)
          go_wp2_with fail
          refine HQ.out.mono ?_
          rintro e w2 ⟨rfl, hB2⟩
          have hrow2 := ownsRow_below hrow hB2
          have hs2 := hB2.size
          go_wp2_with (at_builtin; refine wpList_append_own _ rfl _ _ 32 rfl w.heap.size 50 i0 (.agg #[.string ⟨#[]⟩, .bool false]) 2 24 Tryd.underlying32 hi hz0 hz1 hz2 rfl (by decide) _ _ _ rfl ((hrow2.alloc _).alloc _) ⟨w2.heap.size + 1, 0, none⟩ 1 1 [.string ⟨t.toArray⟩, .bool true] rfl rfl (by have := cell_two_new (w2.alloc (.cells #[.string ⟨t.toArray⟩, .bool true] 50)) (.string ⟨t.toArray⟩) (.bool true) 50; rw [World.size_alloc] at this; exact this) (by simp [Value.oneCell']) (by unfold maxLen; omega) (by omega) (by simp; omega) ?_; intro v3 w3 hown3 hgrow3 _; have hc3 : w3.cell? ⟨w2.heap.size, 0, none⟩ = some (.string ⟨t.toArray⟩) := (World.cell?_of_block (hgrow3.block w2.heap.size (by simp; omega) (fun e => by have := (hrow2.lt _ e.symm).2; omega))).trans (by simp); have hB3 : Below w.heap.size w w3 := (((hbel.trans (hB2.mono hlb)).alloc (by omega) _).alloc (by simp; omega) _).grown hgrow3 (by simp; omega) (fun q e => (hrow2.lt q e).1))
          go_roundw
          case rel => exact ⟨k + N + 1, false, by omega, by go_num, rfl, Lib.hid ⟨pre ++ [⟨t, true, true⟩], by rw [fldCells_snoc, List.length_append, List.length_singleton]; exact hown3, hB3, HON.out, ok_snoc HOK.out rfl, (by rw [longF_snoc, ← HLONG.out, decide_eq_false h2]; rfl), by simp; omega⟩⟩
          case measure => simp [intOf]; omega
    | none =>
      have hqv : quotedV (s.extract k s.size) = .tuple #[.string ⟨#[]⟩, .int .i64 0] := by unfold quotedV; rw [hexl, hq]
      rw [hqv] at HQ
      obtain ⟨m, hm⟩ : ∃ m, toSp (L.drop k) = m := ⟨_, rfl⟩
      have hml := toSp_le (L.drop k)
      rw [hm, List.length_drop, HLl.out] at hml
      have HBEF : Hid (∀ j (hj : j < m) (h : k + j < s.size), s[k + j].toNat ≠ 32) := Lib.hid (fun j hj h => by
        have := toSp_before (L.drop k) j (by rw [hm]; exact hj)
        rw [HG.out (k + j) h (by rw [HLl.out]; exact h)]
        rwa [List.getElem_drop] at this)
      have HSTOP : Hid (∀ h : k + m < s.size, s[k + m].toNat = 32) := Lib.hid (fun h => by
        have := toSp_stop (L.drop k) (by rw [hm, List.length_drop, HLl.out]; omega)
        rw [HG.out (k + m) h (by rw [HLl.out]; exact h)]
        simp only [hm, List.getElem_drop] at this
        exact this)
      have hext := ext_eq s k m
      rw [HL.out] at hext
      obtain ⟨t, ht⟩ : ∃ t, (L.drop k).take m = t := ⟨_, rfl⟩
      rw [ht] at hext
      have hts : t.length = m := by rw [← ht, List.length_take, List.length_drop, HLl.out]; omega
      have hts2 : (⟨t.toArray⟩ : ByteArray).size = t.length := (size_len ⟨t.toArray⟩).symm
      have HTS := Lib.hid hts2
      have HB := Lib.hid (fun w => bareR_any ⟨t.toArray⟩ w (by rw [hts2]; unfold maxLen; omega))
      rw [show (⟨t.toArray⟩ : ByteArray).data.toList = t from by simp] at HB
      have hkm : k + m ≤ s.size := by omega
      have htm : t.length ≤ s.size := by omega
      have hwx : k + m = s.size ∨ (k + m < s.size) := by omega
      cases hbr : bareR t with
      | true =>
        have HGO : Hid (goL (L.drop k) = ⟨t, false, true⟩ :: goR (L.drop (k + m))) := Lib.hid (by
          have := cutF_bare (l := L.drop k) (by rw [hm, ht]; exact hbr)
          rw [hm, ht, List.drop_drop] at this
          rw [goL_some _ _ _ _ this])
        rw [hbr] at HB
        clear hqv hexl hexs hq hm ht hts hts2 hbr
        rcases hwx with he | hlt
        · have HEND := Lib.hid (step_end HSEQ.out HGO.out (by rw [HLl.out]; exact he))
          have hge : ¬ k + m < s.size := by omega
          have e1 : ((k : Int) + m == s.size) = true := beq_iff_eq.2 (by omega)
          clear he
          have hlgc : (lg = true) ∨ (lg = false ∧ 2000 < t.length) ∨ (lg = false ∧ ¬ 2000 < t.length) := by
            cases lg
            · by_cases h : 2000 < t.length
              · exact .inr (.inl ⟨rfl, h⟩)
              · exact .inr (.inr ⟨rfl, h⟩)
            · exact .inl rfl
          rcases hlgc with rfl | ⟨rfl, h2⟩ | ⟨rfl, h2⟩
          · go_wp2_with fail
            refine HQ.out.mono ?_
            rintro e w2 ⟨rfl, hB2⟩
            go_wp2_with fail
            go_loop [8] (fun n8 => ∃ j : Nat, j ≤ m ∧ n8 = .int .i64 j) (fun n8 => m - (intOf n8).toNat)
            case atStart => exact ⟨0, Nat.zero_le _, rfl⟩
            case round =>
              obtain ⟨j, hj, rfl⟩ := hrel
              by_cases hjm : j < m
              · have hkj : k + j < s.size := by omega
                have d1 : ((s[k + j].toNat : Int) != 32) = true := by have := HBEF.out j hjm hkj; simp; omega
                go_wp2_with fail
                go_round
                case rel => exact ⟨j + 1, by omega, by go_num⟩
                case measure => simp [intOf]; omega
              · obtain rfl : j = m := by omega
                go_wp2_with fail
                refine (HB.out _).mono ?_
                rintro e w' ⟨rfl, rfl⟩
                have hrow2 := ownsRow_below hrow hB2
                have hs2 := hB2.size
                go_wp2_with (at_builtin; refine wpList_append_own _ rfl _ _ 32 rfl w.heap.size 50 i0 (.agg #[.string ⟨#[]⟩, .bool false]) 2 24 Tryd.underlying32 hi hz0 hz1 hz2 rfl (by decide) _ _ _ rfl ((hrow2.alloc _).alloc _) ⟨w2.heap.size + 1, 0, none⟩ 1 1 [.string ⟨t.toArray⟩, .bool false] rfl rfl (by have := cell_two_new (w2.alloc (.cells #[.string ⟨t.toArray⟩, .bool false] 50)) (.string ⟨t.toArray⟩) (.bool false) 50; rw [World.size_alloc] at this; exact this) (by simp [Value.oneCell']) (by unfold maxLen; omega) (by omega) (by simp; omega) ?_; intro v3 w3 hown3 hgrow3 _; have hc3 : w3.cell? ⟨w2.heap.size, 0, none⟩ = some (.string ⟨t.toArray⟩) := (World.cell?_of_block (hgrow3.block w2.heap.size (by simp; omega) (fun e => by have := (hrow2.lt _ e.symm).2; omega))).trans (by simp); have hB3 : Below w.heap.size w w3 := (((hbel.trans (hB2.mono hlb)).alloc (by omega) _).alloc (by simp; omega) _).grown hgrow3 (by simp; omega) (fun q e => (hrow2.lt q e).1))
                go_ret2
                exact spTo_long (by rw [HLl.out]; omega) (by rw [HEND.out]; exact ok_snoc HOK.out rfl) (by rw [HEND.out, longF_snoc, ← HLONG.out]; rfl) hB3
          · have d2 : decide (2000 < (t.length : Int)) = true := decide_eq_true (by omega)
            go_wp2_with fail
            refine HQ.out.mono ?_
            rintro e w2 ⟨rfl, hB2⟩
            go_wp2_with fail
            go_loop [8] (fun n8 => ∃ j : Nat, j ≤ m ∧ n8 = .int .i64 j) (fun n8 => m - (intOf n8).toNat)
            case atStart => exact ⟨0, Nat.zero_le _, rfl⟩
            case round =>
              obtain ⟨j, hj, rfl⟩ := hrel
              by_cases hjm : j < m
              · have hkj : k + j < s.size := by omega
                have d1 : ((s[k + j].toNat : Int) != 32) = true := by have := HBEF.out j hjm hkj; simp; omega
                go_wp2_with fail
                go_round
                case rel => exact ⟨j + 1, by omega, by go_num⟩
                case measure => simp [intOf]; omega
              · obtain rfl : j = m := by omega
                go_wp2_with fail
                refine (HB.out _).mono ?_
                rintro e w' ⟨rfl, rfl⟩
                have hrow2 := ownsRow_below hrow hB2
                have hs2 := hB2.size
                go_wp2_with (at_builtin; refine wpList_append_own _ rfl _ _ 32 rfl w.heap.size 50 i0 (.agg #[.string ⟨#[]⟩, .bool false]) 2 24 Tryd.underlying32 hi hz0 hz1 hz2 rfl (by decide) _ _ _ rfl ((hrow2.alloc _).alloc _) ⟨w2.heap.size + 1, 0, none⟩ 1 1 [.string ⟨t.toArray⟩, .bool false] rfl rfl (by have := cell_two_new (w2.alloc (.cells #[.string ⟨t.toArray⟩, .bool false] 50)) (.string ⟨t.toArray⟩) (.bool false) 50; rw [World.size_alloc] at this; exact this) (by simp [Value.oneCell']) (by unfold maxLen; omega) (by omega) (by simp; omega) ?_; intro v3 w3 hown3 hgrow3 _; have hc3 : w3.cell? ⟨w2.heap.size, 0, none⟩ = some (.string ⟨t.toArray⟩) := (World.cell?_of_block (hgrow3.block w2.heap.size (by simp; omega) (fun e => by have := (hrow2.lt _ e.symm).2; omega))).trans (by simp); have hB3 : Below w.heap.size w w3 := (((hbel.trans (hB2.mono hlb)).alloc (by omega) _).alloc (by simp; omega) _).grown hgrow3 (by simp; omega) (fun q e => (hrow2.lt q e).1))
                go_ret2
                exact spTo_long (by rw [HLl.out]; omega) (by rw [HEND.out]; exact ok_snoc HOK.out rfl) (by rw [HEND.out, longF_snoc, ← HLONG.out, decide_eq_true h2]; rfl) hB3
          · have d2 : decide (2000 < (t.length : Int)) = false := decide_eq_false (by omega)
            go_wp2_with fail
            refine HQ.out.mono ?_
            rintro e w2 ⟨rfl, hB2⟩
            go_wp2_with fail
            go_loop [8] (fun n8 => ∃ j : Nat, j ≤ m ∧ n8 = .int .i64 j) (fun n8 => m - (intOf n8).toNat)
            case atStart => exact ⟨0, Nat.zero_le _, rfl⟩
            case round =>
              obtain ⟨j, hj, rfl⟩ := hrel
              by_cases hjm : j < m
              · have hkj : k + j < s.size := by omega
                have d1 : ((s[k + j].toNat : Int) != 32) = true := by have := HBEF.out j hjm hkj; simp; omega
                go_wp2_with fail
                go_round
                case rel => exact ⟨j + 1, by omega, by go_num⟩
                case measure => simp [intOf]; omega
              · obtain rfl : j = m := by omega
                by_cases h64 : 64 < pre.length + 1
                · have d64 : decide ((64 : Int) < (pre.length : Int) + 1) = true := decide_eq_true (by omega)
                  go_wp2_with fail
                  refine (HB.out _).mono ?_
                  rintro e w' ⟨rfl, rfl⟩
                  have hrow2 := ownsRow_below hrow hB2
                  have hs2 := hB2.size
                  go_wp2_with (at_builtin; refine wpList_append_own _ rfl _ _ 32 rfl w.heap.size 50 i0 (.agg #[.string ⟨#[]⟩, .bool false]) 2 24 Tryd.underlying32 hi hz0 hz1 hz2 rfl (by decide) _ _ _ rfl ((hrow2.alloc _).alloc _) ⟨w2.heap.size + 1, 0, none⟩ 1 1 [.string ⟨t.toArray⟩, .bool false] rfl rfl (by have := cell_two_new (w2.alloc (.cells #[.string ⟨t.toArray⟩, .bool false] 50)) (.string ⟨t.toArray⟩) (.bool false) 50; rw [World.size_alloc] at this; exact this) (by simp [Value.oneCell']) (by unfold maxLen; omega) (by omega) (by simp; omega) ?_; intro v3 w3 hown3 hgrow3 _; have hc3 : w3.cell? ⟨w2.heap.size, 0, none⟩ = some (.string ⟨t.toArray⟩) := (World.cell?_of_block (hgrow3.block w2.heap.size (by simp; omega) (fun e => by have := (hrow2.lt _ e.symm).2; omega))).trans (by simp); have hB3 : Below w.heap.size w w3 := (((hbel.trans (hB2.mono hlb)).alloc (by omega) _).alloc (by simp; omega) _).grown hgrow3 (by simp; omega) (fun q e => (hrow2.lt q e).1); obtain ⟨g3, c3, rfl⟩ := ownsRow_succ hown3)
                  go_ret2
                  exact spTo_long (by rw [HLl.out]; omega) (by rw [HEND.out]; exact ok_snoc HOK.out rfl) (by rw [HEND.out, longF_snoc, ← HLONG.out, decide_eq_false h2, List.length_append, List.length_singleton, decide_eq_true h64]; rfl) hB3
                · have d64 : decide ((64 : Int) < (pre.length : Int) + 1) = false := decide_eq_false (by omega)
                  go_wp2_with fail
                  refine (HB.out _).mono ?_
                  rintro e w' ⟨rfl, rfl⟩
                  have hrow2 := ownsRow_below hrow hB2
                  have hs2 := hB2.size
                  go_wp2_with (at_builtin; refine wpList_append_own _ rfl _ _ 32 rfl w.heap.size 50 i0 (.agg #[.string ⟨#[]⟩, .bool false]) 2 24 Tryd.underlying32 hi hz0 hz1 hz2 rfl (by decide) _ _ _ rfl ((hrow2.alloc _).alloc _) ⟨w2.heap.size + 1, 0, none⟩ 1 1 [.string ⟨t.toArray⟩, .bool false] rfl rfl (by have := cell_two_new (w2.alloc (.cells #[.string ⟨t.toArray⟩, .bool false] 50)) (.string ⟨t.toArray⟩) (.bool false) 50; rw [World.size_alloc] at this; exact this) (by simp [Value.oneCell']) (by unfold maxLen; omega) (by omega) (by simp; omega) ?_; intro v3 w3 hown3 hgrow3 _; have hc3 : w3.cell? ⟨w2.heap.size, 0, none⟩ = some (.string ⟨t.toArray⟩) := (World.cell?_of_block (hgrow3.block w2.heap.size (by simp; omega) (fun e => by have := (hrow2.lt _ e.symm).2; omega))).trans (by simp); have hB3 : Below w.heap.size w w3 := (((hbel.trans (hB2.mono hlb)).alloc (by omega) _).alloc (by simp; omega) _).grown hgrow3 (by simp; omega) (fun q e => (hrow2.lt q e).1); obtain ⟨g3, c3, rfl⟩ := ownsRow_succ hown3)
                  go_ret2
                  exact spTo_ok (by rw [HLl.out]; omega) (by rw [HEND.out]; exact ok_snoc HOK.out rfl) (by rw [HEND.out, longF_snoc, ← HLONG.out, decide_eq_false h2, List.length_append, List.length_singleton, decide_eq_false h64]; rfl) (by rw [HEND.out]; exact (by rw [fldCells_snoc, List.length_append, List.length_singleton]; exact hown3)) hB3
        · have HON := Lib.hid (step_on HSEQ.out HGO.out (by rw [HLl.out]; exact hlt) (by rw [← HG.out (k + m) hlt (by rw [HLl.out]; exact hlt)]; exact HSTOP.out hlt))
          have e1 : ((k : Int) + m == s.size) = false := beq_eq_false_iff_ne.2 (by omega)
          have e2 : ((s[k + m].toNat : Int) != 32) = false := by have := HSTOP.out hlt; simp; omega
          have hlgc : (lg = true) ∨ (lg = false ∧ 2000 < t.length) ∨ (lg = false ∧ ¬ 2000 < t.length) := by
            cases lg
            · by_cases h : 2000 < t.length
              · exact .inr (.inl ⟨rfl, h⟩)
              · exact .inr (.inr ⟨rfl, h⟩)
            · exact .inl rfl
          rcases hlgc with rfl | ⟨rfl, h2⟩ | ⟨rfl, h2⟩
          · go_wp2_with fail
            refine HQ.out.mono ?_
            rintro e w2 ⟨rfl, hB2⟩
            go_wp2_with fail
            go_loop [8] (fun n8 => ∃ j : Nat, j ≤ m ∧ n8 = .int .i64 j) (fun n8 => m - (intOf n8).toNat)
            case atStart => exact ⟨0, Nat.zero_le _, rfl⟩
            case round =>
              obtain ⟨j, hj, rfl⟩ := hrel
              by_cases hjm : j < m
              · have hkj : k + j < s.size := by omega
                have d1 : ((s[k + j].toNat : Int) != 32) = true := by have := HBEF.out j hjm hkj; simp; omega
                go_wp2_with fail
                go_round
                case rel => exact ⟨j + 1, by omega, by go_num⟩
                case measure => simp [intOf]; omega
              · obtain rfl : j = m := by omega
                go_wp2_with fail
                refine (HB.out _).mono ?_
                rintro e w' ⟨rfl, rfl⟩
                have hrow2 := ownsRow_below hrow hB2
                have hs2 := hB2.size
                go_wp2_with (at_builtin; refine wpList_append_own _ rfl _ _ 32 rfl w.heap.size 50 i0 (.agg #[.string ⟨#[]⟩, .bool false]) 2 24 Tryd.underlying32 hi hz0 hz1 hz2 rfl (by decide) _ _ _ rfl ((hrow2.alloc _).alloc _) ⟨w2.heap.size + 1, 0, none⟩ 1 1 [.string ⟨t.toArray⟩, .bool false] rfl rfl (by have := cell_two_new (w2.alloc (.cells #[.string ⟨t.toArray⟩, .bool false] 50)) (.string ⟨t.toArray⟩) (.bool false) 50; rw [World.size_alloc] at this; exact this) (by simp [Value.oneCell']) (by unfold maxLen; omega) (by omega) (by simp; omega) ?_; intro v3 w3 hown3 hgrow3 _; have hc3 : w3.cell? ⟨w2.heap.size, 0, none⟩ = some (.string ⟨t.toArray⟩) := (World.cell?_of_block (hgrow3.block w2.heap.size (by simp; omega) (fun e => by have := (hrow2.lt _ e.symm).2; omega))).trans (by simp); have hB3 : Below w.heap.size w w3 := (((hbel.trans (hB2.mono hlb)).alloc (by omega) _).alloc (by simp; omega) _).grown hgrow3 (by simp; omega) (fun q e => (hrow2.lt q e).1))
                go_roundw
                case rel => exact ⟨k + j + 1, true, by omega, by go_num, rfl, Lib.hid ⟨pre ++ [⟨t, false, true⟩], by rw [fldCells_snoc, List.length_append, List.length_singleton]; exact hown3, hB3, HON.out, ok_snoc HOK.out rfl, (by rw [longF_snoc, ← HLONG.out]; rfl), by simp; omega⟩⟩
                case measure => simp [intOf]; omega
          · have d2 : decide (2000 < (t.length : Int)) = true := decide_eq_true (by omega)
            go_wp2_with fail
            refine HQ.out.mono ?_
            rintro e w2 ⟨rfl, hB2⟩
            go_wp2_with fail
            go_loop [8] (fun n8 => ∃ j : Nat, j ≤ m ∧ n8 = .int .i64 j) (fun n8 => m - (intOf n8).toNat)
            case atStart => exact ⟨0, Nat.zero_le _, rfl⟩
            case round =>
              obtain ⟨j, hj, rfl⟩ := hrel
              by_cases hjm : j < m
              · have hkj : k + j < s.size := by omega
                have d1 : ((s[k + j].toNat : Int) != 32) = true := by have := HBEF.out j hjm hkj; simp; omega
                go_wp2_with fail
                go_round
                case rel => exact ⟨j + 1, by omega, by go_num⟩
                case measure => simp [intOf]; omega
              · obtain rfl : j = m := by omega
                go_wp2_with fail
                refine (HB.out _).mono ?_
                rintro e w' ⟨rfl, rfl⟩
                have hrow2 := ownsRow_below hrow hB2
                have hs2 := hB2.size
                go_wp2_with (at_builtin; refine wpList_append_own _ rfl _ _ 32 rfl w.heap.size 50 i0 (.agg #[.string ⟨#[]⟩, .bool false]) 2 24 Tryd.underlying32 hi hz0 hz1 hz2 rfl (by decide) _ _ _ rfl ((hrow2.alloc _).alloc _) ⟨w2.heap.size + 1, 0, none⟩ 1 1 [.string ⟨t.toArray⟩, .bool false] rfl rfl (by have := cell_two_new (w2.alloc (.cells #[.string ⟨t.toArray⟩, .bool false] 50)) (.string ⟨t.toArray⟩) (.bool false) 50; rw [World.size_alloc] at this; exact this) (by simp [Value.oneCell']) (by unfold maxLen; omega) (by omega) (by simp; omega) ?_; intro v3 w3 hown3 hgrow3 _; have hc3 : w3.cell? ⟨w2.heap.size, 0, none⟩ = some (.string ⟨t.toArray⟩) := (World.cell?_of_block (hgrow3.block w2.heap.size (by simp; omega) (fun e => by have := (hrow2.lt _ e.symm).2; omega))).trans (by simp); have hB3 : Below w.heap.size w w3 := (((hbel.trans (hB2.mono hlb)).alloc (by omega) _).alloc (by simp; omega) _).grown hgrow3 (by simp; omega) (fun q e => (hrow2.lt q e).1))
                go_roundw
                case rel => exact ⟨k + j + 1, true, by omega, by go_num, rfl, Lib.hid ⟨pre ++ [⟨t, false, true⟩], by rw [fldCells_snoc, List.length_append, List.length_singleton]; exact hown3, hB3, HON.out, ok_snoc HOK.out rfl, (by rw [longF_snoc, ← HLONG.out, decide_eq_true h2]; rfl), by simp; omega⟩⟩
                case measure => simp [intOf]; omega
          · have d2 : decide (2000 < (t.length : Int)) = false := decide_eq_false (by omega)
            go_wp2_with fail
            refine HQ.out.mono ?_
            rintro e w2 ⟨rfl, hB2⟩
            go_wp2_with fail
            go_loop [8] (fun n8 => ∃ j : Nat, j ≤ m ∧ n8 = .int .i64 j) (fun n8 => m - (intOf n8).toNat)
            case atStart => exact ⟨0, Nat.zero_le _, rfl⟩
            case round =>
              obtain ⟨j, hj, rfl⟩ := hrel
              by_cases hjm : j < m
              · have hkj : k + j < s.size := by omega
                have d1 : ((s[k + j].toNat : Int) != 32) = true := by have := HBEF.out j hjm hkj; simp; omega
                go_wp2_with fail
                go_round
                case rel => exact ⟨j + 1, by omega, by go_num⟩
                case measure => simp [intOf]; omega
              · obtain rfl : j = m := by omega
                go_wp2_with fail
                refine (HB.out _).mono ?_
                rintro e w' ⟨rfl, rfl⟩
                have hrow2 := ownsRow_below hrow hB2
                have hs2 := hB2.size
                go_wp2_with (at_builtin; refine wpList_append_own _ rfl _ _ 32 rfl w.heap.size 50 i0 (.agg #[.string ⟨#[]⟩, .bool false]) 2 24 Tryd.underlying32 hi hz0 hz1 hz2 rfl (by decide) _ _ _ rfl ((hrow2.alloc _).alloc _) ⟨w2.heap.size + 1, 0, none⟩ 1 1 [.string ⟨t.toArray⟩, .bool false] rfl rfl (by have := cell_two_new (w2.alloc (.cells #[.string ⟨t.toArray⟩, .bool false] 50)) (.string ⟨t.toArray⟩) (.bool false) 50; rw [World.size_alloc] at this; exact this) (by simp [Value.oneCell']) (by unfold maxLen; omega) (by omega) (by simp; omega) ?_; intro v3 w3 hown3 hgrow3 _; have hc3 : w3.cell? ⟨w2.heap.size, 0, none⟩ = some (.string ⟨t.toArray⟩) := (World.cell?_of_block (hgrow3.block w2.heap.size (by simp; omega) (fun e => by have := (hrow2.lt _ e.symm).2; omega))).trans (by simp); have hB3 : Below w.heap.size w w3 := (((hbel.trans (hB2.mono hlb)).alloc (by omega) _).alloc (by simp; omega) _).grown hgrow3 (by simp; omega) (fun q e => (hrow2.lt q e).1))
                go_roundw
                case rel => exact ⟨k + j + 1, false, by omega, by go_num, rfl, Lib.hid ⟨pre ++ [⟨t, false, true⟩], by rw [fldCells_snoc, List.length_append, List.length_singleton]; exact hown3, hB3, HON.out, ok_snoc HOK.out rfl, (by rw [longF_snoc, ← HLONG.out, decide_eq_false h2]; rfl), by simp; omega⟩⟩
                case measure => simp [intOf]; omega
      | false =>
        have HBAD : Hid (∃ x ∈ seqOf L, x.ok = false) := Lib.hid (by
          obtain ⟨x, hx, hb⟩ := goL_bad hq (by rw [hm, ht]; exact hbr)
          rw [HSEQ.out]
          exact ⟨x, List.mem_append_right _ hx, hb⟩)
        rw [hbr] at HB
        clear hqv hexl hexs hq hm ht hts hts2 hbr
        rcases hwx with he | hlt
        · have hge : ¬ k + m < s.size := by omega
          clear he
          go_wp2_with fail
          refine HQ.out.mono ?_
          rintro e w2 ⟨rfl, hB2⟩
          go_wp2_with fail
          go_loop [8] (fun n8 => ∃ j : Nat, j ≤ m ∧ n8 = .int .i64 j) (fun n8 => m - (intOf n8).toNat)
          case atStart => exact ⟨0, Nat.zero_le _, rfl⟩
          case round =>
            obtain ⟨j, hj, rfl⟩ := hrel
            by_cases hjm : j < m
            · have hkj : k + j < s.size := by omega
              have d1 : ((s[k + j].toNat : Int) != 32) = true := by have := HBEF.out j hjm hkj; simp; omega
              go_wp2_with fail
              go_round
              case rel => exact ⟨j + 1, by omega, by go_num⟩
              case measure => simp [intOf]; omega
            · obtain rfl : j = m := by omega
              go_wp2_with fail
              refine (HB.out _).mono ?_
              rintro e w' ⟨rfl, rfl⟩
              go_wp2_with fail
              go_ret2
              exact spTo_bad (by rw [HLl.out]; omega) HBAD.out (((hbel.trans (hB2.mono hlb)).alloc (Nat.le_trans hlb hB2.size) _))
        · have e2 : ((s[k + m].toNat : Int) != 32) = false := by have := HSTOP.out hlt; simp; omega
          go_wp2_with fail
          refine HQ.out.mono ?_
          rintro e w2 ⟨rfl, hB2⟩
          go_wp2_with fail
          go_loop [8] (fun n8 => ∃ j : Nat, j ≤ m ∧ n8 = .int .i64 j) (fun n8 => m - (intOf n8).toNat)
          case atStart => exact ⟨0, Nat.zero_le _, rfl⟩
          case round =>
            obtain ⟨j, hj, rfl⟩ := hrel
            by_cases hjm : j < m
            · have hkj : k + j < s.size := by omega
              have d1 : ((s[k + j].toNat : Int) != 32) = true := by have := HBEF.out j hjm hkj; simp; omega
              go_wp2_with fail
              go_round
              case rel => exact ⟨j + 1, by omega, by go_num⟩
              case measure => simp [intOf]; omega
            · obtain rfl : j = m := by omega
              go_wp2_with fail
              refine (HB.out _).mono ?_
              rintro e w' ⟨rfl, rfl⟩
              go_wp2_with fail
              go_ret2
              exact spTo_bad (by rw [HLl.out]; omega) HBAD.out (((hbel.trans (hB2.mono hlb)).alloc (Nat.le_trans hlb hB2.size) _))
end Go.Proofs.YtnmkcohfhomenaaDoor
