/- The reference's functions that make a list. -/
import Derived.Test.YtaiaibpcpcndgaaRef
import Derived.Test.YtaiaibpcpcndgaaMade
import Derived.Laws.AppendOwnNone
namespace Go.Proofs.Ytaiaibpcpcndgaa
open Go.RowKit

/-- A new list. -/
def NewList (L : List Bool) (w : World) (e : Ending) (w' : World) : Prop := ∃ v, e = .returned v ∧ w'.ownsRow w.heap.size 4 1 v L.length (boolCells L) ∧ Below w.heap.size w w'

theorem row_empty (w : World) (t : TypeId) : (w.alloc (.cells #[] t)).ownsRow w.heap.size t 1 (.slice (some ⟨w.heap.size, 0, none⟩) 0 0) 0 [] :=
  ⟨rfl, .inr ⟨w.heap.size, 0, #[], rfl, Nat.le_refl _, heap_alloc_new w _, Nat.le_refl _, Nat.zero_le _, rfl, rfl⟩⟩

set_option maxHeartbeats 400000 in
theorem refCopy_any (u : Value) (L : List Bool) (w : World) (h : BoolsAt w u L) (hL : L.length ≤ 4096) :
    Calls Try.prog 59 #[u] w (NewList L w) := by
  obtain ⟨i0, hi, hz0, hz1, hz2⟩ := info_parts Try.infoBool
  have hrow := row_empty w 4
  have hB := ((Below.refl w.heap.size w).alloc (Nat.le_refl _) (.cells #[] 4))
  rcases h with ⟨rfl, rfl⟩ | ⟨b, o, c, rfl, hb, hc⟩
  · go_enter Try.func59, Try.ntmps59
    go_wp2_with (at_builtin; refine wpList_append_own_none rfl _ _ 27 rfl w.heap.size 4 i0 1 Try.underlying27 hi _ 0 [] rfl hrow rfl ?_)
    go_ret
    exact ⟨_, rfl, hrow, hB⟩
  · have hcells : ∀ j u, (boolCells L)[j]? = some u → (w.alloc (.cells #[] 4)).cell? ((⟨b, o, none⟩ : Addr).add j) = some u := by
      intro j u hj
      rw [addr_add]
      have hjl : j < L.length := by
        rcases Nat.lt_or_ge j L.length with h | h
        · exact h
        · rw [List.getElem?_eq_none (by rw [boolCells_len]; exact h)] at hj; cases hj
      rw [World.cell?_alloc_lt w _ _ hb, hc j hjl]
      rw [← hj]; simp [boolCells, hjl]
    have HC := Lib.hid hc
    clear hc
    go_enter Try.func59, Try.ntmps59
    go_wp2_with (at_builtin; refine wpList_append_own _ rfl _ _ 27 rfl w.heap.size 4 i0 (.bool false) 1 1 Try.underlying27 hi hz0 hz1 hz2 rfl (by decide) _ 0 [] rfl hrow ⟨b, o, none⟩ L.length c (boolCells L) rfl (by rw [boolCells_len, Nat.mul_one]) hcells (by intro u hu; obtain ⟨y, _, rfl⟩ := List.mem_map.1 hu; simp [Value.oneCell']) (by unfold maxLen; omega) (by omega) (by simp) ?_; intro v3 w3 hown3 hgrow3 _)
    go_ret
    rw [Nat.zero_add, List.nil_append] at hown3
    exact ⟨_, rfl, hown3, hB.grown hgrow3 (by simp) (fun q e => (hrow.lt q e).1)⟩

/-- A list and an error: the same slice, or a new one. -/
def ListTo (L : List Bool) (u : Value) (er : Int) (w : World) (e : Ending) (w' : World) : Prop :=
  ∃ v, e = .returned (.tuple #[v, .int .i64 er]) ∧ BoolsAt w' v L ∧ Below w.heap.size w w' ∧ (v = u ∨ ∀ g o n c, v = .slice (some ⟨g, o, none⟩) n c → w.heap.size ≤ g)

theorem row_form {w : World} {base n : Nat} {v : Value} {xs : List Value} (h : w.ownsRow base 4 1 v n xs) (hn : 0 < n) : ∃ g c, v = .slice (some ⟨g, 0, none⟩) n c ∧ base ≤ g := by
  rcases h.2 with ⟨_, h0⟩ | ⟨g, cap, cur, rfl, hg, _⟩
  · omega
  · exact ⟨g, cap, rfl, hg⟩

set_option maxHeartbeats 400000 in
theorem refSet_any (u : Value) (L : List Bool) (i : Int) (x : Bool) (w : World) (h : BoolsAt w u L) (hL : L.length ≤ 4096) :
    Calls Try.prog 39 #[u, .int .i64 i, .bool x] w (ListTo (setL L i x) u (lookE L.length i 1) w) := by
  have HC := Lib.hid (refCopy_any u L w h hL)
  cases hr : inR L.length i 1 with
  | false =>
    have HF := Lib.hid (show ListTo (setL L i x) u (lookE L.length i 1) w (.returned (.tuple #[u, .int .i64 7])) w from
      ⟨u, by rw [lookE_not hr], by unfold setL; rw [hr]; exact h, Below.refl _ _, .inl rfl⟩)
    have hn := inR_one_not hr
    obtain ⟨s, d, rfl⟩ := h.val
    clear hr h
    by_cases h0 : i < 0
    · have d1 : decide (i < 0) = true := decide_eq_true h0
      go_enter Try.func39, Try.ntmps39
      go_wp2_with fail
      go_ret2
      exact HF.out
    · have d1 : decide (i < 0) = false := decide_eq_false h0
      have d2 : decide ((L.length : Int) ≤ i) = true := decide_eq_true (by omega)
      go_enter Try.func39, Try.ntmps39
      go_wp2_with fail
      go_ret2
      exact HF.out
  | true =>
    obtain ⟨k, rfl, hk⟩ := inR_one hr
    have HF := Lib.hid (show setL L k x = L.set k x by unfold setL; rw [hr]; rfl)
    have HE := Lib.hid (lookE_of hr)
    obtain ⟨s, d, rfl⟩ := h.val
    have d2 : decide ((L.length : Int) ≤ k) = false := decide_eq_false (by omega)
    clear hr h
    go_enter Try.func39, Try.ntmps39
    go_wp2_with fail
    refine HC.out.mono ?_
    rintro e w1 ⟨v1, rfl, hrow, hB⟩
    obtain ⟨g, c, rfl, hg⟩ := row_form hrow (by omega)
    have hcell : ∃ y, w1.cell? ⟨g, k, none⟩ = some y := by
      rw [hrow.cellAt k (by omega)]; exact ⟨_, List.getElem?_eq_getElem (by rw [boolCells_len]; omega)⟩
    obtain ⟨y, hcell⟩ := hcell
    have hfz := hrow.frozenAt k
    have HR := Lib.hid hrow
    clear hrow
    go_wp2_with fail
    go_ret2
    refine ⟨_, by rw [HE.out]; rfl, ?_, hB.setCell (p := ⟨g, k, none⟩) hg _, .inr ?_⟩
    · rw [HF.out]
      have hst := (HR.out.stored k (.bool x)).1
      rw [boolCells_set] at hst
      exact boolsAt_of_row (L := L.set k x) (by rw [List.length_set]; exact hst)
    · rintro g' o n c' hh; cases hh; exact hg

set_option maxHeartbeats 400000 in
theorem refFill_any (u : Value) (L : List Bool) (a m : Int) (x : Bool) (w : World) (h : BoolsAt w u L) (hL : L.length ≤ 4096) (l0 : -9223372036854775808 ≤ a) (l1 : a ≤ 9223372036854775807) (l2 : -9223372036854775808 ≤ m) (l3 : m ≤ 9223372036854775807) :
    Calls Try.prog 41 #[u, .int .i64 a, .int .i64 m, .bool x] w (ListTo (fillL L a m x) u (lookE L.length a m) w) := by
  have HC := Lib.hid (refCopy_any u L w h hL)
  obtain ⟨s, d, rfl⟩ := h.val
  have HI := Lib.hid (refIn_any s L.length d a m w l0 l1 l2 l3 hL)
  cases hr : inR L.length a m with
  | false =>
    have HF := Lib.hid (show ListTo (fillL L a m x) (.slice s L.length d) (lookE L.length a m) w (.returned (.tuple #[.slice s L.length d, .int .i64 7])) w from
      ⟨_, by rw [lookE_not hr], by unfold fillL; rw [hr]; exact h, Below.refl _ _, .inl rfl⟩)
    rw [hr] at HI
    clear hr h
    go_enter Try.func41, Try.ntmps41
    go_wp2_with fail
    refine HI.out.mono ?_
    rintro e w' ⟨rfl, rfl⟩
    go_wp2_with fail
    go_ret2
    exact HF.out
  | true =>
    obtain ⟨i, k, rfl, rfl, hik⟩ := inR_two hr
    have HF := Lib.hid (show fillL L i k x = fillTo L i x k by unfold fillL; rw [hr]; rfl)
    have HE := Lib.hid (lookE_of hr)
    rw [hr] at HI
    clear hr h
    go_enter Try.func41, Try.ntmps41
    go_wp2_with fail
    refine HI.out.mono ?_
    rintro e w' ⟨rfl, rfl⟩
    go_wp2_with fail
    refine HC.out.mono ?_
    rintro e w1 ⟨v1, rfl, hrow, hB⟩
    go_wp2_with fail
    go_loopw [11] (fun j wr => ∃ q : Nat, q ≤ k ∧ j = .int .i64 ((i + q : Nat) : Int) ∧ Hid (wr.ownsRow w.heap.size 4 1 v1 L.length (boolCells (fillTo L i x q))) ∧ Below w.heap.size w wr) (fun j _ => i + k - (intOf j).toNat)
    case atStart => exact ⟨0, by omega, rfl, Lib.hid hrow, hB⟩
    case round =>
      obtain ⟨q, hq, rfl, hr, hbel⟩ := hrel
      by_cases hlt : q < k
      · obtain ⟨g, c, rfl, hg⟩ := row_form hr.out (by omega)
        have hcell : ∃ y, wr.cell? ⟨g, i + q, none⟩ = some y := by
          rw [hr.out.cellAt (i + q) (by omega)]; exact ⟨_, List.getElem?_eq_getElem (by rw [boolCells_len, fillTo_len]; omega)⟩
        obtain ⟨y, hcell⟩ := hcell
        have hfz := hr.out.frozenAt (i + q)
        clear hrow
        go_wp2_with fail
        go_roundw
        case rel =>
          have hst := (hr.out.stored (i + q) (.bool x)).1
          rw [boolCells_set] at hst
          exact ⟨q + 1, by omega, by go_num, Lib.hid hst, hbel.setCell (p := ⟨g, i + q, none⟩) hg _⟩
        case measure => simp [intOf]; omega
      · obtain rfl : q = k := by omega
        have hbl := boolsAt_of_row (L := fillTo L i x q) (v := v1) (by rw [fillTo_len]; exact hr.out)
        have HBL := Lib.hid hbl
        clear hrow hbl
        go_wp2_with fail
        go_ret2
        refine ⟨_, by rw [HE.out]; rfl, by rw [HF.out]; exact HBL.out, hbel, .inr ?_⟩
        intro g o n c hh
        subst hh
        rcases hr.out.2 with ⟨h1, _⟩ | ⟨g', cap, cur, h1, hg, _⟩
        · cases h1
        · cases h1; exact hg
end Go.Proofs.Ytaiaibpcpcndgaa
