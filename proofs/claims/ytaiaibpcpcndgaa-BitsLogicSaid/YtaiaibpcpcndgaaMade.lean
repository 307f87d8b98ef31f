/- The law's made: a map and the list of its bits. -/
import Derived.Test.YtaiaibpcpcndgaaSame
namespace Go.Proofs.Ytaiaibpcpcndgaa
open Go.RowKit

theorem Try.infoBool : (Try.prog.info? 4).map (fun i => (i.zero, i.size, i.bytes)) = some (some (.bool false), 1, 1) := by kernel_rfl
def boolCells (L : List Bool) : List Value := L.map Value.bool
theorem boolCells_len (L : List Bool) : (boolCells L).length = L.length := by simp [boolCells]
theorem boolCells_zero (n : Nat) : boolCells (List.replicate n false) = List.replicate n (.bool false) := by simp [boolCells]
theorem boolCells_set (L : List Bool) (i : Nat) (x : Bool) : (boolCells L).set i (.bool x) = boolCells (L.set i x) := by simp [boolCells, List.map_set]
theorem boolsAt_of_row {w : World} {base : Nat} {v : Value} {L : List Bool} (h : w.ownsRow base 4 1 v L.length (boolCells L)) : BoolsAt w v L := by
  rcases h.2 with ⟨rfl, h0⟩ | ⟨g, cap, cur, rfl, _, hg, _⟩
  · have : L = [] := List.eq_nil_of_length_eq_zero h0
    subst this
    exact .inl ⟨rfl, rfl⟩
  · refine .inr ⟨g, 0, cap, rfl, (Array.getElem?_eq_some_iff.1 hg).1, fun j hj => ?_⟩
    have := h.cells (g := g) rfl j (.bool L[j]) (by simp [boolCells, List.getElem?_map, List.getElem?_eq_getElem hj])
    rw [addr_add] at this
    exact this

/-- What made leaves: a map of the bits of a list. -/
def Made (n : Nat) (w : World) (e : Ending) (w' : World) : Prop :=
  ∃ b v L, e = .returned (.tuple #[.pointer (some ⟨b, 0, none⟩), v]) ∧ L.length = n % 601 ∧ MapAt w' b L ∧ BoolsAt w' v L ∧ w.heap.size ≤ b ∧ Below w.heap.size w w' ∧ (∀ g o, (∃ m c, v = .slice (some ⟨g, o, none⟩) m c) → g ≠ b)

set_option maxHeartbeats 1000000 in
theorem made_any (n : Nat) (u : Value) (l : List UInt8) (w : World) (hn : n ≤ 65535) (hv : BytesAt w u l) (hl : l.length ≤ maxLen) :
    Calls Try.prog 12 #[.int .u16 n, u] w (Made n w) := by
  unfold maxLen at hl
  obtain ⟨c, hc⟩ : ∃ c, n % 601 = c := ⟨_, rfl⟩
  have HC := Lib.hid hc
  have hc6 : c ≤ 600 := by omega
  have hcI : (n : Int) % 601 = c := by omega
  obtain ⟨i0, hi, hz0, hz1, hz2⟩ := info_parts Try.infoBool
  obtain ⟨w1, hmk, hown, hg⟩ := run_make_full (P := Try.prog) (w := w) w.heap.size 27 4 i0 (.bool false) 1 Try.underlying27 hi hz0 hz1 .i64 .i64 c (by rw [hz2]; omega) (by unfold maxLen; omega) (Nat.le_refl _)
  have hB1 : Below w.heap.size w w1 := (Below.refl _ _).grown hg (Nat.le_refl _) (fun k e => by cases e)
  rw [show (madeCells (Value.bool false).cells (c * 1)).toList = boolCells (List.replicate c false) from by rw [boolCells_zero]; show (madeCells #[.bool false] (c * 1)).toList = _; rw [toList_madeCells_one, Nat.mul_one]] at hown
  have hlt1 : w.heap.size < w1.heap.size := by
    rcases hown.2 with ⟨h, _⟩ | ⟨g, cap, cur, h, _, hg', _⟩
    · cases h
    · cases h; exact (Array.getElem?_eq_some_iff.1 hg').1
  obtain ⟨s, d, rfl⟩ : ∃ s d, u = .slice s l.length d := by
    rcases hv with ⟨a, d, rfl, rfl⟩ | ⟨b, o, d, rfl, _⟩
    · exact ⟨a, d, rfl⟩
    · exact ⟨some ⟨b, o, none⟩, d, rfl⟩
  have HV := Lib.hid hv
  have H0 : Hid (∃ L : List Bool, L.length = c ∧ w1.ownsRow w.heap.size 4 1 (.slice (some ⟨w.heap.size, 0, none⟩) c c) c (boolCells L)) := Lib.hid ⟨_, List.length_replicate, hown⟩
  clear hc hg hz2 hv hown
  go_enter Try.func12, Try.ntmps12
  go_wp2_with fail
  clear hmk hcI
  go_loopw [7] (fun i wr => ∃ k : Nat, k ≤ c ∧ i = .int .i64 k ∧ Hid (∃ L : List Bool, L.length = c ∧ wr.ownsRow w.heap.size 4 1 (.slice (some ⟨w.heap.size, 0, none⟩) c c) c (boolCells L)) ∧ Below w.heap.size w wr ∧ w.heap.size < wr.heap.size) (fun i _ => c - (intOf i).toNat)
  case atStart => exact ⟨0, Nat.zero_le _, rfl, H0, hB1, hlt1⟩
  case round =>
    obtain ⟨k, hk, rfl, hrow, hbel, hlt2⟩ := hrel
    by_cases hlt : k < c ∧ 0 < l.length
    · obtain ⟨hkc, hl0⟩ := hlt
      obtain ⟨L, hL, hrw⟩ := hrow.out
      have hfz := hrw.frozenAt k
      have hkm : k / 8 % l.length < l.length := Nat.mod_lt _ hl0
      rcases HV.out.below hbel with ⟨a, d', hva, hl0'⟩ | ⟨b, o, d', hvb, hbl, hcell⟩
      · rw [hl0'] at hl0; simp at hl0
      · obtain ⟨rfl, rfl⟩ : s = some ⟨b, o, none⟩ ∧ d = d' := by cases hvb; exact ⟨rfl, rfl⟩
        have hcl := hcell (k / 8 % l.length) hkm
        have hby3 : l[k / 8 % l.length].toNat < 256 := by have := (l[k / 8 % l.length]).toNat_lt; omega
        clear hcell
        generalize l[k / 8 % l.length].toNat = z at *
        have HRW := Lib.hid hrw
        have HL := Lib.hid hL
        have hcell : ∃ y, wr.cell? ⟨w.heap.size, k, none⟩ = some y := by
          rw [hrw.cellAt k (by omega)]; exact ⟨_, List.getElem?_eq_getElem (by rw [boolCells_len]; omega)⟩
        obtain ⟨y, hcell⟩ := hcell
        have hix : 0 ≤ (k : Int) / 8 % (l.length : Int) ∧ (k : Int) / 8 % (l.length : Int) < l.length := ⟨Int.emod_nonneg _ (by omega), Int.emod_lt_of_pos _ (by omega)⟩
        have hin : ((k : Int) / 8 % (l.length : Int)).toNat = k / 8 % l.length := by
          have : (k : Int) / 8 % (l.length : Int) = ((k / 8 % l.length : Nat) : Int) := by simp
          rw [this]; rfl
        clear hvb hL hrw
        go_wp2_with fail
        go_roundw
        case rel => exact ⟨k + 1, by omega, by go_num, Lib.hid ⟨_, (List.length_set).trans HL.out, by rw [← boolCells_set]; exact (HRW.out.stored k _).1⟩, hbel.setCell (p := ⟨w.heap.size, k, none⟩) (Nat.le_refl _) _, by simpa using hlt2⟩
        case measure => simp [intOf]; omega
    · obtain ⟨L, hL, hrw⟩ := hrow.out
      have hL4 : L.length ≤ 4096 := by omega
      have hBA : BoolsAt wr (.slice (some ⟨w.heap.size, 0, none⟩) c c) L := by
        rw [← hL] at hrw ⊢; exact boolsAt_of_row hrw
      have HR := Lib.hid (refBytes_any _ L wr hBA hL4)
      have HLoad := Lib.hid (fun (v : Value) (w : World) (h : BytesAt w v (bytesL L)) => load_any L.length v (bytesL L) w hL4 h (by rw [bytesL_len]; unfold maxLen; omega))
      have HOK := Lib.hid (loadOK_bytes L)
      have HBK := Lib.hid (bits_back L)
      have HSame := Lib.hid (fun (b : Nat) (w : World) (hm : MapAt w b L) (hv : BoolsAt w (.slice (some ⟨w.heap.size, 0, none⟩) c c) L) => same_any b L L _ w hm hv hL4)
      have HL := Lib.hid hL
      have HBA := Lib.hid hBA
      have hsw := hbel.size
      rw [hL] at HLoad
      clear hL hrw hBA
      go_wp2_with fail
      · refine HR.out.mono ?_
        rintro e w2 ⟨v2, rfl, -, hv2, hB2⟩
        go_wp2_with fail
        refine (HLoad.out v2 _ hv2).mono ?_
        rintro e w3 ⟨h3, -, hB3, hs3⟩
        obtain ⟨rfl, hm3⟩ := h3 (by rw [← HL.out]; exact HOK.out)
        rw [← HL.out, HBK.out] at hm3
        have hs2 := hB2.size
        have hB23 := hB2.trans (hB3.mono hs2)
        have hBA3 := HBA.out.below hB23
        have H4 := Lib.hid (same_any _ L L _ w3 hm3 hBA3 hL4)
        rw [show (L == L) = true from beq_self_eq_true L] at H4
        have HM3 := Lib.hid hm3
        clear h3 hm3
        go_wp2_with fail
        refine H4.out.mono ?_
        rintro e w4 ⟨rfl, hB4⟩
        go_wp2_with fail
        go_ret2
        exact ⟨_, _, L, rfl, HL.out.trans HC.out.symm, HM3.out.below hB4 hs3, hBA3.below hB4, by omega, hbel.trans ((hB23.mono (by omega)).trans (hB4.mono (by omega))), by rintro g o ⟨m, c', h⟩; cases h; omega⟩
      · refine HR.out.mono ?_
        rintro e w2 ⟨v2, rfl, -, hv2, hB2⟩
        go_wp2_with fail
        refine (HLoad.out v2 _ hv2).mono ?_
        rintro e w3 ⟨h3, -, hB3, hs3⟩
        obtain ⟨rfl, hm3⟩ := h3 (by rw [← HL.out]; exact HOK.out)
        rw [← HL.out, HBK.out] at hm3
        have hs2 := hB2.size
        have hB23 := hB2.trans (hB3.mono hs2)
        have hBA3 := HBA.out.below hB23
        have H4 := Lib.hid (same_any _ L L _ w3 hm3 hBA3 hL4)
        rw [show (L == L) = true from beq_self_eq_true L] at H4
        have HM3 := Lib.hid hm3
        clear h3 hm3
        go_wp2_with fail
        refine H4.out.mono ?_
        rintro e w4 ⟨rfl, hB4⟩
        go_wp2_with fail
        go_ret2
        exact ⟨_, _, L, rfl, HL.out.trans HC.out.symm, HM3.out.below hB4 hs3, hBA3.below hB4, by omega, hbel.trans ((hB23.mono (by omega)).trans (hB4.mono (by omega))), by rintro g o ⟨m, c', h⟩; cases h; omega⟩
end Go.Proofs.Ytaiaibpcpcndgaa
