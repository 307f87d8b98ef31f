/- The reference's Locate. -/
import Derived.Test.YtadaohjphgpdnaaDoorSlices
import Derived.Deep.RegionWith
import Derived.IntWalk
namespace Go.Proofs.YtadaohjphgpdnaaDoor
open Go.RowKit

theorem BytesAt.heap {A B : World} {v : Value} {l : List UInt8} (h : BytesAt A v l) (e : B.heap = A.heap) : BytesAt B v l := by
  rcases h with h | ⟨b, o, c, rfl, hb, hc⟩
  · exact .inl h
  · exact .inr ⟨b, o, c, rfl, by rw [e]; exact hb, fun k hk => by unfold World.cell?; rw [e]; exact hc k hk⟩
theorem locV_found {l : List UInt8} {want i v : Nat} (hl : l.length ≤ 1000) (hne : crcV l ≠ want) (hi : i < l.length) (hv : v < 256) (hno : ∀ j, j < i → ¬ chV l want j ≤ 255) (he : crcV (l.set i v.toUInt8) = want) : locV l want = .tuple #[.int .i64 i, .int .u8 v, .int .i64 0] := by
  have hch := (try_ch l want i v hi hv).1 he
  have hk := locK_some l want i hi hch.1 l.length (Nat.le_refl _) (by omega) (fun j _ h => hno j h)
  have := locErr_else (l := l) (want := want) (by omega) hne
  unfold locV
  rw [this.1, this.2, hk]
  have e : locB l want (some i) = v := by
    show (l.getD i 0).toNat ^^^ _ = _
    rw [List.getD_eq_getElem?_getD, List.getElem?_eq_getElem hi]; exact hch.2.symm
  rw [e]; rfl
theorem locV_none {l : List UInt8} {want : Nat} (hl : l.length ≤ 1000) (hne : crcV l ≠ want) (hno : ∀ j, j < l.length → ¬ chV l want j ≤ 255) : locV l want = .tuple #[.int .i64 0, .int .u8 0, .int .i64 4] := by
  have hk := locK_none l want l.length (Nat.le_refl _) (fun j _ h => hno j h)
  have := locErr_else (l := l) (want := want) (by omega) hne
  unfold locV
  rw [this.1, this.2, hk]; rfl
theorem no_byte {l : List UInt8} {want i : Nat} (hi : i < l.length) (h : ∀ v, v < 256 → crcV (l.set i v.toUInt8) ≠ want) : ¬ chV l want i ≤ 255 := fun hc => by
  have hx := byte_xor_lt (a := l[i].toNat) (b := chV l want i) (by have := l[i].toNat_lt; omega) (by omega)
  exact h _ hx ((try_ch l want i _ hi hx).2 ⟨hc, rfl⟩)

set_option maxHeartbeats 2000000 in
set_option maxRecDepth 100000 in
theorem refLocate_any (s : Option Addr) (d : Nat) (l : List UInt8) (want : Nat) (w : World) (hv : BytesAt w (.slice s l.length d) l) (hcap : l.length ≤ d) (hl : l.length ≤ 1010) (hw : want < 4294967296) :
    Calls Tryd.prog 26 #[.slice s l.length d, .int .u32 want] w fun e w' => e = .returned (locV l want) ∧ Below w.heap.size w w' := by
  have hml : l.length ≤ maxLen := by unfold maxLen; omega
  have HC := Lib.hid (refCrc_any _ l w hv hml)
  by_cases a1 : 1000 < l.length
  · have d1 : decide ((1000 : Int) < l.length) = true := decide_eq_true (by omega)
    have HE := Lib.hid (locErr_long (want := want) a1)
    clear hv a1
    go_enter Tryd.func26, Tryd.ntmps26
    go_wp2_with fail
    go_ret3
    exact ⟨by unfold locV; rw [HE.out.1, HE.out.2]; rfl, Below.refl _ _⟩
  · have d1 : decide ((1000 : Int) < l.length) = false := decide_eq_false (by omega)
    by_cases a2 : crcV l = want
    · have d2 : ((crcV l : Int) == want) = true := by rw [a2]; exact beq_self_eq_true _
      have HE := Lib.hid (locErr_same a1 a2)
      clear hv a1 a2
      go_enter Tryd.func26, Tryd.ntmps26
      go_wp2_with fail
      refine HC.out.mono ?_
      rintro e w2 ⟨rfl, rfl⟩
      go_wp2_with fail
      go_ret3
      exact ⟨by unfold locV; rw [HE.out.1, HE.out.2]; rfl, Below.refl _ _⟩
    · have d2 : ((crcV l : Int) == want) = false := by rw [beq_eq_false_iff_ne]; omega
      have HV := Lib.hid hv
      have HNE := Lib.hid a2
      have h1000 : l.length ≤ 1000 := by omega
      clear a1 a2 hv
      go_enter Tryd.func26, Tryd.ntmps26
      go_wp2_with fail
      refine HC.out.mono ?_
      rintro e w2 ⟨rfl, rfl⟩
      go_wp2_with fail
      go_loopw [7] (fun i wr => ∃ q : Nat, q ≤ l.length ∧ i = .int .i64 q ∧ Hid (∀ j, j < q → ¬ chV l want j ≤ 255) ∧ Hid (Below w.heap.size w wr)) (fun i _ => l.length - (intOf i).toNat)
      case atStart => exact ⟨0, by omega, rfl, Lib.hid (fun j h => by omega), Lib.hid (Below.refl _ _)⟩
      case round =>
        obtain ⟨q, hq, rfl, hno, hB⟩ := hrel
        by_cases hlt : q < l.length
        · obtain ⟨g, o, rfl, hg⟩ := HV.out.some_ (by omega)
          have HVr := Lib.hid (HV.out.below hB.out (Nat.le_refl _))
          have HT := Lib.hid (refCrc_any (.slice (some ⟨g, o, none⟩) q d) (l.take q) wr (HVr.out.take q (by omega)) (by rw [List.length_take]; unfold maxLen; omega))
          go_wp2_with fail
          refine HT.out.mono ?_
          rintro e w2 ⟨rfl, rfl⟩
          go_wp2_with fail
          clear HT
          go_loopw [9] (fun z ww => ∃ y : Nat, y ≤ 256 ∧ z = .int .i64 y ∧ Hid (∀ j, j < y → crcV (l.set q j.toUInt8) ≠ want) ∧ Hid (Below w.heap.size w ww)) (fun z _ => 256 - (intOf z).toNat)
          case atStart => exact ⟨0, by omega, rfl, Lib.hid (fun j h => by omega), hB⟩
          case round =>
            obtain ⟨y, hy, rfl, hny, hB2⟩ := hrel
            by_cases hlt2 : y < 256
            · have HVw := Lib.hid (HV.out.below hB2.out (Nat.le_refl _))
              have hy8 : y < 256 := hlt2
              have hw8 : IntKind.u8.wrap (y : Int) = y := by rw [IntKind.wrap_u8']; omega
              have i1 : IntKind.i64.wrap ((q : Int) + 1) = q + 1 := IntWalk.i64_in _ (by omega)
              have i2 : (0 : Int) ≤ (q : Int) + 1 := by omega
              have i3 : ((q : Int) + 1).toNat = q + 1 := by omega
              by_cases hcq : d = q + 1
              · subst hcq
                obtain ⟨W1, hW1⟩ : ∃ W1, W1 = wr.alloc (.cells #[.int .u8 y] 5) := ⟨_, rfl⟩
                have hyb : (y.toUInt8).toNat = y := by rw [Nat.toUInt8_eq, UInt8.toNat_ofNat']; omega
                have hb1 : Below wr.heap.size wr W1 := by rw [hW1]; exact (Below.refl _ _).alloc (Nat.le_refl _) _
                have hBA : BytesAt W1 (.slice (some ⟨wr.heap.size, 0, none⟩) 1 1) [y.toUInt8] := by rw [hW1]; exact bytes_new wr [y.toUInt8] _ _ _ (by simp [Lib.byteCells, hyb]) 1 rfl
                have hBD : BytesAt W1 (.slice (some ⟨g, o, none⟩) 0 0) (l.drop (q + 1)) := by
                  have e2 : l.drop (q + 1) = [] := List.eq_nil_of_length_eq_zero (by rw [List.length_drop]; omega)
                  rw [e2]; exact BytesAt.none_ _ _
                have HD := Lib.hid (fun (W : World) (h : W.heap = W1.heap) => refOn_any (crcOn (crcV (l.take q)) [y.toUInt8]) (.slice (some ⟨g, o, none⟩) 0 0) (l.drop (q + 1)) W (crcOn_lt _ (crcV_lt _)) (hBD.heap h) (by rw [List.length_drop]; unfold maxLen; omega))
                have HO := Lib.hid (fun (W : World) (h : W.heap = W1.heap) => refOn_any (crcV (l.take q)) (.slice (some ⟨wr.heap.size, 0, none⟩) 1 1) [y.toUInt8] W (crcV_lt _) (hBA.heap h) (by simp [maxLen]))
                rw [crc_try l q y.toUInt8 hlt] at HD
                rw [hW1] at HD HO
                have HB3 := Lib.hid (hB2.out.trans (hb1.mono hB2.out.size))
                rw [hW1] at HB3
                have HYY := Lib.hid hyb
                clear hW1 hb1 hBA hBD hyb
                by_cases heq : crcV (l.set q y.toUInt8) = want
                · have t1 : ((crcV (l.set q y.toUInt8) : Int) == want) = true := by rw [heq]; exact beq_self_eq_true _
                  have HV' := Lib.hid (locV_found h1000 HNE.out hlt hy8 hno.out heq)
                  clear heq
                  go_wp2_with fail
                  go_region_with (first | (go_at_call 17; (with_reducible refine (HO.out _ ?hh).mono ?_); (case hh => rfl); rintro e w9 ⟨rfl, rfl⟩) | (go_at_call 17; (with_reducible refine (HD.out _ ?hh).mono ?_); (case hh => rfl); rintro e w9 ⟨rfl, rfl⟩))
                  all_goals go_wp2_with fail
                  all_goals go_ret3
                  all_goals exact ⟨by rw [HV'.out]; rfl, HB3.out.drew⟩
                · have t1 : ((crcV (l.set q y.toUInt8) : Int) == want) = false := by rw [beq_eq_false_iff_ne]; omega
                  have HNY := Lib.hid (show ∀ j, j < y + 1 → crcV (l.set q j.toUInt8) ≠ want from fun j hj => by
                    by_cases e : j = y
                    · subst e; exact heq
                    · exact hny.out j (by omega))
                  clear heq
                  go_wp2_with fail
                  go_region_with (first | (go_at_call 17; (with_reducible refine (HO.out _ ?hh).mono ?_); (case hh => rfl); rintro e w9 ⟨rfl, rfl⟩) | (go_at_call 17; (with_reducible refine (HD.out _ ?hh).mono ?_); (case hh => rfl); rintro e w9 ⟨rfl, rfl⟩))
                  all_goals go_wp2_with fail
                  all_goals
                    go_roundw
                    case rel => exact ⟨y + 1, by omega, by go_num, HNY, Lib.hid HB3.out.drew⟩
                    case measure => simp [intOf]; omega
              · obtain ⟨W1, hW1⟩ : ∃ W1, W1 = wr.alloc (.cells #[.int .u8 y] 5) := ⟨_, rfl⟩
                have hyb : (y.toUInt8).toNat = y := by rw [Nat.toUInt8_eq, UInt8.toNat_ofNat']; omega
                have hb1 : Below wr.heap.size wr W1 := by rw [hW1]; exact (Below.refl _ _).alloc (Nat.le_refl _) _
                have hBA : BytesAt W1 (.slice (some ⟨wr.heap.size, 0, none⟩) 1 1) [y.toUInt8] := by rw [hW1]; exact bytes_new wr [y.toUInt8] _ _ _ (by simp [Lib.byteCells, hyb]) 1 rfl
                have hBD := (HVw.out.drop (d' := d - (q + 1)) (q + 1) (by omega)).below hb1 (Nat.le_refl _)
                have HD := Lib.hid (fun (W : World) (h : W.heap = W1.heap) => refOn_any (crcOn (crcV (l.take q)) [y.toUInt8]) (.slice (some ⟨g, o + (q + 1), none⟩) (l.length - (q + 1)) (d - (q + 1))) (l.drop (q + 1)) W (crcOn_lt _ (crcV_lt _)) (hBD.heap h) (by rw [List.length_drop]; unfold maxLen; omega))
                have HO := Lib.hid (fun (W : World) (h : W.heap = W1.heap) => refOn_any (crcV (l.take q)) (.slice (some ⟨wr.heap.size, 0, none⟩) 1 1) [y.toUInt8] W (crcV_lt _) (hBA.heap h) (by simp [maxLen]))
                rw [crc_try l q y.toUInt8 hlt] at HD
                rw [hW1] at HD HO
                have HB3 := Lib.hid (hB2.out.trans (hb1.mono hB2.out.size))
                rw [hW1] at HB3
                have HYY := Lib.hid hyb
                clear hW1 hb1 hBA hBD hyb
                by_cases heq : crcV (l.set q y.toUInt8) = want
                · have t1 : ((crcV (l.set q y.toUInt8) : Int) == want) = true := by rw [heq]; exact beq_self_eq_true _
                  have HV' := Lib.hid (locV_found h1000 HNE.out hlt hy8 hno.out heq)
                  clear heq
                  go_wp2_with fail
                  go_region_with (first | (go_at_call 17; (with_reducible refine (HO.out _ ?hh).mono ?_); (case hh => rfl); rintro e w9 ⟨rfl, rfl⟩) | (go_at_call 17; (with_reducible refine (HD.out _ ?hh).mono ?_); (case hh => rfl); rintro e w9 ⟨rfl, rfl⟩))
                  all_goals go_wp2_with fail
                  all_goals go_ret3
                  all_goals exact ⟨by rw [HV'.out]; rfl, HB3.out.drew⟩
                · have t1 : ((crcV (l.set q y.toUInt8) : Int) == want) = false := by rw [beq_eq_false_iff_ne]; omega
                  have HNY := Lib.hid (show ∀ j, j < y + 1 → crcV (l.set q j.toUInt8) ≠ want from fun j hj => by
                    by_cases e : j = y
                    · subst e; exact heq
                    · exact hny.out j (by omega))
                  clear heq
                  go_wp2_with fail
                  go_region_with (first | (go_at_call 17; (with_reducible refine (HO.out _ ?hh).mono ?_); (case hh => rfl); rintro e w9 ⟨rfl, rfl⟩) | (go_at_call 17; (with_reducible refine (HD.out _ ?hh).mono ?_); (case hh => rfl); rintro e w9 ⟨rfl, rfl⟩))
                  all_goals go_wp2_with fail
                  all_goals
                    go_roundw
                    case rel => exact ⟨y + 1, by omega, by go_num, HNY, Lib.hid HB3.out.drew⟩
                    case measure => simp [intOf]; omega
            · obtain rfl : y = 256 := by omega
              have HNQ := Lib.hid (show ∀ j, j < q + 1 → ¬ chV l want j ≤ 255 from fun j hj => by
                by_cases e : j = q
                · subst e; exact no_byte hlt hny.out
                · exact hno.out j (by omega))
              clear hny
              go_wp2_with fail
              go_roundw
              case rel => exact ⟨q + 1, by omega, by go_num, HNQ, hB2⟩
              case measure => simp [intOf]; omega
        · obtain rfl : q = l.length := by omega
          have HV' := Lib.hid (locV_none h1000 HNE.out hno.out)
          clear hno
          go_wp2_with fail
          go_ret3
          exact ⟨by rw [HV'.out]; rfl, hB.out⟩
end Go.Proofs.YtadaohjphgpdnaaDoor
