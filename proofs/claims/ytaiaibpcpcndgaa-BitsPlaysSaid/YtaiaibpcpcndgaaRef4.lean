/- The reference's Load and Run. -/
import Derived.Test.YtaiaibpcpcndgaaRef3
import Derived.Deep.LoopGhost
namespace Go.Proofs.Ytaiaibpcpcndgaa
open Go.RowKit

theorem bit_tmod (z i : Nat) : (((z : Int) / 2 ^ i).tmod 2 == 1) = z.testBit i := by
  have e : ((z : Int) / 2 ^ i) = ((z / 2 ^ i : Nat) : Int) := by simp
  have e2 : (((z / 2 ^ i : Nat) : Int)).tmod 2 = ((z / 2 ^ i % 2 : Nat) : Int) := by
    rw [Int.tmod_eq_emod_of_nonneg (Int.natCast_nonneg _)]; simp
  rw [e, e2, Nat.testBit, Nat.shiftRight_eq_div_pow, Nat.one_and_eq_mod_two, Bool.eq_iff_iff, beq_iff_eq]
  simp
  omega

theorem bitB_at (l : List UInt8) (j i : Nat) (hi : i < 8) (hj : j < l.length) : bitB l (8 * j + i) = (l[j]).toNat.testBit i := by
  unfold bitB
  rw [show (8 * j + i) / 8 = j from by omega, show (8 * j + i) % 8 = i from by omega, List.getD_eq_getElem?_getD, List.getElem?_eq_getElem hj]; rfl
theorem loadOK_iff {n : Nat} {l : List UInt8} (hl : l.length = (n + 7) / 8) : loadOK n l = true ↔ ∀ j, n ≤ j → j < 8 * l.length → bitB l j = false := by
  unfold loadOK
  rw [decide_eq_true hl, Bool.true_and, beq_iff_eq]
  constructor
  · intro h j h1 h2
    rw [← h, show bytesL (bitsN l n) = bytesN (bitsN l n) ((n + 7) / 8) from by unfold bytesL; rw [bitsN_len], bitB_bytesN _ _ _ (by omega), bitsN_get, decide_eq_false (by omega), Bool.false_and]
  · intro h
    apply List.ext_getElem (by rw [bytesL_len, bitsN_len, hl])
    intro j h1 h2
    rw [bytesL_len, bitsN_len] at h1
    have e : (bytesL (bitsN l n))[j]? = some (UInt8.ofNat (byteV (bitsN l n) j)) := by
      unfold bytesL; rw [bitsN_len]; exact bytesN_get _ _ _ h1
    rw [List.getElem?_eq_getElem (by rw [bytesL_len, bitsN_len]; exact h1)] at e
    rw [Option.some.inj e]
    apply UInt8.toNat.inj
    rw [ofNat_toNat _ (byteV_lt _ _)]
    apply Nat.eq_of_testBit_eq
    intro i
    by_cases hi : i < 8
    · rw [byteV_bit _ _ _ hi, bitsN_get, ← bitB_at l j i hi h2]
      by_cases hn : 8 * j + i < n
      · rw [decide_eq_true hn, Bool.true_and]
      · rw [decide_eq_false hn, Bool.false_and, h _ (by omega) (by omega)]
    · rw [byteV_high _ _ _ (by omega)]
      symm
      apply Nat.testBit_lt_two_pow
      have := (l[j]).toNat_lt
      exact Nat.lt_of_lt_of_le this (by have : (2 : Nat) ^ 8 ≤ 2 ^ i := Nat.pow_le_pow_right (by omega) (by omega)
                                        omega)
theorem bitsK_past (l : List UInt8) (n k : Nat) (h : n ≤ k) : bitsK l n k = bitsN l n := by
  apply list_ext (by rw [bitsK_len, bitsN_len])
  intro i hi
  rw [bitsK_len] at hi
  rw [bitsK_get, bitsN_get, decide_eq_true (show i < k by omega), Bool.true_and]
theorem bitsK_on (l : List UInt8) (n k : Nat) (h : n ≤ k) : bitsK l n (k + 1) = bitsK l n k := by rw [bitsK_past _ _ _ h, bitsK_past _ _ _ (by omega)]

/-- What the reference's Load returns. -/
def RLoadTo (n : Nat) (l : List UInt8) (w : World) (e : Ending) (w' : World) : Prop :=
  (loadOK n l = true → ∃ v, e = .returned (.tuple #[v, .int .i64 0]) ∧ BoolsAt w' v (bitsN l n)) ∧ (loadOK n l = false → e = .returned (.tuple #[.slice none 0 0, .int .i64 6])) ∧ Below w.heap.size w w'

set_option maxHeartbeats 1000000 in
theorem refLoad_any (n : Nat) (v : Value) (l : List UInt8) (w : World) (hn : n ≤ 4096) (hv : BytesAt w v l) (hl : l.length ≤ maxLen) :
    Calls Try.prog 18 #[.int .i64 n, v] w (RLoadTo n l w) := by
  unfold maxLen at hl
  have HN := Lib.hid (refNew_any n w hn)
  have HV := Lib.hid hv
  obtain ⟨s, d, rfl⟩ : ∃ s d, v = .slice s l.length d := by
    rcases hv with ⟨a, d, rfl, rfl⟩ | ⟨b, o, d, rfl, _⟩
    · exact ⟨a, d, rfl⟩
    · exact ⟨some ⟨b, o, none⟩, d, rfl⟩
  clear hv
  by_cases hlen : l.length = (n + 7) / 8
  · have hne : ((l.length : Int) != ((n : Int) + 7) / 8) = false := by rw [bne_eq_false_iff_eq]; omega
    have hlb : l.length ≤ 512 := by omega
    have hln : n ≤ 8 * l.length := by omega
    have HIFF := Lib.hid (loadOK_iff hlen)
    clear hlen
    go_enter Try.func18, Try.ntmps18
    go_wp2_with fail
    refine HN.out.mono ?_
    rintro e w1 ⟨rfl, hrow, hB⟩
    have hrow0 : Hid (w1.ownsRow w.heap.size 4 1 (.slice (some ⟨w.heap.size, 0, none⟩) n n) n (boolCells (bitsK l n 0))) := Lib.hid (by rw [bitsK_zero]; exact hrow)
    clear hrow
    go_wp2_with fail
    go_loopw [8] (fun i wr => ∃ k : Nat, k ≤ 8 * l.length ∧ i = .int .i64 k ∧ Hid (wr.ownsRow w.heap.size 4 1 (.slice (some ⟨w.heap.size, 0, none⟩) n n) n (boolCells (bitsK l n k))) ∧ Below w.heap.size w wr ∧ Hid (∀ j, n ≤ j → j < k → bitB l j = false)) (fun i _ => 8 * l.length - (intOf i).toNat)
    case atStart => exact ⟨0, Nat.zero_le _, rfl, hrow0, hB, Lib.hid (fun j h1 h2 => by omega)⟩
    case round =>
      obtain ⟨k, hk, rfl, hr, hbel, hno⟩ := hrel
      by_cases hlt : k < 8 * l.length
      · rcases HV.out.below hbel with ⟨a, d', hva, hl0⟩ | ⟨b, o, d', hvb, hbl, hcell⟩
        · rw [hl0] at hlt; simp at hlt
        · obtain ⟨rfl, rfl⟩ : s = some ⟨b, o, none⟩ ∧ d = d' := by cases hvb; exact ⟨rfl, rfl⟩
          have hk8 : k / 8 < l.length := by omega
          have hcl := hcell (k / 8) hk8
          have hby := bit_tmod (l[k / 8].toNat) (k % 8)
          have hbb : (l[k / 8].toNat).testBit (k % 8) = bitB l k := by
            have := bitB_at l (k / 8) (k % 8) (by omega) hk8
            rw [Nat.div_add_mod] at this; exact this.symm
          rw [hbb] at hby
          have hz256 : l[k / 8].toNat < 256 := by have := (l[k / 8]).toNat_lt; omega
          clear hcell hbb hvb
          generalize l[k / 8].toNat = z at *
          by_cases hkn : k < n
          · have hcell : ∃ y, wr.cell? ⟨w.heap.size, k, none⟩ = some y := by
              rw [hr.out.cellAt k (by omega)]; exact ⟨_, List.getElem?_eq_getElem (by rw [boolCells_len, bitsK_len]; omega)⟩
            obtain ⟨y, hcell⟩ := hcell
            have hfz := hr.out.frozenAt k
            have HS := Lib.hid (bitsK_step l n k)
            go_wp2_with fail
            go_roundw
            case rel =>
              have hst := (hr.out.stored k (.bool (bitB l k))).1
              rw [boolCells_set, HS.out] at hst
              exact ⟨k + 1, by omega, by go_num, Lib.hid hst, hbel.setCell (p := ⟨w.heap.size, k, none⟩) (Nat.le_refl _) _, Lib.hid (fun j h1 h2 => by omega)⟩
            case measure => simp [intOf]; omega
          · cases hb : bitB l k with
            | true =>
              rw [hb] at hby
              have HX : Hid (loadOK n l = false) := Lib.hid (by
                cases hx : loadOK n l with
                | false => rfl
                | true => rw [HIFF.out.1 hx k (by omega) hlt] at hb; cases hb)
              clear hb
              go_wp2_with fail
              go_ret2
              exact ⟨(fun h => by rw [HX.out] at h; cases h), fun _ => rfl, hbel⟩
            | false =>
              rw [hb] at hby
              have HNO : Hid (∀ j, n ≤ j → j < k + 1 → bitB l j = false) := Lib.hid (fun j h1 h2 => by
                by_cases e : j = k
                · subst e; exact hb
                · exact hno.out j h1 (by omega))
              have HR : Hid (wr.ownsRow w.heap.size 4 1 (.slice (some ⟨w.heap.size, 0, none⟩) n n) n (boolCells (bitsK l n (k + 1)))) := Lib.hid (by rw [bitsK_on l n k (by omega)]; exact hr.out)
              clear hb
              go_wp2_with fail
              go_roundw
              case rel => exact ⟨k + 1, by omega, by go_num, HR, hbel, HNO⟩
              case measure => simp [intOf]; omega
      · obtain rfl : k = 8 * l.length := by omega
        have HX : Hid (loadOK n l = true) := Lib.hid (HIFF.out.2 hno.out)
        have HBL : Hid (BoolsAt wr (.slice (some ⟨w.heap.size, 0, none⟩) n n) (bitsN l n)) := Lib.hid (by
          have h1 := hr.out
          rw [bitsK_past l n _ hln] at h1
          have := boolsAt_of_row (L := bitsN l n) (v := .slice (some ⟨w.heap.size, 0, none⟩) n n) (by rw [bitsN_len]; exact h1)
          exact this)
        go_wp2_with fail
        go_ret2
        exact ⟨fun _ => ⟨_, rfl, HBL.out⟩, (fun h => by rw [HX.out] at h; cases h), hbel⟩
  · have hne : ((l.length : Int) != ((n : Int) + 7) / 8) = true := by rw [bne_iff_ne]; omega
    have HX : Hid (loadOK n l = false) := Lib.hid (by unfold loadOK; rw [decide_eq_false hlen]; rfl)
    clear hlen
    go_enter Try.func18, Try.ntmps18
    go_wp2_with fail
    refine HN.out.mono ?_
    rintro e w1 ⟨rfl, -, hB⟩
    go_wp2_with fail
    go_ret2
    exact ⟨(fun h => by rw [HX.out] at h; cases h), fun _ => rfl, hB⟩
theorem refLoad_no (n : Int) (v : Value) (w : World) (hn : n < 0 ∨ 4096 < n) :
    Calls Try.prog 18 #[.int .i64 n, v] w fun e w' => e = .returned (.tuple #[.slice none 0 0, .int .i64 7]) ∧ w = w' := by
  have HN := Lib.hid (refNew_no n w hn)
  clear hn
  go_enter Try.func18, Try.ntmps18
  go_wp2_with fail
  refine HN.out.mono ?_
  rintro e w1 ⟨rfl, rfl⟩
  go_wp2_with fail
  go_ret2
  exact ⟨rfl, rfl⟩

/-- Between two rounds of the inner loop: all bits so far are v, or the range is none. -/
def GoodRel (L : List Bool) (v : Bool) (f q m : Nat) (g : Bool) : Prop := (g = true ∧ ∀ k, k < q → L.getD (f + k) false = v) ∨ (g = false ∧ allV L v f m = false)
set_option maxHeartbeats 1000000 in
theorem refRun_any (u : Value) (L : List Bool) (a n : Int) (v : Bool) (w : World) (h : BoolsAt w u L) (hL : L.length ≤ 4096) (l2 : -9223372036854775808 ≤ n) (l3 : n ≤ 9223372036854775807) :
    Calls Try.prog 45 #[u, .int .i64 a, .int .i64 n, .bool v] w fun e w' => e = .returned (.tuple #[.int .i64 (runN L a n v), .int .i64 (runE L a n v)]) ∧ w = w' := by
  obtain ⟨s, d, rfl⟩ := h.val
  cases hr : inR L.length a 0 with
  | false =>
    have HF := Lib.hid (show runN L a n v = 0 by unfold runN; rw [hr]; rfl)
    have HG := Lib.hid (show runE L a n v = 7 by unfold runE; rw [hr]; rfl)
    by_cases h0 : a < 0
    · have d1 : decide (a < 0) = true := decide_eq_true h0
      clear hr h
      go_enter Try.func45, Try.ntmps45
      go_wp2
      go_ret2
      exact ⟨ret2 HF.out.symm HG.out.symm, rfl⟩
    · have d1 : decide (a < 0) = false := decide_eq_false h0
      have d2 : decide ((L.length : Int) < a) = true := decide_eq_true (by have := inR_zero_not hr; omega)
      clear hr h
      go_enter Try.func45, Try.ntmps45
      go_wp2
      go_ret2
      exact ⟨ret2 HF.out.symm HG.out.symm, rfl⟩
  | true =>
    obtain ⟨i, k0, rfl, hk0, hik⟩ := inR_two hr
    have d2 : decide ((L.length : Int) < i) = false := decide_eq_false (by omega)
    have d3 : decide (L.length < i) = false := decide_eq_false (by omega)
    have d0 : decide ((i : Int) < 0) = false := decide_eq_false (by omega)
    by_cases hn : n < 1
    · have HF := Lib.hid (show runN L i n v = 0 by unfold runN; rw [hr, if_pos rfl, if_pos hn])
      have HG := Lib.hid (show runE L i n v = 2 by unfold runE; rw [hr, if_pos rfl, if_pos hn])
      have dn : decide (n < 1) = true := by simpa using hn
      have hi : i ≤ L.length := by omega
      clear hr h hik hk0
      go_enter Try.func45, Try.ntmps45
      go_wp2
      go_ret2
      exact ⟨ret2 HF.out.symm HG.out.symm, rfl⟩
    · obtain ⟨m, rfl⟩ : ∃ m : Nat, n = m := ⟨n.toNat, by omega⟩
      have HF := Lib.hid (show runN L i m v = oN (runO L v i m) by unfold runN; rw [hr, if_pos rfl, if_neg hn]; rfl)
      have HG := Lib.hid (show runE L i m v = oE (runO L v i m) by unfold runE; rw [hr, if_pos rfl, if_neg hn]; rfl)
      have HB := Lib.hid h
      have hi : i ≤ L.length := by omega
      have hm1 : 1 ≤ m := by omega
      have dn : decide ((m : Int) < 1) = false := by simp; omega
      clear hr h hik hk0 hn
      go_enter Try.func45, Try.ntmps45
      go_wp2_with fail
      go_loopg [10] (L.length - i) (fun g f10 wx => ∃ f : Nat, i ≤ f ∧ f + g = L.length ∧ f10 = .int .i64 f ∧ wx = w ∧ Hid (∀ j, i ≤ j → j < f → allV L v j m = false))
      case atStart => exact ⟨i, Nat.le_refl _, by omega, rfl, rfl, Lib.hid (fun j h1 h2 => by omega)⟩
      case round =>
        obtain ⟨f, hf0, hfg, rfl, rfl, hno⟩ := hrel
        have HFG := Lib.hid hfg
        have hfl : f ≤ L.length := by omega
        clear hfg
        by_cases hlt : f + m ≤ L.length
        · have d1 : decide ((f : Int) ≤ L.length - m) = true := by simp; omega
          go_wp2_with fail
          go_loopg [11, 12] m (fun gh g11 f12 wx => ∃ (q : Nat) (g : Bool), q + gh = m ∧ f12 = .int .i64 ((f + q : Nat) : Int) ∧ g11 = .bool g ∧ wx = wr ∧ Hid (GoodRel L v f q m g))
          case atStart => exact ⟨0, true, by omega, rfl, rfl, rfl, Lib.hid (.inl ⟨rfl, fun k hk => by omega⟩)⟩
          case round =>
            obtain ⟨q, g, hqg, rfl, rfl, hww, hg⟩ := hrel
            have HQG := Lib.hid hqg
            have hqm : q ≤ m := by omega
            clear hqg
            subst hww
            cases g with
            | false =>
              have HA : Hid (allV L v f m = false) := Lib.hid (by rcases hg.out with ⟨h, _⟩ | ⟨_, h⟩
                                                                  · cases h
                                                                  · exact h)
              have HN : Hid (∀ j, i ≤ j → j < f + 1 → allV L v j m = false) := Lib.hid (fun j h1 h2 => by
                by_cases e : j = f
                · subst e; exact HA.out
                · exact hno.out j h1 (by omega))
              by_cases hq : q < m
              · go_wp2_with fail
                go_roundg (L.length - (f + 1))
                case measure => have := HFG.out; omega
                case rel => exact ⟨f + 1, by omega, by omega, by go_num, rfl, HN⟩
              · go_wp2_with fail
                go_roundg (L.length - (f + 1))
                case measure => have := HFG.out; omega
                case rel => exact ⟨f + 1, by omega, by omega, by go_num, rfl, HN⟩
            | true =>
              have HA : Hid (∀ k, k < q → L.getD (f + k) false = v) := Lib.hid (by rcases hg.out with ⟨_, h⟩ | ⟨h, _⟩
                                                                                   · exact h
                                                                                   · cases h)
              by_cases hq : q < m
              · obtain ⟨b, o, rfl, hb, hcell⟩ := HB.out.at_ (f + q) (by omega)
                by_cases hx : L.getD (f + q) false = v
                · have HA2 : Hid (GoodRel L v f (q + 1) m true) := Lib.hid (.inl ⟨rfl, fun k hk => by
                    by_cases e : k = q
                    · subst e; exact hx
                    · exact HA.out k (by omega)⟩)
                  rw [hx] at hcell
                  clear hx
                  have hv : (v == v) = true := beq_self_eq_true v
                  go_wp2_with fail
                  go_roundg (m - (q + 1))
                  case measure => have := HQG.out; omega
                  case rel => exact ⟨q + 1, true, by omega, by go_num, rfl, rfl, HA2⟩
                · have HA2 : Hid (GoodRel L v f (q + 1) m false) := Lib.hid (.inr ⟨rfl, allV_false hq hx⟩)
                  have hv : (L.getD (f + q) false == v) = false := beq_eq_false_iff_ne.2 hx
                  clear hx
                  generalize L.getD (f + q) false = x at *
                  go_wp2_with fail
                  go_roundg (m - (q + 1))
                  case measure => have := HQG.out; omega
                  case rel => exact ⟨q + 1, false, by omega, by go_num, rfl, rfl, HA2⟩
              · obtain rfl : q = m := by omega
                have HO := Lib.hid (runO_some hf0 hlt (allV_true HA.out) hno.out)
                go_wp2_with fail
                go_ret2
                exact ⟨ret2 (by rw [HF.out, HO.out]; rfl) (by rw [HG.out, HO.out]; rfl), rfl⟩
        · have d1 : decide ((f : Int) ≤ L.length - m) = false := by simp; omega
          have HO := Lib.hid (runO_none (L := L) (v := v) (a := i) (n := m) (fun j h1 h2 => hno.out j h1 (by omega)))
          go_wp2_with fail
          go_ret2
          exact ⟨ret2 (by rw [HF.out, HO.out]; rfl) (by rw [HG.out, HO.out]; rfl), rfl⟩
end Go.Proofs.Ytaiaibpcpcndgaa
