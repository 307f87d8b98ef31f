/- bytes.Equal, Load, Same; maps that are none. -/
import Derived.Test.YtaiaibpcpcndgaaBytes
namespace Go.Proofs.Ytaiaibpcpcndgaa
open Go.RowKit

theorem equal_any (v u : Value) (l m : List UInt8) (w : World) (hv : BytesAt w v l) (hu : BytesAt w u m) :
    Calls Try.prog 50 #[v, u] w fun e w' => e = .returned (.bool (l == m)) ∧ w = w' := by
  have h1 := hv.conv
  have h2 := hu.conv
  clear hv hu
  go_enter Try.func50, Try.ntmps50
  go_wp2
  go_ret
  exact ⟨ret_bool (by simp), rfl⟩

theorem bytes_no (v : Value) (w : World) (hc : Calls Try.prog 51 #[v] w fun e w' => e = .returned (.bool false) ∧ w = w') :
    Calls Try.prog 20 #[v] w fun e w' => e = .returned (.slice none 0 0) ∧ w = w' := by
  have HC := Lib.hid hc
  clear hc
  go_enter Try.func20, Try.ntmps20
  go_wp2_with fail
  refine HC.out.mono ?_
  rintro e w' ⟨rfl, rfl⟩
  go_wp2_with fail
  go_ret
  exact ⟨rfl, rfl⟩

theorem bit8 (c i : Nat) (hc : c < 256) : (bits BinOp.and IntKind.u8 ((c : Int) / 2 ^ i) 1 == 1) = c.testBit i := by
  have hd : c / 2 ^ i < 256 := Nat.lt_of_le_of_lt (Nat.div_le_self _ _) hc
  have e : ((c : Int) / 2 ^ i) = ((c / 2 ^ i : Nat) : Int) := by simp
  have e2 : bits BinOp.and IntKind.u8 ((c / 2 ^ i : Nat) : Int) ((1 : Nat) : Int) = _ := u8_and_nat _ 1 hd (by omega)
  rw [e, show (1 : Int) = ((1 : Nat) : Int) from rfl, e2, Nat.testBit, Nat.shiftRight_eq_div_pow, Nat.and_comm, Nat.one_and_eq_mod_two, Bool.eq_iff_iff, beq_iff_eq]
  simp
  omega

/-- What Load returns. -/
def LoadTo (n : Nat) (l : List UInt8) (w : World) (e : Ending) (w' : World) : Prop :=
  (loadOK n l = true → e = .returned (.tuple #[.pointer (some ⟨w.heap.size, 0, none⟩), .int .i64 0]) ∧ MapAt w' w.heap.size (bitsN l n)) ∧
  (loadOK n l = false → e = .returned (.tuple #[.pointer none, .int .i64 6])) ∧ Below w.heap.size w w' ∧ w.heap.size < w'.heap.size

set_option maxHeartbeats 1000000 in
theorem load_any (n : Nat) (v : Value) (l : List UInt8) (w : World) (hn : n ≤ 4096) (hv : BytesAt w v l) (hl : l.length ≤ maxLen) :
    Calls Try.prog 17 #[.int .i64 n, v] w (LoadTo n l w) := by
  unfold maxLen at hl
  have HN := Lib.hid (new_any n w hn)
  obtain ⟨c, hc⟩ : ∃ c, (n + 7) / 8 = c := ⟨_, rfl⟩
  have HBC := Lib.hid (fun w => byteCount_nat n c w hn hc)
  have HV := Lib.hid hv
  obtain ⟨s, d, rfl⟩ : ∃ s d, v = .slice s l.length d := by
    rcases hv with ⟨a, d, rfl, rfl⟩ | ⟨b, o, d, rfl, _⟩
    · exact ⟨a, d, rfl⟩
    · exact ⟨some ⟨b, o, none⟩, d, rfl⟩
  have HCC := Lib.hid hc
  have hc8 : c ≤ 512 := by omega
  have hcn : n ≤ 8 * c := by omega
  clear hc hv
  by_cases hlen : l.length = c
  · have hne : ((l.length : Int) != c) = false := by simp; omega
    have HLEN := Lib.hid hlen
    clear hlen
    go_enter Try.func17, Try.ntmps17
    go_wp2_with fail
    refine HN.out.mono ?_
    rintro e w1 ⟨rfl, hm, hb, hs⟩
    have HS := Lib.hid hs
    have hlt1 : w.heap.size < w1.heap.size := by omega
    clear hs
    go_wp2_with fail
    refine (HBC.out _).mono ?_
    rintro e w1' ⟨rfl, rfl⟩
    go_wp2_with fail
    rw [← bitsK_zero l n] at hm
    have HM := Lib.hid hm
    clear hm
    go_loopw [23] (fun i wr => ∃ k : Nat, k ≤ n ∧ i = .int .i64 k ∧ Hid (MapAt wr w.heap.size (bitsK l n k)) ∧ Below w.heap.size w wr ∧ w.heap.size < wr.heap.size) (fun i _ => n - (intOf i).toNat)
    case atStart => exact ⟨0, Nat.zero_le _, rfl, HM, hb, hlt1⟩
    case round =>
      obtain ⟨k, hk, rfl, hm, hbel, hlt2⟩ := hrel
      by_cases hlt : k < n
      · have hvb := HV.out.below hbel
        rcases hvb with ⟨a, d', hva, hl0⟩ | ⟨b, o, d', hvb, hbl, hcell⟩
        · have := HLEN.out; rw [hl0] at this; simp at this; omega
        · obtain ⟨rfl, rfl⟩ : s = some ⟨b, o, none⟩ ∧ d = d' := by cases hvb; exact ⟨rfl, rfl⟩
          have hk8 : k / 8 < l.length := by have := HLEN.out; omega
          have hcl := hcell (k / 8) hk8
          have HP := Lib.hid (put_any w.heap.size (bitsK l n k) k (bitB l k) wr hm.out (by rw [bitsK_len]; exact hlt))
          have hby : (bits BinOp.and IntKind.u8 ((l[k / 8].toNat : Int) / 2 ^ (k % 8)) 1 == 1) = bitB l k := by
            rw [bit8 _ _ (by have := (l[k / 8]).toNat_lt; omega)]
            unfold bitB
            rw [List.getD_eq_getElem?_getD, List.getElem?_eq_getElem hk8]; rfl
          clear hcell
          have hby3 : l[k / 8].toNat < 256 := by have := (l[k / 8]).toNat_lt; omega
          generalize l[k / 8].toNat = z at *
          clear hvb
          go_wp2_with fail
          refine HP.out.mono ?_
          rintro e w2 ⟨rfl, hu⟩
          have hs2 := hu.size
          have HU : Hid (MapAt w2 w.heap.size (bitsK l n (k + 1))) := Lib.hid (by rw [← bitsK_step]; exact hu.map)
          have hb2 : Below w.heap.size w w2 := hbel.trans (hu.kept.toBelow (by omega) (fun k h => by omega))
          have hlt3 : w.heap.size < w2.heap.size := by omega
          clear hu hs2
          go_wp2_with fail
          go_roundw
          case rel => exact ⟨k + 1, by omega, by go_num, HU, hb2, hlt3⟩
          case measure => simp [intOf]; omega
      · obtain rfl : k = n := by omega
        have HB := Lib.hid (bytes_any w.heap.size (bitsK l k k) wr hm.out)
        go_wp2_with fail
        refine HB.out.mono ?_
        rintro e w3 ⟨u, rfl, -, hu, hb3⟩
        have HE := Lib.hid (equal_any u (.slice s l.length d) (bytesL (bitsK l k k)) l w3 hu (HV.out.below (hbel.trans (hb3.mono (by omega)))))
        have HBel := Lib.hid (hbel.trans (hb3.mono (by omega)))
        have hs3 : w.heap.size < w3.heap.size := by have := hb3.size; omega
        have HM3 := Lib.hid (hm.out.below hb3 hlt2)
        have HOK : Hid (loadOK k l = (bytesL (bitsK l k k) == l)) := Lib.hid (by unfold loadOK; rw [HLEN.out, HCC.out]; simp [bitsN])
        cases hx : bytesL (bitsK l k k) == l with
        | true =>
          rw [hx] at HE HOK
          clear hx
          go_wp2_with fail
          refine HE.out.mono ?_
          rintro e w3' ⟨rfl, rfl⟩
          go_wp2_with fail
          go_ret2
          exact ⟨fun _ => ⟨rfl, HM3.out⟩, (fun h => by rw [HOK.out] at h; cases h), HBel.out, hs3⟩
        | false =>
          rw [hx] at HE HOK
          clear hx
          go_wp2_with fail
          refine HE.out.mono ?_
          rintro e w3' ⟨rfl, rfl⟩
          go_wp2_with fail
          go_ret2
          exact ⟨(fun h => by rw [HOK.out] at h; cases h), fun _ => rfl, HBel.out, hs3⟩
  · have hne : ((l.length : Int) != c) = true := by simp; omega
    have HOK : Hid (loadOK n l = false) := Lib.hid (by unfold loadOK; rw [HCC.out]; simp [hlen])
    clear hlen
    go_enter Try.func17, Try.ntmps17
    go_wp2_with fail
    refine HN.out.mono ?_
    rintro e w1 ⟨rfl, hm, hb, hs⟩
    have hlt1 : w.heap.size < w1.heap.size := by omega
    clear hs
    go_wp2_with fail
    refine (HBC.out _).mono ?_
    rintro e w1' ⟨rfl, rfl⟩
    go_wp2_with fail
    go_ret2
    exact ⟨(fun h => by rw [HOK.out] at h; cases h), fun _ => rfl, hb, hlt1⟩

theorem load_no (n : Int) (v : Value) (w : World) (hn : n < 0 ∨ 4096 < n) :
    Calls Try.prog 17 #[.int .i64 n, v] w fun e w' => e = .returned (.tuple #[.pointer none, .int .i64 7]) ∧ w = w' := by
  have HN := Lib.hid (new_no n w hn)
  clear hn
  go_enter Try.func17, Try.ntmps17
  go_wp2_with fail
  refine HN.out.mono ?_
  rintro e w1 ⟨rfl, rfl⟩
  go_wp2_with fail
  go_ret2
  exact ⟨rfl, rfl⟩
end Go.Proofs.Ytaiaibpcpcndgaa
