/- The law RecordsEncodes: the walk. -/
import Derived.Test.YtnocmkjaifjgfaaRRefF
import Derived.Test.YtnocmkjaifjgfaaRShown
import Derived.Test.YtnocmkjaifjgfaaRLawF
namespace Go.Proofs.Ytnocmkjaifjgfaa.R
open Go.RowKit

set_option maxHeartbeats 4000000 in
set_option maxRecDepth 100000 in
theorem recordsEncodes_any (s : ByteArray) (u : Value) (l : List Rv) (w : World) (hs : s.size ≤ maxLen) (hu : ValsAt w u l) (hl : l.length ≤ maxLen) (hok : ∀ x ∈ l, x.Ok) (hm : ∀ x ∈ l, x.str.size ≤ maxLen ∧ x.list.length ≤ maxLen) :
    Calls Try.prog 3 #[.string s, u] w fun e w' => e = .returned (.bool true) ∧ Below w.heap.size w w' := by
  obtain ⟨au, du, rfl⟩ := hu.shape
  have HSW := Lib.hid (show ∀ W, Below w.heap.size w W → Calls Try.prog 9 #[] W fun e w' => e = .returned (.bool true) ∧ Below w.heap.size w w' from fun W hW => (shown_any W).mono fun e w' ⟨h1, h2⟩ => ⟨h1, hW.trans (h2.mono hW.size)⟩)
  have HF := Lib.hid (far_any _ l w hu hl hm)
  have HEN := Lib.hid (fun W (hW : Below w.heap.size w W) => encode_any s _ l W hs (hu.below hW (Nat.le_refl _)) hok hl)
  have HER := Lib.hid (fun W (hW : Below w.heap.size w W) => refEncode_any s _ l W hs (hu.below hW (Nat.le_refl _)) hok hl)
  have HSI := Lib.hid (fun W (hW : Below w.heap.size w W) => size_any s _ l W hs (hu.below hW (Nat.le_refl _)) hok hl)
  have HSR := Lib.hid (fun W (hW : Below w.heap.size w W) => refSize_any s _ l W hs (hu.below hW (Nat.le_refl _)) hok hl)
  unfold EncPost at HEN
  unfold EncCap at HER
  have hEL := encL_len s.data.toList l
  have HSM := Lib.hid (fun (W : World) (x y : Value) (h1 : BytesAt W x (encL s.data.toList l)) (h2 : BytesAt W y (encL s.data.toList l)) => same_any x y _ W h1 h2 (by unfold maxLen; omega))
  have HR := Lib.hid (Below.refl w.heap.size w)
  unfold maxLen at hs hl
  generalize encL s.data.toList l = E at *
  generalize encE s.data.toList l = er at *
  clear hu hok hm
  by_cases h1 : 70 < s.size
  · have d1 : decide ((70 : Int) < s.size) = true := decide_eq_true (by omega)
    go_enter Try.func3, Try.ntmps3
    go_wp2_with fail
    refine (HSW.out _ HR.out).mono ?_
    rintro e w2 ⟨rfl, hB⟩
    go_wp2_with fail
    go_ret
    exact ⟨rfl, hB⟩
  have d1 : decide ((70 : Int) < s.size) = false := decide_eq_false (by omega)
  clear h1
  go_enter Try.func3, Try.ntmps3
  go_wp2_with fail
  refine HF.out.mono ?_
  rintro e w2 ⟨fb, rfl, -, hB2⟩
  have HB2 := Lib.hid hB2
  clear hB2
  cases fb
  case true =>
    go_wp2_with fail
    refine (HSW.out _ HB2.out).mono ?_
    rintro e w5 ⟨rfl, hB5⟩
    go_wp2_with fail
    go_ret
    exact ⟨rfl, hB5⟩
  have HE2 := Lib.hid (HEN.out w2 HB2.out)
  go_wp2_with fail
  refine HE2.out.mono ?_
  rintro e w3 ⟨c, rfl, hc, hB3⟩
  have HB3 := Lib.hid (HB2.out.trans (hB3.mono HB2.out.size))
  have HC3 := Lib.hid hc
  obtain ⟨ac, dc, rfl⟩ := hc.shape
  have HE3 := Lib.hid (HER.out w3 HB3.out)
  clear hc hB3 HE2
  go_wp2_with fail
  refine HE3.out.mono ?_
  rintro e w4 ⟨a4, d4, rfl, hc4, -, hB4⟩
  have HB4 := Lib.hid (HB3.out.trans (hB4.mono HB3.out.size))
  have HC4 := Lib.hid (HC3.out.below hB4 (Nat.le_refl _))
  have HD4 := Lib.hid hc4
  have HE4 := Lib.hid (HSI.out w4 HB4.out)
  clear hc4 hB4 HE3
  go_wp2_with fail
  refine HE4.out.mono ?_
  rintro e w5 ⟨rfl, hB5⟩
  have HB5 := Lib.hid (HB4.out.trans (hB5.mono HB4.out.size))
  have HC5 := Lib.hid (HC4.out.below hB5 (Nat.le_refl _))
  have HD5 := Lib.hid (HD4.out.below hB5 (Nat.le_refl _))
  have HE5 := Lib.hid (HSR.out w5 HB5.out)
  clear hB5 HE4
  go_wp2_with fail
  refine HE5.out.mono ?_
  rintro e w6 ⟨rfl, hB6⟩
  have HB6 := Lib.hid (HB5.out.trans (hB6.mono HB5.out.size))
  have HS6 := Lib.hid (HSM.out w6 _ _ (HC5.out.below hB6 (Nat.le_refl _)) (HD5.out.below hB6 (Nat.le_refl _)))
  clear hB6 HE5
  go_wp2_with fail
  refine HS6.out.mono ?_
  rintro e w7 ⟨rfl, hB7⟩
  have HB7 := Lib.hid (HB6.out.trans (hB7.mono HB6.out.size))
  clear hB7 HS6
  go_wp2_with fail
  refine (HSW.out _ HB7.out).mono ?_
  rintro e w8 ⟨rfl, hB8⟩
  go_wp2_with fail
  go_ret
  exact ⟨rfl, hB8⟩
end Go.Proofs.Ytnocmkjaifjgfaa.R
