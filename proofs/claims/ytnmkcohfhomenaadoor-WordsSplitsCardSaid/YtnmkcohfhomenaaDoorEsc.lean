/- The reference's hex, escaped and Quote. -/
import Derived.Test.YtnmkcohfhomenaaDoorQuote
namespace Go.Proofs.YtnmkcohfhomenaaDoor
open Go.RowKit

theorem hexR_any (n : Nat) (h : n < 16) (w : World) :
    Calls Tryd.prog 72 #[.int .u8 n] w fun e w' => e = .returned (.int .u8 (hexC n).toNat) ∧ w = w' := by
  have HX := Lib.hid (hexC_val n h)
  have hi := hex_index n (by omega) (by omega) w
  go_enter Tryd.func72, Tryd.ntmps72
  go_wp2
  go_ret
  exact ⟨congrArg (fun z => Ending.returned (.int .u8 z)) HX.out.symm, rfl⟩

/-- 'string([]byte{a, b})'. -/
theorem conv_pair (a b : UInt8) (W : World) :
    (convert 38 9 (.slice (some ⟨W.heap.size, 0, none⟩) 2 2)).run Tryd.prog (W.alloc (.cells #[.int .u8 a.toNat, .int .u8 b.toNat] 5)) = .ok (.string ⟨#[a, b]⟩) (W.alloc (.cells #[.int .u8 a.toNat, .int .u8 b.toNat] 5)) := by
  refine run_convert_bytes_back _ _ _ _ ⟨W.heap.size, 0, none⟩ 2 [a, b] Tryd.underlying38 Tryd.underlying5 Tryd.underlying9 fun j hj => ?_
  have hj2 : j = 0 ∨ j = 1 := by simp at hj; omega
  rcases hj2 with rfl | rfl
  · exact World.news_of_block (cs := #[.int .u8 a.toNat, .int .u8 b.toNat]) (heap_alloc_new W _) 0 _ rfl
  · exact World.news_of_block (cs := #[.int .u8 a.toNat, .int .u8 b.toNat]) (heap_alloc_new W _) 1 _ rfl

def EscPost (c : UInt8) (w : World) (e : Ending) (w' : World) : Prop := e = .returned (.string ⟨(encB c).toArray⟩) ∧ Below w.heap.size w w'
theorem escPost_of {c : UInt8} {w w' : World} {x : ByteArray} (h : x.data.toList = encB c) (hB : Below w.heap.size w w') : EscPost c w (.returned (.string x)) w' :=
  ⟨congrArg (fun z => Ending.returned (.string z)) (of_list x _ h), hB⟩

set_option maxHeartbeats 1000000 in
set_option maxRecDepth 100000 in
theorem escR_any (c : UInt8) (w : World) :
    Calls Tryd.prog 47 #[.int .u8 c.toNat] w fun e w' => e = .returned (.string ⟨(encB c).toArray⟩) ∧ Below w.heap.size w w' := by
  have h255 := c.toNat_lt
  cases hp : plainB c.toNat with
  | true =>
    have HF : Hid (encB c = [c]) := Lib.hid (by unfold encB; rw [if_pos hp])
    have hcv := conv_one c c.toNat rfl w
    have HP := Lib.hid hp
    clear hp
    go_enter Tryd.func47, Tryd.ntmps47
    go_wp2_with fail
    refine (plain_any _ _).mono ?_
    rintro e w' ⟨rfl, rfl⟩
    rw [HP.out]
    go_wp2
    go_ret
    exact ⟨congrArg (fun z : List UInt8 => Ending.returned (.string ⟨z.toArray⟩)) HF.out.symm, (Below.refl _ _).alloc (Nat.le_refl _) _⟩
  | false =>
    obtain ⟨n, hn⟩ : ∃ n, c.toNat = n := ⟨_, rfl⟩
    have HE : Hid (encB c = if n = 34 then [92, 34] else if n = 92 then [92, 92] else if n = 10 then [92, 110] else if n = 13 then [92, 114] else if n = 9 then [92, 116] else [92, 120, hexC (n / 16), hexC (n % 16)]) := Lib.hid (by
      unfold encB; rw [if_neg (by rw [hp]; decide), hn])
    have HP : Hid (plainB (n : Int) = false) := Lib.hid (by rw [← hn]; exact hp)
    rw [hn] at h255 ⊢
    clear hp hn
    by_cases h34 : n = 34
    · have HF : Hid (encB c = [92, 34]) := Lib.hid (by rw [HE.out, if_pos h34])
      subst h34
      go_enter Tryd.func47, Tryd.ntmps47
      go_wp2_with fail
      refine (plain_any _ _).mono ?_
      rintro e w' ⟨rfl, rfl⟩
      rw [show plainB 34 = false by decide]
      go_wp2
      go_ret
      exact ⟨congrArg (fun z : List UInt8 => Ending.returned (.string ⟨z.toArray⟩)) HF.out.symm, Below.refl _ _⟩
    · have b34 : ((n : Int) == 34) = false := by rw [beq_eq_false_iff_ne]; omega
      by_cases h92 : n = 92
      · have HF : Hid (encB c = [92, 92]) := Lib.hid (by rw [HE.out, if_neg h34, if_pos h92])
        subst h92
        go_enter Tryd.func47, Tryd.ntmps47
        go_wp2_with fail
        refine (plain_any _ _).mono ?_
        rintro e w' ⟨rfl, rfl⟩
        rw [show plainB 92 = false by decide]
        go_wp2
        go_ret
        exact ⟨congrArg (fun z : List UInt8 => Ending.returned (.string ⟨z.toArray⟩)) HF.out.symm, Below.refl _ _⟩
      · have b92 : ((n : Int) == 92) = false := by rw [beq_eq_false_iff_ne]; omega
        by_cases h10 : n = 10
        · have HF : Hid (encB c = [92, 110]) := Lib.hid (by rw [HE.out, if_neg h34, if_neg h92, if_pos h10])
          subst h10
          go_enter Tryd.func47, Tryd.ntmps47
          go_wp2_with fail
          refine (plain_any _ _).mono ?_
          rintro e w' ⟨rfl, rfl⟩
          rw [show plainB 10 = false by decide]
          go_wp2
          go_ret
          exact ⟨congrArg (fun z : List UInt8 => Ending.returned (.string ⟨z.toArray⟩)) HF.out.symm, Below.refl _ _⟩
        · have b10 : ((n : Int) == 10) = false := by rw [beq_eq_false_iff_ne]; omega
          by_cases h13 : n = 13
          · have HF : Hid (encB c = [92, 114]) := Lib.hid (by rw [HE.out, if_neg h34, if_neg h92, if_neg h10, if_pos h13])
            subst h13
            go_enter Tryd.func47, Tryd.ntmps47
            go_wp2_with fail
            refine (plain_any _ _).mono ?_
            rintro e w' ⟨rfl, rfl⟩
            rw [show plainB 13 = false by decide]
            go_wp2
            go_ret
            exact ⟨congrArg (fun z : List UInt8 => Ending.returned (.string ⟨z.toArray⟩)) HF.out.symm, Below.refl _ _⟩
          · have b13 : ((n : Int) == 13) = false := by rw [beq_eq_false_iff_ne]; omega
            by_cases h9 : n = 9
            · have HF : Hid (encB c = [92, 116]) := Lib.hid (by rw [HE.out, if_neg h34, if_neg h92, if_neg h10, if_neg h13, if_pos h9])
              subst h9
              go_enter Tryd.func47, Tryd.ntmps47
              go_wp2_with fail
              refine (plain_any _ _).mono ?_
              rintro e w' ⟨rfl, rfl⟩
              rw [show plainB 9 = false by decide]
              go_wp2
              go_ret
              exact ⟨congrArg (fun z : List UInt8 => Ending.returned (.string ⟨z.toArray⟩)) HF.out.symm, Below.refl _ _⟩
            · have b9 : ((n : Int) == 9) = false := by rw [beq_eq_false_iff_ne]; omega
              have HF : Hid (encB c = [92, 120, hexC (n / 16), hexC (n % 16)]) := Lib.hid (by rw [HE.out, if_neg h34, if_neg h92, if_neg h10, if_neg h13, if_neg h9])
              have x1 : ((n / 16 : Nat) : Int) = (n : Int) / 16 := by omega
              have x2 : ((n % 16 : Nat) : Int) = (n : Int) % 16 := by omega
              have H1 := Lib.hid (fun w => hexR_any (n / 16) (by omega) w)
              have H2 := Lib.hid (fun w => hexR_any (n % 16) (by omega) w)
              rw [x1] at H1
              rw [x2] at H2
              clear x1 x2
              have HJ : Hid ((⟨#[92, 120]⟩ : ByteArray) ++ ⟨#[hexC (n / 16), hexC (n % 16)]⟩ = ⟨(encB c).toArray⟩) := Lib.hid (by rw [HF.out]; rfl)
              have hcv := conv_pair (hexC (n / 16)) (hexC (n % 16)) w
              clear h34 h92 h10 h13 h9
              go_enter Tryd.func47, Tryd.ntmps47
              go_wp2_with fail
              refine (plain_any _ _).mono ?_
              rintro e w' ⟨rfl, rfl⟩
              rw [HP.out]
              go_wp2_with fail
              refine (H1.out _).mono ?_
              rintro e w' ⟨rfl, rfl⟩
              go_wp2_with fail
              refine (H2.out _).mono ?_
              rintro e w' ⟨rfl, rfl⟩
              go_wp2_with fail
              go_ret
              exact ⟨congrArg (fun z => Ending.returned (.string z)) HJ.out, (Below.refl _ _).alloc (Nat.le_refl _) _⟩
end Go.Proofs.YtnmkcohfhomenaaDoor
