/- firstByte at \x and two digits. -/
import Derived.Test.YtnmkcohfhomenaaDoorFirstX
namespace Go.Proofs.YtnmkcohfhomenaaDoor
open Go.RowKit

theorem Env.drew {w : World} (h : Env w) : Env w.drew := h.below (B := 9) ((Below.refl 9 w).drew) (Nat.le_refl _)

def firstRes (c : UInt8) (l : List UInt8) : Value := if encB c = l.take 4 then .tuple #[.int .u8 c.toNat, .int .i64 4] else .tuple #[.int .u8 0, .int .i64 0]
theorem firstRes_no (c : UInt8) (s : ByteArray) (h4 : 4 ≤ s.size) (h : (!encB c == (s.extract 0 4).toList) = true) : firstRes c s.data.toList = .tuple #[.int .u8 0, .int .i64 0] := by
  rw [Lib.toList_data, ext04 s h4] at h
  unfold firstRes; rw [if_neg (by simpa using h)]
theorem firstRes_yes (c : UInt8) (s : ByteArray) (h4 : 4 ≤ s.size) (z : Int) (hz : (c.toNat : Int) = z) (h : (!encB c == (s.extract 0 4).toList) = false) : firstRes c s.data.toList = .tuple #[.int .u8 z, .int .i64 4] := by
  rw [Lib.toList_data, ext04 s h4] at h
  unfold firstRes; rw [if_pos (by simpa using h), hz]

/-- 'string(appendByte(nil, c))'. -/
theorem appendByte_nil (c : UInt8) (z : Int) (hz : z = c.toNat) (w : World) (hE : Env w) :
    Calls Tryd.prog 46 #[.slice none 0 0, .int .u8 z] w fun e w' => ∃ v', e = .returned v' ∧ Below w.heap.size w w' ∧ (convert 38 9 v').run Tryd.prog w' = .ok (.string ⟨(encB c).toArray⟩) w' := by
  subst hz
  refine (appendByte_any w.heap.size _ [] c w hE (World.ownsRow_nil _ _ _ _) (Nat.le_refl _) (by decide)).mono ?_
  rintro e w' ⟨v', rfl, ho, hB⟩
  exact ⟨v', rfl, hB, str_of_row ho⟩

set_option maxHeartbeats 2000000 in
set_option maxRecDepth 100000 in
theorem firstByte_hexyes (s : ByteArray) (w : World) (hE : Env w) (hs : 2 ≤ s.size) (hp : plainB s[0].toNat = false) (h92 : (s[0].toNat : Int) = 92) (hn : NoLet s[1].toNat) (h1 : (s[1].toNat : Int) = 120) (h4 : 4 ≤ s.size) (x y : Int) (hx : Dig s[2].toNat x) (hy : Dig s[3].toNat y) (c : UInt8) (hc : (c.toNat : Int) = x * 16 + y) :
    Calls Tryd.prog 69 #[.string s] w fun e w' => e = .returned (firstRes c s.data.toList) ∧ Below w.heap.size w w' := by
  obtain ⟨t, fr, hblk⟩ := hE.escBlock
  have e1 : ((s[0].toNat : Int) != 92) = false := by simpa using h92
  have H := Lib.hid hn
  clear h92 hn
  have f0 : ((34 : Int) == (s[1].toNat : Int)) = false := by have := H.out; unfold NoLet at this; simp; omega
  have f1 : ((92 : Int) == (s[1].toNat : Int)) = false := by have := H.out; unfold NoLet at this; simp; omega
  have f2 : ((110 : Int) == (s[1].toNat : Int)) = false := by have := H.out; unfold NoLet at this; simp; omega
  have f3 : ((114 : Int) == (s[1].toNat : Int)) = false := by have := H.out; unfold NoLet at this; simp; omega
  have f4 : ((116 : Int) == (s[1].toNat : Int)) = false := by have := H.out; unfold NoLet at this; simp; omega
  have i0' := esc_0; have i1' := esc_1; have i2' := esc_2; have i3' := esc_3; have i4' := esc_4
  have hs0 : 0 < s.size := by omega
  have hs1 : (1 : Int) < (s.size : Int) := by omega
  have hs2 : 1 < s.size := by omega
  have hx4 := ext24 s h4
  have HX := Lib.hid hx; have HY := Lib.hid hy; have HC := Lib.hid hc
  obtain ⟨-, -, x0, x1, -⟩ := hx
  obtain ⟨-, -, y0, y1, -⟩ := hy
  have e2 : ((s[1].toNat : Int) != 120) = false := by simpa using h1
  clear h1 hc
  go_enter Tryd.func69, Tryd.ntmps69
  go_wp2_with (first
    | (go_at_call 70; refine (isPlain_any _ _).mono ?_; rintro e w' ⟨rfl, rfl⟩)
    | (refine wpList_load_row rfl _ _ rfl 0 rfl t escCells fr _ hblk Tryd.underlying93 rfl (by kernel_rfl) ?_))
  go_loopw [22] (fun i wr => LetAt i (s[1].toNat) ∧ Below w.heap.size w wr) (fun i _ => 5 - (intOf i).toNat)
  case atStart => exact ⟨.inl rfl, Below.refl _ _⟩
  case round =>
    obtain ⟨hat, hbel⟩ := hrel
    rcases hat with rfl | ⟨rfl, hne⟩ | ⟨rfl, hne⟩ | ⟨rfl, hne⟩ | ⟨rfl, hne⟩ | ⟨rfl, hne⟩
    · go_wp2
      go_quiet (fail)
      all_goals go_wp2
      exact ⟨⟨.inr (.inl ⟨rfl, H.out.1⟩), below_drewN (hbel.alloc hbel.size _) _⟩, by simp [intOf]⟩
    · go_wp2
      go_quiet (fail)
      all_goals go_wp2
      exact ⟨⟨.inr (.inr (.inl ⟨rfl, H.out.1, H.out.2.1⟩)), below_drewN (hbel.alloc hbel.size _) _⟩, by simp [intOf]⟩
    · go_wp2
      go_quiet (fail)
      all_goals go_wp2
      exact ⟨⟨.inr (.inr (.inr (.inl ⟨rfl, H.out.1, H.out.2.1, H.out.2.2.1⟩))), below_drewN (hbel.alloc hbel.size _) _⟩, by simp [intOf]⟩
    · go_wp2
      go_quiet (fail)
      all_goals go_wp2
      exact ⟨⟨.inr (.inr (.inr (.inr (.inl ⟨rfl, H.out.1, H.out.2.1, H.out.2.2.1, H.out.2.2.2.1⟩)))), below_drewN (hbel.alloc hbel.size _) _⟩, by simp [intOf]⟩
    · go_wp2
      go_quiet (fail)
      all_goals go_wp2
      exact ⟨⟨.inr (.inr (.inr (.inr (.inr ⟨rfl, H.out.1, H.out.2.1, H.out.2.2.1, H.out.2.2.2.1, H.out.2.2.2.2⟩)))), below_drewN (hbel.alloc hbel.size _) _⟩, by simp [intOf]⟩
    · have hE2 := hE.below hbel hE.nine
      go_wp2_with fail
      refine (parseUint_yes _ _ x y _ HX.out HY.out).mono ?_
      rintro e w2 ⟨rfl, hbel2⟩
      have hE3 := (hE2.below hbel2 hE2.nine).drew
      go_wp2
      have HW : Hid (IntKind.u8.wrap (x * 16 + y) = (c.toNat : Int)) := Lib.hid (by rw [IntWalk.u8_in _ (by omega)]; exact HC.out.symm)
      go_region_law (go_simp; go_at_call 46; refine (appendByte_nil c _ HW.out _ hE3).mono ?_; rintro e w3 ⟨v', rfl, hbel3, hcv⟩)
      all_goals go_wp2
      · have ht : (!encB c == (s.extract 0 4).toList) = true := by assumption
        have R := Lib.hid (firstRes_no c s h4 ht)
        go_ret2
        exact ⟨congrArg Ending.returned R.out.symm, (hbel.trans (hbel2.mono hbel.size)).drew.trans (hbel3.mono (by have := hbel.size; have := hbel2.size; simp; omega))⟩
      · have ht : (!encB c == (s.extract 0 4).toList) = false := by assumption
        have R := Lib.hid (firstRes_yes c s h4 (x * 16 + y) HC.out ht)
        go_ret2
        exact ⟨congrArg Ending.returned R.out.symm, (hbel.trans (hbel2.mono hbel.size)).drew.trans (hbel3.mono (by have := hbel.size; have := hbel2.size; simp; omega))⟩
end Go.Proofs.YtnmkcohfhomenaaDoor
