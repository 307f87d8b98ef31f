/- firstByte at a backslash that no short escape follows: \x and two digits. -/
import Derived.Test.YtnmkcohfhomenaaDoorFirst
import Derived.Deep.AppendLies
namespace Go.Proofs.YtnmkcohfhomenaaDoor
open Go.RowKit

def NoLet (c : Int) : Prop := c ≠ 34 ∧ c ≠ 92 ∧ c ≠ 110 ∧ c ≠ 114 ∧ c ≠ 116

theorem ext24 (s : ByteArray) (h : 4 ≤ s.size) : s.extract 2 4 = ⟨#[s[2], s[3]]⟩ := by
  apply ByteArray.ext
  apply Array.toList_inj.1
  rw [Lib.extract_data]
  have hl : s.data.toList.length = s.size := size_len s
  have g2 : s[2] = s.data.toList[2] := rfl
  have g3 : s[3] = s.data.toList[3] := rfl
  rw [g2, g3, List.drop_eq_getElem_cons (by omega), List.drop_eq_getElem_cons (by omega)]
  rfl
theorem ext04 (s : ByteArray) (h : 4 ≤ s.size) : (s.extract 0 4).data.toList = s.data.toList.take 4 := by
  rw [Lib.extract_data]; rfl

set_option maxHeartbeats 2000000 in
set_option maxRecDepth 100000 in
theorem firstByte_nox (s : ByteArray) (w : World) (hE : Env w) (hs : 2 ≤ s.size) (hp : plainB s[0].toNat = false) (h92 : (s[0].toNat : Int) = 92) (hn : NoLet s[1].toNat) (hx : (s[1].toNat : Int) ≠ 120 ∨ s.size < 4) :
    Calls Tryd.prog 69 #[.string s] w fun e w' => e = .returned (.tuple #[.int .u8 0, .int .i64 0]) ∧ Below w.heap.size w w' := by
  obtain ⟨t, fr, hblk⟩ := hE.escBlock
  have e1 : ((s[0].toNat : Int) != 92) = false := by simpa using h92
  have H := Lib.hid hn
  clear h92 hn
  have f0 : ((34 : Int) == (s[1].toNat : Int)) = false := by have := H.out; unfold NoLet at this; simp; omega
  have f1 : ((92 : Int) == (s[1].toNat : Int)) = false := by have := H.out; unfold NoLet at this; simp; omega
  have f2 : ((110 : Int) == (s[1].toNat : Int)) = false := by have := H.out; unfold NoLet at this; simp; omega
  have f3 : ((114 : Int) == (s[1].toNat : Int)) = false := by have := H.out; unfold NoLet at this; simp; omega
  have f4 : ((116 : Int) == (s[1].toNat : Int)) = false := by have := H.out; unfold NoLet at this; simp; omega
  have i0' := esc_0; have i1' := esc_1; have i2' := esc_2; have i3' := esc_3; have i4' := esc_4
  have hs0 : 0 < s.size := by omega
  have hs1 : (1 : Int) < (s.size : Int) := by omega
  have hs2 : 1 < s.size := by omega
  go_enter Tryd.func69, Tryd.ntmps69
  go_wp2_with (first
    | (go_at_call 70; refine (isPlain_any _ _).mono ?_; rintro e w' ⟨rfl, rfl⟩)
    | (refine wpList_load_row rfl _ _ rfl 0 rfl t escCells fr _ hblk Tryd.underlying93 rfl (by kernel_rfl) ?_))
  go_loopw [22] (fun i wr => LetAt i (s[1].toNat) ∧ Below w.heap.size w wr) (fun i _ => 5 - (intOf i).toNat)
  case atStart => exact ⟨.inl rfl, Below.refl _ _⟩
  case round =>
    obtain ⟨hat, hbel⟩ := hrel
    rcases hat with rfl | ⟨rfl, hne⟩ | ⟨rfl, hne⟩ | ⟨rfl, hne⟩ | ⟨rfl, hne⟩ | ⟨rfl, hne⟩
    · go_wp2
      go_quiet (fail)
      all_goals go_wp2
      exact ⟨⟨.inr (.inl ⟨rfl, H.out.1⟩), below_drewN (hbel.alloc hbel.size _) _⟩, by simp [intOf]⟩
    · go_wp2
      go_quiet (fail)
      all_goals go_wp2
      exact ⟨⟨.inr (.inr (.inl ⟨rfl, H.out.1, H.out.2.1⟩)), below_drewN (hbel.alloc hbel.size _) _⟩, by simp [intOf]⟩
    · go_wp2
      go_quiet (fail)
      all_goals go_wp2
      exact ⟨⟨.inr (.inr (.inr (.inl ⟨rfl, H.out.1, H.out.2.1, H.out.2.2.1⟩))), below_drewN (hbel.alloc hbel.size _) _⟩, by simp [intOf]⟩
    · go_wp2
      go_quiet (fail)
      all_goals go_wp2
      exact ⟨⟨.inr (.inr (.inr (.inr (.inl ⟨rfl, H.out.1, H.out.2.1, H.out.2.2.1, H.out.2.2.2.1⟩)))), below_drewN (hbel.alloc hbel.size _) _⟩, by simp [intOf]⟩
    · go_wp2
      go_quiet (fail)
      all_goals go_wp2
      exact ⟨⟨.inr (.inr (.inr (.inr (.inr ⟨rfl, H.out.1, H.out.2.1, H.out.2.2.1, H.out.2.2.2.1, H.out.2.2.2.2⟩)))), below_drewN (hbel.alloc hbel.size _) _⟩, by simp [intOf]⟩
    · by_cases h1 : (s[1].toNat : Int) = 120
      · have h2 : s.size < 4 := by omega
        have e2 : ((s[1].toNat : Int) != 120) = false := by simpa using h1
        clear h1 hx
        go_wp2
        go_ret2
        exact ⟨rfl, hbel⟩
      · have e2 : ((s[1].toNat : Int) != 120) = true := by simpa using h1
        clear h1 hx
        go_wp2
        go_ret2
        exact ⟨rfl, hbel⟩

set_option maxHeartbeats 2000000 in
set_option maxRecDepth 100000 in
theorem firstByte_hexno (s : ByteArray) (w : World) (hE : Env w) (hs : 2 ≤ s.size) (hp : plainB s[0].toNat = false) (h92 : (s[0].toNat : Int) = 92) (hn : NoLet s[1].toNat) (h1 : (s[1].toNat : Int) = 120) (h4 : 4 ≤ s.size) (x : Int) (hab : NoDig s[2].toNat ∨ (Dig s[2].toNat x ∧ NoDig s[3].toNat)) :
    Calls Tryd.prog 69 #[.string s] w fun e w' => e = .returned (.tuple #[.int .u8 0, .int .i64 0]) ∧ Below w.heap.size w w' := by
  obtain ⟨t, fr, hblk⟩ := hE.escBlock
  have e1 : ((s[0].toNat : Int) != 92) = false := by simpa using h92
  have H := Lib.hid hn
  clear h92 hn
  have f0 : ((34 : Int) == (s[1].toNat : Int)) = false := by have := H.out; unfold NoLet at this; simp; omega
  have f1 : ((92 : Int) == (s[1].toNat : Int)) = false := by have := H.out; unfold NoLet at this; simp; omega
  have f2 : ((110 : Int) == (s[1].toNat : Int)) = false := by have := H.out; unfold NoLet at this; simp; omega
  have f3 : ((114 : Int) == (s[1].toNat : Int)) = false := by have := H.out; unfold NoLet at this; simp; omega
  have f4 : ((116 : Int) == (s[1].toNat : Int)) = false := by have := H.out; unfold NoLet at this; simp; omega
  have i0' := esc_0; have i1' := esc_1; have i2' := esc_2; have i3' := esc_3; have i4' := esc_4
  have hs0 : 0 < s.size := by omega
  have hs1 : (1 : Int) < (s.size : Int) := by omega
  have hs2 : 1 < s.size := by omega
  have hx4 := ext24 s h4
  have HAB := Lib.hid hab
  have e2 : ((s[1].toNat : Int) != 120) = false := by simpa using h1
  clear h1 hab
  go_enter Tryd.func69, Tryd.ntmps69
  go_wp2_with (first
    | (go_at_call 70; refine (isPlain_any _ _).mono ?_; rintro e w' ⟨rfl, rfl⟩)
    | (refine wpList_load_row rfl _ _ rfl 0 rfl t escCells fr _ hblk Tryd.underlying93 rfl (by kernel_rfl) ?_))
  go_loopw [22] (fun i wr => LetAt i (s[1].toNat) ∧ Below w.heap.size w wr) (fun i _ => 5 - (intOf i).toNat)
  case atStart => exact ⟨.inl rfl, Below.refl _ _⟩
  case round =>
    obtain ⟨hat, hbel⟩ := hrel
    rcases hat with rfl | ⟨rfl, hne⟩ | ⟨rfl, hne⟩ | ⟨rfl, hne⟩ | ⟨rfl, hne⟩ | ⟨rfl, hne⟩
    · go_wp2
      go_quiet (fail)
      all_goals go_wp2
      exact ⟨⟨.inr (.inl ⟨rfl, H.out.1⟩), below_drewN (hbel.alloc hbel.size _) _⟩, by simp [intOf]⟩
    · go_wp2
      go_quiet (fail)
      all_goals go_wp2
      exact ⟨⟨.inr (.inr (.inl ⟨rfl, H.out.1, H.out.2.1⟩)), below_drewN (hbel.alloc hbel.size _) _⟩, by simp [intOf]⟩
    · go_wp2
      go_quiet (fail)
      all_goals go_wp2
      exact ⟨⟨.inr (.inr (.inr (.inl ⟨rfl, H.out.1, H.out.2.1, H.out.2.2.1⟩))), below_drewN (hbel.alloc hbel.size _) _⟩, by simp [intOf]⟩
    · go_wp2
      go_quiet (fail)
      all_goals go_wp2
      exact ⟨⟨.inr (.inr (.inr (.inr (.inl ⟨rfl, H.out.1, H.out.2.1, H.out.2.2.1, H.out.2.2.2.1⟩)))), below_drewN (hbel.alloc hbel.size _) _⟩, by simp [intOf]⟩
    · go_wp2
      go_quiet (fail)
      all_goals go_wp2
      exact ⟨⟨.inr (.inr (.inr (.inr (.inr ⟨rfl, H.out.1, H.out.2.1, H.out.2.2.1, H.out.2.2.2.1, H.out.2.2.2.2⟩)))), below_drewN (hbel.alloc hbel.size _) _⟩, by simp [intOf]⟩
    · have hE2 := hE.below hbel hE.nine
      go_wp2_with fail
      refine (parseUint_no _ _ x _ hE2 HAB.out).mono ?_
      rintro e w2 ⟨te, pe, rfl, hbel2⟩
      go_wp2
      go_quiet (fail)
      all_goals go_wp2
      all_goals go_ret2
      all_goals exact ⟨rfl, below_drewN (hbel.trans (hbel2.mono hbel.size)) _⟩

end Go.Proofs.YtnmkcohfhomenaaDoor
