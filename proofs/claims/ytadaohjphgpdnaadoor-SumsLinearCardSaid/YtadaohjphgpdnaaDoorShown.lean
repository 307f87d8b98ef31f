/- The law's own examples: shown. -/
import Derived.Test.YtadaohjphgpdnaaDoorLocateP
import Derived.Test.YtadaohjphgpdnaaDoorMixP
import Derived.Lib.SlBytesConst
namespace Go.Proofs.YtadaohjphgpdnaaDoor
open Go.RowKit

theorem bytes_new (W : World) (l : List UInt8) (cs : Array Value) (t : TypeId) (fr : Nat × Nat) (h : cs = (Lib.byteCells l).toArray) (n : Nat) (hn : l.length = n) : BytesAt (W.alloc (.cells cs t fr)) (.slice (some ⟨W.heap.size, 0, none⟩) n n) l := by
  subst hn h
  refine .inr ⟨W.heap.size, 0, l.length, rfl, by simp, fun k hk => ?_⟩
  have hb : (W.alloc (.cells (Lib.byteCells l).toArray t fr)).heap[W.heap.size]? = some (.cells (Lib.byteCells l).toArray t fr) := heap_alloc_new W _
  unfold World.cell?
  rw [hb]
  simp [Lib.byteCells, hk]
theorem crcNew (l : List UInt8) (n m : Nat) (cs : Array Value) (hn : l.length = n) (hm : crcV l = m) (hcs : cs = (Lib.byteCells l).toArray) (hl : l.length ≤ 100) (fr : Nat × Nat) (W : World) (hE : Env W) :
    Calls Tryd.prog 14 #[.slice (some ⟨W.heap.size, 0, none⟩) n n] (W.alloc (.cells cs 5 fr)) fun e w' => e = .returned (.int .u32 m) ∧ Below W.heap.size W w' := by
  have hb := (Below.refl W.heap.size W).alloc (Nat.le_refl _) (.cells cs 5 fr)
  refine (crcAll_any _ l _ (hE.below hb hE.one) (bytes_new W l cs _ fr hcs n hn) (by unfold maxLen; omega)).mono ?_
  rintro e w' ⟨rfl, h⟩
  exact ⟨by rw [hm], hb.trans (h.mono hb.size)⟩
theorem mixNew (l : List UInt8) (n m : Nat) (cs : Array Value) (hn : l.length = n) (hm : mixV l = m) (hcs : cs = (Lib.byteCells l).toArray) (hl : l.length ≤ 100) (fr : Nat × Nat) (W : World) :
    Calls Tryd.prog 31 #[.slice (some ⟨W.heap.size, 0, none⟩) n n] (W.alloc (.cells cs 5 fr)) fun e w' => e = .returned (.int .u64 m) ∧ Below W.heap.size W w' := by
  have hb := (Below.refl W.heap.size W).alloc (Nat.le_refl _) (.cells cs 5 fr)
  refine (mixAll_any _ l _ (bytes_new W l cs _ fr hcs n hn) (by unfold maxLen; omega)).mono ?_
  rintro e w' ⟨rfl, h⟩
  exact ⟨by rw [hm], hb.trans (h.mono hb.size)⟩
theorem locNew (l : List UInt8) (n : Nat) (want : Nat) (cs : Array Value) (v : Value) (hn : l.length = n) (hv : locV l want = v) (hcs : cs = (Lib.byteCells l).toArray) (hl : l.length ≤ 100) (hw : want < 4294967296) (fr : Nat × Nat) (W : World) (hE : Env W) :
    Calls Tryd.prog 25 #[.slice (some ⟨W.heap.size, 0, none⟩) n n, .int .u32 want] (W.alloc (.cells cs 5 fr)) fun e w' => e = .returned v ∧ Below W.heap.size W w' := by
  have hb := (Below.refl W.heap.size W).alloc (Nat.le_refl _) (.cells cs 5 fr)
  refine (locate_any _ l want _ (hE.below hb hE.one) (bytes_new W l cs _ fr hcs n hn) (by unfold maxLen; omega) hw).mono ?_
  rintro e w' ⟨rfl, h⟩
  exact ⟨by rw [hv], hb.trans (h.mono hb.size)⟩
theorem crcNil (W : World) (hE : Env W) :
    Calls Tryd.prog 14 #[.slice none 0 0] W fun e w' => e = .returned (.int .u32 0) ∧ Below W.heap.size W w' :=
  crcAll_any _ [] W hE (.inl ⟨_, _, rfl, rfl⟩) (by simp)

theorem v1234 : crcV [49, 50, 51, 52] = 2615402659 := by decide +kernel
theorem v56789 : crcV [53, 54, 55, 56, 57] = 320708720 := by decide +kernel
theorem vAll : crcV [49, 50, 51, 52, 53, 54, 55, 56, 57] = 3421780262 := by decide +kernel
theorem vA : crcV [97] = 3904355907 := by decide +kernel
theorem vComb : combineV 2615402659 320708720 5 = 3421780262 := by decide +kernel
theorem vLoc : locV [98] 3904355907 = .tuple #[.int .i64 0, .int .u8 97, .int .i64 0] := by
  have h1 : crcV [98] ≠ 3904355907 := by decide +kernel
  have h2 : locK [98] 3904355907 1 = some 0 := by decide +kernel
  have h3 : locB [98] 3904355907 (some 0) = 97 := by decide +kernel
  have := locErr_else (l := [98]) (want := 3904355907) (by decide) h1
  unfold locV
  rw [this.1, this.2, show ([98] : List UInt8).length = 1 from rfl, h2, h3]; rfl
theorem vMixAB : mixV [97, 98] = 1262720385220 := by decide +kernel
theorem vMixBC : mixV [98, 99] = 1275605287110 := by decide +kernel
theorem vRoll : rollV 1262720385220 2 97 99 = 1275605287110 ∧ rollE 1262720385220 2 = 0 := by decide +kernel

theorem combLit (W : World) (hE : Env W) : Calls Tryd.prog 20 #[.int .u32 2615402659, .int .u32 320708720, .int .i64 5] W fun e w' => e = .returned (.tuple #[.int .u32 3421780262, .int .i64 0]) ∧ Below W.heap.size W w' := by
  refine (combine_any 2615402659 320708720 5 W (by omega) (by omega) hE).mono ?_
  rintro e w' ⟨rfl, h⟩
  refine ⟨?_, h⟩
  have h1 : cN 2615402659 320708720 5 = 3421780262 := (cN_yes (n := 5) (by omega)).trans vComb
  rw [h1]; rfl
theorem rollLit (W : World) : Calls Tryd.prog 29 #[.int .u64 1262720385220, .int .i64 2, .int .u8 97, .int .u8 99] W fun e w' => e = .returned (.tuple #[.int .u64 1275605287110, .int .i64 0]) ∧ Below W.heap.size W w' := by
  refine (roll_any 1262720385220 97 99 2 W (by omega) (by omega) (by omega)).mono ?_
  rintro e w' ⟨rfl, h⟩
  exact ⟨by rw [vRoll.1, vRoll.2]; rfl, h⟩

set_option maxHeartbeats 4000000 in
theorem shown_any (w : World) (hE : Env w) :
    Calls Tryd.prog 13 #[] w fun e w' => e = .returned (.bool true) ∧ Below w.heap.size w w' := by
  have hconv := fun w C n c => Lib.run_convert_bytes_const (P := Tryd.prog) w 23 5 C n c Tryd.underlying23 Tryd.underlying5
  have h1 := hE.one
  have hB0 : Below w.heap.size w w := Below.refl _ _
  have hE0 := hE
  have H1 := Lib.hid (fun (W : World) (hE : Env W) => (crcNew [49, 50, 51, 52] 4 2615402659 #[.int .u8 49, .int .u8 50, .int .u8 51, .int .u8 52] rfl v1234 rfl (by decide) (4, 5) W hE : Calls Tryd.prog 14 #[.slice (some ⟨W.heap.size, 0, none⟩) 4 4] (W.alloc (.cells #[.int .u8 49, .int .u8 50, .int .u8 51, .int .u8 52] 5 (4, 5))) fun e w' => e = .returned (.int .u32 2615402659) ∧ Below W.heap.size W w'))
  have H2 := Lib.hid (fun (W : World) (hE : Env W) => (crcNew [53, 54, 55, 56, 57] 5 320708720 #[.int .u8 53, .int .u8 54, .int .u8 55, .int .u8 56, .int .u8 57] rfl v56789 rfl (by decide) (5, 6) W hE : Calls Tryd.prog 14 #[.slice (some ⟨W.heap.size, 0, none⟩) 5 5] (W.alloc (.cells #[.int .u8 53, .int .u8 54, .int .u8 55, .int .u8 56, .int .u8 57] 5 (5, 6))) fun e w' => e = .returned (.int .u32 320708720) ∧ Below W.heap.size W w'))
  have H3 := Lib.hid (fun (W : World) (hE : Env W) => (combLit W hE))
  have H4 := Lib.hid (fun (W : World) (hE : Env W) => (locNew [98] 1 3904355907 #[.int .u8 98] _ rfl vLoc rfl (by decide) (by omega) (1, 2) W hE : Calls Tryd.prog 25 #[.slice (some ⟨W.heap.size, 0, none⟩) 1 1, .int .u32 3904355907] (W.alloc (.cells #[.int .u8 98] 5 (1, 2))) fun e w' => e = .returned (.tuple #[.int .i64 0, .int .u8 97, .int .i64 0]) ∧ Below W.heap.size W w'))
  have H5 := Lib.hid (fun (W : World) => (mixNew [97, 98] 2 1262720385220 #[.int .u8 97, .int .u8 98] rfl vMixAB rfl (by decide) (2, 3) W : Calls Tryd.prog 31 #[.slice (some ⟨W.heap.size, 0, none⟩) 2 2] (W.alloc (.cells #[.int .u8 97, .int .u8 98] 5 (2, 3))) fun e w' => e = .returned (.int .u64 1262720385220) ∧ Below W.heap.size W w'))
  have H6 := Lib.hid (fun (W : World) => rollLit W)
  have H7 := Lib.hid (fun (W : World) (hE : Env W) => crcNil W hE)
  have H8 := Lib.hid (fun (W : World) (hE : Env W) => (crcNew [97] 1 3904355907 #[.int .u8 97] rfl vA rfl (by decide) (1, 2) W hE : Calls Tryd.prog 14 #[.slice (some ⟨W.heap.size, 0, none⟩) 1 1] (W.alloc (.cells #[.int .u8 97] 5 (1, 2))) fun e w' => e = .returned (.int .u32 3904355907) ∧ Below W.heap.size W w'))
  have H9 := Lib.hid (fun (W : World) (hE : Env W) => (crcNew [49, 50, 51, 52, 53, 54, 55, 56, 57] 9 3421780262 #[.int .u8 49, .int .u8 50, .int .u8 51, .int .u8 52, .int .u8 53, .int .u8 54, .int .u8 55, .int .u8 56, .int .u8 57] rfl vAll rfl (by decide) (9, 10) W hE : Calls Tryd.prog 14 #[.slice (some ⟨W.heap.size, 0, none⟩) 9 9] (W.alloc (.cells #[.int .u8 49, .int .u8 50, .int .u8 51, .int .u8 52, .int .u8 53, .int .u8 54, .int .u8 55, .int .u8 56, .int .u8 57] 5 (9, 10))) fun e w' => e = .returned (.int .u32 3421780262) ∧ Below W.heap.size W w'))
  have H10 := Lib.hid (fun (W : World) => (mixNew [97, 98] 2 1262720385220 #[.int .u8 97, .int .u8 98] rfl vMixAB rfl (by decide) (2, 3) W : Calls Tryd.prog 31 #[.slice (some ⟨W.heap.size, 0, none⟩) 2 2] (W.alloc (.cells #[.int .u8 97, .int .u8 98] 5 (2, 3))) fun e w' => e = .returned (.int .u64 1262720385220) ∧ Below W.heap.size W w'))
  have H11 := Lib.hid (fun (W : World) => (mixNew [98, 99] 2 1275605287110 #[.int .u8 98, .int .u8 99] rfl vMixBC rfl (by decide) (2, 3) W : Calls Tryd.prog 31 #[.slice (some ⟨W.heap.size, 0, none⟩) 2 2] (W.alloc (.cells #[.int .u8 98, .int .u8 99] 5 (2, 3))) fun e w' => e = .returned (.int .u64 1275605287110) ∧ Below W.heap.size W w'))
  go_enter Tryd.func13, Tryd.ntmps13
  go_wp2_with fail
  refine (H1.out _ hE0).mono ?_
  rintro e w1 ⟨rfl, hb⟩
  have hB1 := hB0.trans (hb.mono hB0.size)
  have hE1 := hE0.below hB1 h1
  clear hb
  go_wp2_with fail
  refine (H2.out _ hE1).mono ?_
  rintro e w2 ⟨rfl, hb⟩
  have hB2 := hB1.trans (hb.mono hB1.size)
  have hE2 := hE0.below hB2 h1
  clear hb
  go_wp2_with fail
  refine (H3.out _ hE2).mono ?_
  rintro e w3 ⟨rfl, hb⟩
  have hB3 := hB2.trans (hb.mono hB2.size)
  have hE3 := hE0.below hB3 h1
  clear hb
  go_wp2_with fail
  refine (H4.out _ hE3).mono ?_
  rintro e w4 ⟨rfl, hb⟩
  have hB4 := hB3.trans (hb.mono hB3.size)
  have hE4 := hE0.below hB4 h1
  clear hb
  go_wp2_with fail
  refine (H5.out _).mono ?_
  rintro e w5 ⟨rfl, hb⟩
  have hB5 := hB4.trans (hb.mono hB4.size)
  have hE5 := hE0.below hB5 h1
  clear hb
  go_wp2_with fail
  refine (H6.out _).mono ?_
  rintro e w6 ⟨rfl, hb⟩
  have hB6 := hB5.trans (hb.mono hB5.size)
  have hE6 := hE0.below hB6 h1
  clear hb
  go_wp2_with fail
  refine (H7.out _ hE6).mono ?_
  rintro e w7 ⟨rfl, hb⟩
  have hB7 := hB6.trans (hb.mono hB6.size)
  have hE7 := hE0.below hB7 h1
  clear hb
  go_wp2_with fail
  refine (H8.out _ hE7).mono ?_
  rintro e w8 ⟨rfl, hb⟩
  have hB8 := hB7.trans (hb.mono hB7.size)
  have hE8 := hE0.below hB8 h1
  clear hb
  go_wp2_with fail
  refine (H9.out _ hE8).mono ?_
  rintro e w9 ⟨rfl, hb⟩
  have hB9 := hB8.trans (hb.mono hB8.size)
  have hE9 := hE0.below hB9 h1
  clear hb
  go_wp2_with fail
  refine (H10.out _).mono ?_
  rintro e w10 ⟨rfl, hb⟩
  have hB10 := hB9.trans (hb.mono hB9.size)
  have hE10 := hE0.below hB10 h1
  clear hb
  go_wp2_with fail
  refine (H11.out _).mono ?_
  rintro e w11 ⟨rfl, hb⟩
  have hB11 := hB10.trans (hb.mono hB10.size)
  have hE11 := hE0.below hB11 h1
  clear hb
  go_wp2_with fail
  go_ret
  exact ⟨rfl, hB11⟩
end Go.Proofs.YtadaohjphgpdnaaDoor
