/- Locate, of any arguments. -/
import Derived.Test.YtadaohjphgpdnaaDoorLocate
namespace Go.Proofs.YtadaohjphgpdnaaDoor
open Go.RowKit

theorem locErr_long {l : List UInt8} {want : Nat} (h : 1000 < l.length) : locErr l want = 3 ∧ locO l want = none := by
  unfold locErr locO; rw [if_pos h, if_pos (.inl h)]; exact ⟨rfl, rfl⟩
theorem locErr_same {l : List UInt8} {want : Nat} (h : ¬ 1000 < l.length) (e : crcV l = want) : locErr l want = 8 ∧ locO l want = none := by
  unfold locErr locO; rw [if_neg h, if_pos e, if_pos (.inr e)]; exact ⟨rfl, rfl⟩
theorem locErr_else {l : List UInt8} {want : Nat} (h : ¬ 1000 < l.length) (e : crcV l ≠ want) : locErr l want = locE (locK l want l.length) ∧ locO l want = locK l want l.length := by
  unfold locErr locO; rw [if_neg h, if_neg e, if_neg (fun q => q.elim h e)]; exact ⟨rfl, rfl⟩
/-- What Locate answers. -/
def locV (l : List UInt8) (want : Nat) : Value := .tuple #[.int .i64 (locA (locO l want) : Nat), .int .u8 (locB l want (locO l want) : Nat), .int .i64 (locErr l want)]

set_option maxHeartbeats 1000000 in
theorem locate_any (v : Value) (l : List UInt8) (want : Nat) (w : World) (hE : Env w) (hv : BytesAt w v l) (hl : l.length ≤ maxLen) (hw : want < 4294967296) :
    Calls Tryd.prog 25 #[v, .int .u32 want] w fun e w' => e = .returned (locV l want) ∧ Below w.heap.size w w' := by
  by_cases h1 : 1000 < l.length
  · have HE := Lib.hid (locErr_long (want := want) h1)
    have d1 : decide ((1000 : Int) < l.length) = true := decide_eq_true (by omega)
    have HB := Lib.hid (fun o1 o2 o3 => (((Below.refl w.heap.size w).alloc (Nat.le_refl _) o1).alloc (by simp) o2).alloc (by simp; omega) o3)
    obtain ⟨s, d, rfl⟩ := hv.shape
    clear h1 hv
    go_enter Tryd.func25, Tryd.ntmps25
    go_wp2_with fail
    exact bodyPost_ret (v := .tuple #[.int .i64 0, .int .u8 0, .int .i64 3]) (by simp [results, Tryd.results25, go_sem]) rfl ⟨by unfold locV; rw [HE.out.1, HE.out.2]; rfl, HB.out _ _ _⟩
  · by_cases h2 : crcV l = want
    · have HE := Lib.hid (locErr_same h1 h2)
      have d1 : decide ((1000 : Int) < l.length) = false := decide_eq_false (by omega)
      obtain ⟨s, d, rfl⟩ := hv.shape
      obtain ⟨W3, hW3⟩ : ∃ W3, ((w.alloc (.cells #[.int .i64 0] 3)).alloc (.cells #[.int .u8 0] 5)).alloc (.cells #[.int .i64 0] 28) = W3 := ⟨_, rfl⟩
      have hs3 : W3.heap.size = w.heap.size + 3 := by rw [← hW3]; simp
      have hB3 : Below w.heap.size w W3 := by rw [← hW3]; exact (((Below.refl _ w).alloc (Nat.le_refl _) _).alloc (by simp) _).alloc (by simp; omega) _
      have a3 : Boxed W3 w.heap.size 3 (.int .i64 0) := by rw [← hW3]; exact ((Boxed.new w _ _).alloc _).alloc _
      have b3 : Boxed W3 (w.heap.size + 1) 5 (.int .u8 0) := by
        rw [← hW3]; have := Boxed.new (w.alloc (.cells #[.int .i64 0] 3)) 5 (.int .u8 0); rw [World.size_alloc] at this; exact this.alloc _
      have e3 : Boxed W3 (w.heap.size + 1 + 1) 28 (.int .i64 0) := by
        rw [← hW3]; have := Boxed.new ((w.alloc (.cells #[.int .i64 0] 3)).alloc (.cells #[.int .u8 0] 5)) 28 (.int .i64 0); rw [World.size_alloc, World.size_alloc] at this; exact this
      have HC := Lib.hid (crcAll_any (.slice s l.length d) l W3 (hE.below hB3 hE.one) (hv.below hB3 (Nat.le_refl _)) hl)
      have HW3 := Lib.hid hW3
      have d2 : ((crcV l : Int) == want) = true := by simp; omega
      clear hW3 h1 h2
      go_enter Tryd.func25, Tryd.ntmps25
      go_wp2_with fail
      rw [HW3.out]
      refine HC.out.mono ?_
      rintro e W4 ⟨rfl, hb4⟩
      have a4 := boxed_below a3 hb4 a3.lt
      have b4 := boxed_below b3 hb4 b3.lt
      have e4 := boxed_below e3 hb4 e3.lt
      have hs4 := hb4.size
      have hB4 : Below w.heap.size w W4 := hB3.trans (hb4.mono (by omega))
      have P1 := Put.one w.heap.size 0 (.int .i64 0) W4
      have P2 := Put.one (w.heap.size + 1) 0 (.int .u8 0) (W4.setCell ⟨w.heap.size, 0, none⟩ (.int .i64 0))
      have P3 := Put.one (w.heap.size + 1 + 1) 0 (.int .i64 8) ((W4.setCell ⟨w.heap.size, 0, none⟩ (.int .i64 0)).setCell ⟨w.heap.size + 1, 0, none⟩ (.int .u8 0))
      have A1 := Lib.hid (boxed_other (boxed_other (boxed_put a4 P1) P2 (by omega)) P3 (by omega)).cell
      have A2 := Lib.hid (boxed_other (boxed_put (boxed_other b4 P1 (by omega)) P2) P3 (by omega)).cell
      have A3 := Lib.hid (boxed_put (boxed_other (boxed_other e4 P1 (by omega)) P2 (by omega)) P3).cell
      have HB := Lib.hid (((hB4.trans (P1.below (B := w.heap.size) (by omega))).trans (P2.below (B := w.heap.size) (by omega))).trans (P3.below (B := w.heap.size) (by omega)))
      have ac := a4.cell
      have bc := b4.cell
      have ec := e4.cell
      have af := a4.frozen
      have bf := b4.frozen
      have ef := e4.frozen
      clear HW3 HC a3 b3 e3 hb4 a4 b4 e4 P1 P2 P3
      go_wp2_with fail
      have B1 := A1.out
      have B2 := A2.out
      have B3 := A3.out
      exact bodyPost_ret (v := .tuple #[.int .i64 0, .int .u8 0, .int .i64 8]) (by simp [results, Tryd.results25, go_sem, B1, B2, B3]) rfl ⟨by unfold locV; rw [HE.out.1, HE.out.2]; rfl, HB.out⟩
    · have HE := Lib.hid (locErr_else h1 h2)
      refine (callsIn_wide.1 (locate_in 8 (Nat.le_refl _) v l want w hE hv (by omega) hw h2)).mono ?_
      rintro e w' ⟨rfl, hb⟩
      exact ⟨by unfold locV; rw [HE.out.1, HE.out.2], hb⟩
end Go.Proofs.YtadaohjphgpdnaaDoor
