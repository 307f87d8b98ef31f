/- pieces: what stands between the slashes. -/
import Derived.Test.YtbgfeonlnhlbfaaSteps
import Derived.Test.YtbgfeonlnhlbfaaShelf
namespace Go.Proofs.Ytbgfeonlnhlbfaa
open Go.RowKit
attribute [local go_sem] Oper.semAt_some

theorem index_slash_none {l : Bs} (h : 47 ∉ l) : Lib.index l [47] = -1 := by
  induction l with
  | nil => rfl
  | cons c r ih =>
    simp at h
    have h1 : (47 : UInt8) ≠ c := h.1
    rw [Lib.index, if_neg (by simp [List.isPrefixOf, h1]), ih h.2]; rfl
theorem index_slash {a b : Bs} (h : 47 ∉ a) : Lib.index (a ++ 47 :: b) [47] = a.length := by
  induction a with
  | nil => rw [List.nil_append, Lib.index, if_pos (by simp [List.isPrefixOf])]; rfl
  | cons c r ih =>
    simp at h
    have h1 : (47 : UInt8) ≠ c := h.1
    rw [List.cons_append, Lib.index, if_neg (by simp [List.isPrefixOf, h1]), ih h.2, if_neg (by simp)]
    simp
theorem cut_none {l : Bs} (h : 47 ∉ l) : Lib.cut l [47] = (l, [], false) := by
  unfold Lib.cut; rw [index_slash_none h, if_neg (by omega)]
theorem cut_some {a b : Bs} (h : 47 ∉ a) : Lib.cut (a ++ 47 :: b) [47] = (a, b, true) := by
  unfold Lib.cut; rw [index_slash h, if_pos (by omega)]
  simp
theorem slash_cases (l : Bs) : 47 ∉ l ∨ ∃ a b, l = a ++ 47 :: b ∧ 47 ∉ a := by
  induction l with
  | nil => left; simp
  | cons c r ih =>
    by_cases hc : c = 47
    · right; exact ⟨[], r, by rw [hc]; rfl, by simp⟩
    · rcases ih with h | ⟨a, b, rfl, ha⟩
      · left; simp; exact ⟨fun e => hc e.symm, h⟩
      · right; exact ⟨c :: a, b, rfl, by simp; exact ⟨fun e => hc e.symm, ha⟩⟩

/-- The one variable that strings.Cut asks for. -/
def EnvM (w : World) : Prop := ∃ m, w.cell? ⟨0, 0, none⟩ = some (.int .i64 m)
theorem lt_of_cell {w : World} {b j : Nat} {v : Value} (h : w.cell? ⟨b, j, none⟩ = some v) : b < w.heap.size := by
  rcases Nat.lt_or_ge b w.heap.size with h' | h'
  · exact h'
  · simp [World.cell?, Array.getElem?_eq_none h'] at h
theorem EnvM.pos {w : World} (h : EnvM w) : 0 < w.heap.size := lt_of_cell h.choose_spec
theorem EnvM.below {w w' : World} {n : Nat} (h : EnvM w) (hn : 0 < n) (hb : Below n w w') : EnvM w' := by
  obtain ⟨m, hm⟩ := h
  exact ⟨m, (hb.cell (p := ⟨0, 0, none⟩) hn).trans hm⟩

theorem pieces_any (s : ByteArray) (w : World) :
    Calls Try.prog 40 #[.string s] w fun e w' => e = .returned (.func (.func 56) #[] #[.pointer (some ⟨w.heap.size, 0, none⟩)]) ∧ w' = w.alloc (.cells #[.string s] 9) := by
  go_enter Try.func40, Try.ntmps40
  go_wp2
  go_ret
  exact ⟨rfl, rfl⟩

def encB (x : Bs) : Array Value := #[.string ⟨x.toArray⟩]
structure PieceS (w0 : World) (bx : Nat) (s : ByteArray) (J : World → Prop) (m : Nat) (W : World) : Prop where
  bel : Below w0.heap.size w0 W
  x : Boxed W bx 9 (.string s)
  j : J W
  size : m ≤ W.heap.size
def pieceR (w0 : World) (bx : Nat) (k : Nat) : Prop := w0.heap.size ≤ k ∧ k ≠ bx
/-- How much is left in the box. -/
def leftOf (bx : Nat) (W : World) : Nat := match W.cell? ⟨bx, 0, none⟩ with | some (.string s) => s.size | _ => 0
theorem leftOf_eq {bx : Nat} {W : World} {s : ByteArray} (h : Boxed W bx 9 (.string s)) : leftOf bx W = s.size := by
  unfold leftOf; rw [h.cell]
theorem drewN_below (w : World) (n : Nat) : Below w.heap.size w (w.drewN n) := ⟨rfl, rfl, rfl, Nat.le_refl _, fun _ _ => rfl⟩

set_option maxHeartbeats 4000000 in
set_option maxRecDepth 100000 in
theorem pieces_seq (n : Nat) (hn : 5 ≤ n) (w0 : World) (hE : EnvM w0) (bx : Nat) (s : ByteArray) (W : World) (hs : s.size ≤ 1000) (hbel : Below w0.heap.size w0 W) (x : Boxed W bx 9 (.string s)) (hbx : w0.heap.size ≤ bx) :
    SeqF Fence.wide n Try.prog 56 #[.pointer (some ⟨bx, 0, none⟩)] encB (· = bx) (pieceR w0 bx) (fun xs => xs <+: splitS s.data.toList) (fun xs => xs = splitS s.data.toList) (fun xs => xs <+: splitS s.data.toList) W := by
  intro l J Jx hJ hJx hY h0
  have HS0 : PieceS w0 bx s (J []) W.heap.size W := ⟨hbel, x, h0, Nat.le_refl _⟩
  clear hbel x h0
  refine callsIn_of_wp Try.func56 rfl trivial ?_ rfl
  simp only [Try.ntmps56, List.size_toArray, List.length_cons, List.length_nil, Nat.reduceAdd, Nat.reduceSub, Array.replicate_succ, Array.replicate_zero, List.push_toArray, List.append_toArray, List.nil_append, List.cons_append]
  gi_wp2
  gi_loopw [3] (fun _ wr => ∃ (pre : List Bs) (r : ByteArray), r.size ≤ 1000 ∧ splitS s.data.toList = pre ++ splitS r.data.toList ∧ PieceS w0 bx r (J pre) W.heap.size wr) (fun _ wr => leftOf bx wr)
  case atStart => exact ⟨[], s, hs, rfl, HS0⟩
  case round =>
    obtain ⟨pre, r, hr, hsp, hS⟩ := hrel
    have hx := hS.x.cell
    obtain ⟨m, hm⟩ := hE.below hE.pos hS.bel
    have hJ' : ∀ A B, J pre A → Kept (· = bx) A B → J pre B := fun A B => hJ _ A B
    have HSP := Lib.hid hsp
    rcases slash_cases r.data.toList with hno | ⟨a, b, hab, hna⟩
    · have hcut := cut_none hno
      have hlast : splitS s.data.toList = pre ++ [r.data.toList] := by rw [hsp, splitS_none hno]
      have HL := Lib.hid hlast
      clear hsp hno hlast
      gi_wp2_with fail
      refine ⟨trivial, fun _ => by omega, (callsIn_wide.2 (Try.strings_Cut r ⟨#[47]⟩ m wr (by omega) hm)).mono ?_⟩
      rw [show (⟨#[47]⟩ : ByteArray).data.toList = [47] from rfl, hcut]
      rintro e w9 ⟨rfl, k, rfl⟩
      have hS9 : PieceS w0 bx r (J pre) W.heap.size (wr.drewN k) := ⟨hS.bel.trans ((drewN_below wr k).mono hS.bel.size), hS.x, hJ' _ _ hS.j ((Kept.refl _ wr).below (drewN_below wr k)), hS.size⟩
      obtain ⟨fn, tmps, assign, body, hy, hR⟩ := hY pre r.data.toList (wr.drewN k) hS9.j hS9.size (by rw [HL.out]; exact List.prefix_refl _)
      simp only [encB] at hy
      gi_wp2
      refine ⟨fun _ => by omega, hR.mono ?_⟩
      rintro e W' (⟨rfl, hJ3, hk3⟩ | ⟨rfl, hJx3⟩)
      · gi_wp2
        refine bodyPost_ret (results_none rfl _ _ _) rfl ?_
        exact ⟨⟨_, rfl⟩, .inl ⟨_, HL.out.symm, hJ3⟩⟩
      · gi_wp2
        refine bodyPost_ret (results_none rfl _ _ _) rfl ?_
        exact ⟨⟨_, rfl⟩, .inr ⟨_, by rw [HL.out]; exact List.prefix_refl _, hJx3⟩⟩
    · have hcut := cut_some (b := b) hna
      rw [← hab] at hcut
      have hnext : splitS s.data.toList = (pre ++ [a]) ++ splitS b := by rw [hsp, hab, splitS_app hna]; simp
      have HL := Lib.hid hnext
      have hbl : b.length < r.size := by rw [← size_len, hab]; simp; omega
      clear hsp hab hna hnext
      gi_wp2_with fail
      refine ⟨trivial, fun _ => by omega, (callsIn_wide.2 (Try.strings_Cut r ⟨#[47]⟩ m wr (by omega) hm)).mono ?_⟩
      rw [show (⟨#[47]⟩ : ByteArray).data.toList = [47] from rfl, hcut]
      rintro e w9 ⟨rfl, k, rfl⟩
      have hS9 : PieceS w0 bx r (J pre) W.heap.size (wr.drewN k) := ⟨hS.bel.trans ((drewN_below wr k).mono hS.bel.size), hS.x, hJ' _ _ hS.j ((Kept.refl _ wr).below (drewN_below wr k)), hS.size⟩
      obtain ⟨fn, tmps, assign, body, hy, hR⟩ := hY pre a (wr.drewN k) hS9.j hS9.size (by rw [HL.out]; exact List.prefix_append _ _)
      simp only [encB] at hy
      gi_wp2
      refine ⟨fun _ => by omega, hR.mono ?_⟩
      rintro e W' (⟨rfl, hJ3, hk3⟩ | ⟨rfl, hJx3⟩)
      · have hx3 := boxed_kept hS9.x hk3 (fun h => h.2 rfl)
        have hc3 := hx3.cell; have hf3 := hx3.frozen; have hl3 := hx3.lt
        have hb3 := below_kept hS9.bel hk3 (Nat.le_refl _) (fun k h => h.1)
        have hsz3 := Nat.le_trans hS9.size hk3.size
        gi_wp2
        have hx4 := hx3.set (.string ⟨b.toArray⟩)
        go_roundw
        case rel =>
          refine ⟨pre ++ [a], ⟨b.toArray⟩, ?_, ?_, ?_⟩
          · rw [← size_len]; show b.length ≤ 1000; omega
          · exact HL.out
          · exact ⟨hb3.setCell (p := ⟨bx, 0, none⟩) hbx _, hx4, hJ _ _ _ hJ3 (Kept.setCell (X := (· = bx)) (Kept.refl _ W') ⟨bx, 0, none⟩ rfl _), by simpa using hsz3⟩
        case measure =>
          rw [leftOf_eq hx4, leftOf_eq hS.x, ← size_len]; exact hbl
      · gi_wp2
        refine bodyPost_ret (results_none rfl _ _ _) rfl ?_
        exact ⟨⟨_, rfl⟩, .inr ⟨_, by rw [HL.out]; exact List.prefix_append _ _, hJx3⟩⟩
end Go.Proofs.Ytbgfeonlnhlbfaa
