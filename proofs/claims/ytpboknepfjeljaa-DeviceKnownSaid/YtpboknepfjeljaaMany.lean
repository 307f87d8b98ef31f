/- Several devices side by side, and what is none of theirs. -/
import Derived.Test.YtpboknepfjeljaaNew
namespace Go.Proofs.Ytpboknepfjeljaa
open Go.RowKit Go.MapKept

/-- What a call may turn: blocks from n on that are not F's. -/
abbrev Out (n : Nat) (F : Nat → Prop) (k : Nat) : Prop := n ≤ k ∧ ¬ F k
/-- Devices whose blocks are their own: none is another one's, none is F's, none is below n. -/
def Many (n : Nat) : (Nat → Prop) → World → List (Nat × Dv) → Prop
  | F, w, [] => ∀ k, F k → k < w.heap.size
  | F, w, (b, D) :: r => ∃ X, DevAt w b X D ∧ (∀ k, X k → Out n F k) ∧ Many n (fun k => F k ∨ X k) w r
theorem Many.lt {n : Nat} : ∀ {l : List (Nat × Dv)} {F : Nat → Prop} {w : World}, Many n F w l → ∀ k, F k → k < w.heap.size
  | [], _, _, h => h
  | _ :: _, _, _, ⟨_, _, _, h3⟩ => fun k hk => Many.lt h3 k (.inl hk)
/-- While other blocks turn, and the foreign ones change. -/
theorem Many.change {n : Nat} {Z : Nat → Prop} : ∀ {l : List (Nat × Dv)} {F G : Nat → Prop} {w w' : World}, Many n F w l → Kept Z w w' → (∀ k, Z k → F k ∨ w.heap.size ≤ k ∨ k < n) → (∀ k, G k → F k ∨ w.heap.size ≤ k) → (∀ k, G k → k < w'.heap.size) → Many n G w' l
  | [], _, _, _, _, _, _, _, _, hl => hl
  | (b, D) :: r, F, G, w, w', ⟨X, h1, h2, h3⟩, hk, hz, hg, hl => by
    have hd : DevAt w' b X D := h1.kept hk (fun k hx hzk => by
      have := h2 k hx
      have := h1.lt k hx
      rcases hz k hzk with h | h | h
      · exact absurd h (h2 k hx).2
      · omega
      · have := (h2 k hx).1; omega)
    refine ⟨X, hd, fun k hx => ⟨(h2 k hx).1, fun hgk => ?_⟩, ?_⟩
    · rcases hg k hgk with h | h
      · exact absurd h (h2 k hx).2
      · have := h1.lt k hx; omega
    · exact Many.change (F := fun k => F k ∨ X k) (G := fun k => G k ∨ X k) h3 hk (fun k hzk => (hz k hzk).elim (fun h => .inl (.inl h)) .inr) (fun k hgk => hgk.elim (fun h => (hg k h).elim (fun h => .inl (.inl h)) .inr) (fun h => .inl (.inr h)))
        (fun k hgk => hgk.elim (hl k) (fun h => hd.lt k h))
theorem Many.below {n m : Nat} {l : List (Nat × Dv)} {F : Nat → Prop} {w w' : World} (h : Many n F w l) (hb : Below m w w') (hm : w.heap.size ≤ m) : Many n F w' l :=
  h.change (Z := fun k => m ≤ k) (Below.kept hb _ (fun k _ h => by omega)) (fun k hk => .inr (.inl (by omega))) (fun k hk => .inl hk) (fun k hk => Nat.lt_of_lt_of_le (h.lt k hk) hb.size)
/-- A new block becomes a foreign one. -/
theorem Many.mark {n : Nat} {l : List (Nat × Dv)} {F : Nat → Prop} {w w' : World} (h : Many n F w l) (hb : Below w.heap.size w w') (g : Nat) (hg : w.heap.size ≤ g) (hg2 : g < w'.heap.size) : Many n (fun k => F k ∨ k = g) w' l :=
  h.change (Z := fun k => w.heap.size ≤ k) (Below.kept hb _ (fun k _ h => by omega)) (fun k hk => .inr (.inl hk)) (fun k hk => hk.elim .inl (fun e => .inr (by omega))) (fun k hk => hk.elim (fun h' => Nat.lt_of_lt_of_le (h.lt k h') hb.size) (fun e => by omega))
theorem Many.mem {n : Nat} {l : List (Nat × Dv)} {F : Nat → Prop} {w w' : World} (h : Many n F w l) (hm : Mem w w') : Many n F w' l := h.below (hm.below w.heap.size) (Nat.le_refl _)
/-- A new device. -/
theorem Many.add {n : Nat} {b : Nat} {X : Nat → Prop} {D : Dv} : ∀ {l : List (Nat × Dv)} {F : Nat → Prop} {w w' : World}, Many n F w l → Below w.heap.size w w' → DevAt w' b X D → (∀ k, X k → w.heap.size ≤ k) → n ≤ w.heap.size → Many n F w' (l ++ [(b, D)])
  | [], F, w, w', h, hb, hd, hx, hn => ⟨X, hd, fun k hk => ⟨Nat.le_trans hn (hx k hk), fun hf => by have := h k hf; have := hx k hk; omega⟩, fun k hk => hk.elim (fun h' => Nat.lt_of_lt_of_le (h k h') hb.size) (hd.lt k)⟩
  | (c, E) :: r, F, w, w', ⟨Y, h1, h2, h3⟩, hb, hd, hx, hn => ⟨Y, h1.below hb (Nat.le_refl _), h2, Many.add h3 hb hd hx hn⟩
/-- One of the devices, and what becomes of all when it turns. -/
theorem Many.focus {n : Nat} {b : Nat} {D : Dv} {l2 : List (Nat × Dv)} : ∀ {l1 : List (Nat × Dv)} {F : Nat → Prop} {w : World}, Many n F w (l1 ++ (b, D) :: l2) → n ≤ w.heap.size →
    ∃ X, DevAt w b X D ∧ (∀ k, X k → Out n F k) ∧ ∀ (w' : World) (E : Dv), Step b X E w w' → Many n F w' (l1 ++ (b, E) :: l2) ∧ Kept (Out n F) w w'
  | [], F, w, ⟨X, h1, h2, h3⟩, hn => by
    refine ⟨X, h1, h2, fun w' E hs => ?_⟩
    obtain ⟨⟨X', hd, hx⟩, hk⟩ := hs
    refine ⟨⟨X', hd, fun k hk' => ?_, ?_⟩, hk.mono h2⟩
    · rcases hx k hk' with h | h
      · exact h2 k h
      · refine ⟨by omega, fun hf => ?_⟩
        have := h3.lt k (.inl hf)
        omega
    · exact h3.change hk (fun k hz => .inl (.inr hz)) (fun k hg => hg.elim (fun h => .inl (.inl h)) (fun h => (hx k h).elim (fun h => .inl (.inr h)) .inr)) (fun k hg => hg.elim (fun h => Nat.lt_of_lt_of_le (h3.lt k (.inl h)) hk.size) (hd.lt k))
  | (c, E') :: r, F, w, ⟨Y, h1, h2, h3⟩, hn => by
    obtain ⟨X, q1, q2, q3⟩ := Many.focus h3 hn
    refine ⟨X, q1, fun k hk => ⟨(q2 k hk).1, fun hf => (q2 k hk).2 (.inl hf)⟩, fun w' E hs => ?_⟩
    obtain ⟨r1, r2⟩ := q3 w' E hs
    exact ⟨⟨Y, h1.kept r2 (fun k hy hz => hz.2 (.inr hy)), h2, r1⟩, r2.mono (fun k hk => ⟨hk.1, fun hf => hk.2 (.inl hf)⟩)⟩
theorem Many.ok {n : Nat} {b : Nat} {D : Dv} {l2 : List (Nat × Dv)} : ∀ {l1 : List (Nat × Dv)} {F : Nat → Prop} {w : World}, Many n F w (l1 ++ (b, D) :: l2) → D.ok
  | [], _, _, ⟨_, h1, _, _⟩ => h1.ok
  | _ :: _, _, _, ⟨_, _, _, h3⟩ => Many.ok h3
theorem Kept.toBelowN {n : Nat} {F : Nat → Prop} {A B : World} (h : Kept (Out n F) A B) (hn : n ≤ A.heap.size) : Below n A B := h.toBelow hn (fun k hk => hk.1)

/-! ### The calls -/
section
variable {n b : Nat} {F : Nat → Prop} {w : World} {l1 l2 : List (Nat × Dv)} {D : Dv}
/-- What a call on one of the devices leaves. -/
structure Ran (n : Nat) (F : Nat → Prop) (w : World) (l : List (Nat × Dv)) (w' : World) : Prop where
  many : Many n F w' l
  kept : Kept (Out n F) w w'
  size : n ≤ w'.heap.size
theorem write_many (h : Many n F w (l1 ++ (b, D) :: l2)) (hn : n ≤ w.heap.size) (i : Int) (s : Sec) :
    Calls Try.prog 30 #[.pointer (some ⟨b, 0, none⟩), .int .i64 i, .agg s.A] w fun e w' => e = .returned (.int .i64 (writeE D i)) ∧ Ran n F w (l1 ++ (b, writeD D i s) :: l2) w' := by
  obtain ⟨X, h1, h2, h3⟩ := h.focus hn
  refine (write_any h1 i s).mono fun e w' ⟨he, hs⟩ => ⟨he, ?_⟩
  obtain ⟨q1, q2⟩ := h3 w' _ hs
  exact ⟨q1, q2, Nat.le_trans hn q2.size⟩
theorem flush_many (h : Many n F w (l1 ++ (b, D) :: l2)) (hn : n ≤ w.heap.size) :
    Calls Try.prog 27 #[.pointer (some ⟨b, 0, none⟩)] w fun e w' => e = .returned (.int .i64 (readyE D)) ∧ Ran n F w (l1 ++ (b, flushD D) :: l2) w' := by
  obtain ⟨X, h1, h2, h3⟩ := h.focus hn
  refine (flush_any h1).mono fun e w' ⟨he, hs⟩ => ⟨he, ?_⟩
  obtain ⟨q1, q2⟩ := h3 w' _ hs
  exact ⟨q1, q2, Nat.le_trans hn q2.size⟩
theorem limit_many (h : Many n F w (l1 ++ (b, D) :: l2)) (hn : n ≤ w.heap.size) (i : Int) :
    Calls Try.prog 29 #[.pointer (some ⟨b, 0, none⟩), .int .i64 i] w fun e w' => e = .returned (.int .i64 (limitE i)) ∧ Ran n F w (l1 ++ (b, limitD D i) :: l2) w' := by
  obtain ⟨X, h1, h2, h3⟩ := h.focus hn
  refine (limit_any h1 i).mono fun e w' ⟨he, hs⟩ => ⟨he, ?_⟩
  obtain ⟨q1, q2⟩ := h3 w' _ hs
  exact ⟨q1, q2, Nat.le_trans hn q2.size⟩
theorem crash_many (h : Many n F w (l1 ++ (b, D) :: l2)) (hn : n ≤ w.heap.size) (v : Value) (L : List Int) (hv : IntsAt w v L) (hL : L.length ≤ maxLen) (hx : ∀ g o m c, v = .slice (some ⟨g, o, none⟩) m c → m ≠ 0 → g < n ∨ F g) :
    Calls Try.prog 26 #[.pointer (some ⟨b, 0, none⟩), v] w fun e w' => e = .returned (.int .i64 (keepE D.ca.length L)) ∧ Ran n F w (l1 ++ (b, crashD D L) :: l2) w' := by
  obtain ⟨X, h1, h2, h3⟩ := h.focus hn
  refine (crash_any h1 v L hv hL (fun g o m c e hm hX => (hx g o m c e hm).elim (fun h => by have := (h2 g hX).1; omega) (h2 g hX).2)).mono fun e w' ⟨he, hs⟩ => ⟨he, ?_⟩
  obtain ⟨q1, q2⟩ := h3 w' _ hs
  exact ⟨q1, q2, Nat.le_trans hn q2.size⟩
theorem sectors_many (h : Many n F w (l1 ++ (b, D) :: l2)) (hn : n ≤ w.heap.size) :
    Calls Try.prog 33 #[.pointer (some ⟨b, 0, none⟩)] w fun e w' => e = .returned (.int .i64 (D.st.length : Int)) ∧ w = w' := by
  obtain ⟨X, h1, h2, h3⟩ := h.focus hn
  exact sectors_any h1
theorem pending_many (h : Many n F w (l1 ++ (b, D) :: l2)) (hn : n ≤ w.heap.size) :
    Calls Try.prog 25 #[.pointer (some ⟨b, 0, none⟩)] w fun e w' => e = .returned (.int .i64 (D.ca.length : Int)) ∧ w = w' := by
  obtain ⟨X, h1, h2, h3⟩ := h.focus hn
  exact pending_any h1
theorem taken_many (h : Many n F w (l1 ++ (b, D) :: l2)) (hn : n ≤ w.heap.size) :
    Calls Try.prog 24 #[.pointer (some ⟨b, 0, none⟩)] w fun e w' => e = .returned (.int .i64 D.tk) ∧ w = w' := by
  obtain ⟨X, h1, h2, h3⟩ := h.focus hn
  exact taken_any h1
theorem on_many (h : Many n F w (l1 ++ (b, D) :: l2)) (hn : n ≤ w.heap.size) :
    Calls Try.prog 31 #[.pointer (some ⟨b, 0, none⟩)] w fun e w' => e = .returned (.bool (!D.off)) ∧ w = w' := by
  obtain ⟨X, h1, h2, h3⟩ := h.focus hn
  exact on_any h1
theorem read_many (h : Many n F w (l1 ++ (b, D) :: l2)) (hn : n ≤ w.heap.size) (i : Int) :
    Calls Try.prog 23 #[.pointer (some ⟨b, 0, none⟩), .int .i64 i] w fun e w' => e = .returned (.tuple #[.agg (readD D i).A, .int .i64 (readE D i)]) ∧ Below w.heap.size w w' := by
  obtain ⟨X, h1, h2, h3⟩ := h.focus hn
  exact read_any h1 i
theorem new_many {l : List (Nat × Dv)} (h : Many n F w l) (hn : n ≤ w.heap.size) (m : Nat) (h0 : 64 ≤ m) (h1 : m ≤ 256) :
    Calls Try.prog 13 #[.int .i64 (m : Int)] w fun e w' => ∃ b, e = .returned (.tuple #[.pointer (some ⟨b, 0, none⟩), .int .i64 0]) ∧ Many n F w' (l ++ [(b, newD m)]) ∧ Below w.heap.size w w' := by
  refine (new_any m w h0 h1).mono fun e w' ⟨b, X, he, q1, q2, q3⟩ => ⟨b, he, h.add q2 q1 q3 hn, q2⟩
end
/-- A block that is none of the devices', and what it holds. -/
structure Blk (F : Nat → Prop) (w : World) (g : Nat) (o : Obj) : Prop where
  at_ : w.heap[g]? = some o
  mem : F g
theorem Blk.lt {F : Nat → Prop} {w : World} {g : Nat} {o : Obj} (h : Blk F w g o) : g < w.heap.size := (Array.getElem?_eq_some_iff.1 h.at_).1
theorem Blk.ran {n : Nat} {F : Nat → Prop} {w w' : World} {g : Nat} {o : Obj} {l : List (Nat × Dv)} (h : Blk F w g o) (r : Ran n F w l w') : Blk F w' g o := ⟨(r.kept.block g h.lt (fun e => e.2 h.mem)).trans h.at_, h.mem⟩
theorem Blk.below {F : Nat → Prop} {w w' : World} {g : Nat} {o : Obj} (h : Blk F w g o) {m : Nat} (hb : Below m w w') (hm : w.heap.size ≤ m) : Blk F w' g o := ⟨(hb.block g (by have := h.lt; omega)).trans h.at_, h.mem⟩
theorem Blk.sub {F G : Nat → Prop} {w : World} {g : Nat} {o : Obj} (h : Blk F w g o) (hs : ∀ k, F k → G k) : Blk G w g o := ⟨h.at_, hs g h.mem⟩
theorem slice_in {n m c g : Nat} {F : Nat → Prop} {w : World} {o : Obj} (h : Blk F w g o) : ∀ g' o' m' c', Value.slice (some ⟨g, 0, none⟩) m c = .slice (some ⟨g', o', none⟩) m' c' → m' ≠ 0 → g' < n ∨ F g' := by
  intro g' o' m' c' e _
  cases e
  exact .inr h.mem
/-- A new block of the caller's. -/
theorem Many.alloc {n : Nat} {l : List (Nat × Dv)} {F : Nat → Prop} {w : World} (h : Many n F w l) (o : Obj) : ∃ G, Many n G (w.alloc o) l ∧ Blk G (w.alloc o) w.heap.size o ∧ ∀ k, F k → G k :=
  ⟨_, h.mark ((Below.refl _ w).alloc (Nat.le_refl _) o) w.heap.size (Nat.le_refl _) (by simp), ⟨heap_alloc_new w o, .inr rfl⟩, fun _ => .inl⟩
theorem Ran.below {n : Nat} {F : Nat → Prop} {w w' : World} {l : List (Nat × Dv)} (h : Ran n F w l w') (hn : n ≤ w.heap.size) : Below n w w' := h.kept.toBelowN hn
theorem Below.one (w : World) (o : Obj) : Below w.heap.size w (w.alloc o) := (Below.refl _ w).alloc (Nat.le_refl _) o
end Go.Proofs.Ytpboknepfjeljaa
