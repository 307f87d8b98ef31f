/- The law DeviceKnown: the walk. -/
import Derived.Test.YtpboknepfjeljaaWholeW
namespace Go.Proofs.Ytpboknepfjeljaa
open Go.RowKit Go.MapKept
attribute [local go_sem ↓] loadS_eq storeS_eq loadW_eq storeW_eq allocS_eq neqS_eq eqlS_eq alloc64_eq
attribute [local go_sem ↓] Go.wp_at_zero Go.wp_at_succ
set_option maxRecDepth 100000
attribute [local irreducible] World.setCells
def ldX : Op := Op.load 50 (Operand.tmp 7)
theorem Many.fewer {n : Nat} {F G : Nat → Prop} {w : World} {l : List (Nat × Dv)} (h : Many n F w l) (hg : ∀ k, G k → F k) : Many n G w l :=
  h.change (Kept.refl (fun _ => False) w) (fun _ h => h.elim) (fun k hk => .inl (hg k hk)) (fun k hk => h.lt k (hg k hk))

/-- What the walk carries: one device. -/
structure KK (N : Nat) (F : Nat → Prop) (w : World) (b : Nat) (D : Dv) (wr : World) : Prop where
  many : Many N F wr [(b, D)]
  below : Below N w wr
  size : N ≤ wr.heap.size
section
variable {N : Nat} {F : Nat → Prop} {w : World} {b : Nat} {D : Dv} {wr : World}
theorem KK.ran (h : KK N F w b D wr) {E : Dv} {w' : World} (r : Ran N F wr [(b, E)] w') : KK N F w b E w' := ⟨r.many, h.below.trans (r.below h.size), r.size⟩
theorem KK.low (h : KK N F w b D wr) {w' : World} (hb : Below wr.heap.size wr w') : KK N F w b D w' := ⟨h.many.below hb (Nat.le_refl _), h.below.trans (hb.mono h.size), Nat.le_trans h.size hb.size⟩
theorem KK.mark (h : KK N F w b D wr) {w' : World} (hb : Below wr.heap.size wr w') (g : Nat) (hg : wr.heap.size ≤ g) (hg2 : g < w'.heap.size) : KK N (fun k => F k ∨ k = g) w b D w' := ⟨h.many.mark hb g hg hg2, h.below.trans (hb.mono h.size), Nat.le_trans h.size hb.size⟩
theorem KK.write (h : KK N F w b D wr) (i : Int) (s : Sec) {e : Int} {E : Dv} (h1 : writeE D i = e) (h2 : writeD D i s = E) :
    Calls Try.prog 30 #[.pointer (some ⟨b, 0, none⟩), .int .i64 i, .agg s.A] wr fun x w' => x = .returned (.int .i64 e) ∧ KK N F w b E w' ∧ Ran N F wr [(b, E)] w' := by
  subst h1; subst h2
  exact (write_many (l1 := []) h.many h.size i s).mono fun _ _ ⟨he, hr⟩ => ⟨he, h.ran hr, hr⟩
theorem KK.flush (h : KK N F w b D wr) {e : Int} {E : Dv} (h1 : readyE D = e) (h2 : flushD D = E) :
    Calls Try.prog 27 #[.pointer (some ⟨b, 0, none⟩)] wr fun x w' => x = .returned (.int .i64 e) ∧ KK N F w b E w' := by
  subst h1; subst h2
  exact (flush_many (l1 := []) h.many h.size).mono fun _ _ ⟨he, hr⟩ => ⟨he, h.ran hr⟩
theorem KK.limit (h : KK N F w b D wr) (i : Int) {e : Int} {E : Dv} (h1 : limitE i = e) (h2 : limitD D i = E) :
    Calls Try.prog 29 #[.pointer (some ⟨b, 0, none⟩), .int .i64 i] wr fun x w' => x = .returned (.int .i64 e) ∧ KK N F w b E w' ∧ Ran N F wr [(b, E)] w' := by
  subst h1; subst h2
  exact (limit_many (l1 := []) h.many h.size i).mono fun _ _ ⟨he, hr⟩ => ⟨he, h.ran hr, hr⟩
theorem KK.crash (h : KK N F w b D wr) (v : Value) (L : List Int) (hv : IntsAt wr v L) (hL : L.length ≤ maxLen) (hx : ∀ g o m c, v = .slice (some ⟨g, o, none⟩) m c → m ≠ 0 → g < N ∨ F g) {e : Int} {E : Dv} (h1 : keepE D.ca.length L = e) (h2 : crashD D L = E) :
    Calls Try.prog 26 #[.pointer (some ⟨b, 0, none⟩), v] wr fun x w' => x = .returned (.int .i64 e) ∧ KK N F w b E w' ∧ Ran N F wr [(b, E)] w' := by
  subst h1; subst h2
  exact (crash_many (l1 := []) h.many h.size v L hv hL hx).mono fun _ _ ⟨he, hr⟩ => ⟨he, h.ran hr, hr⟩
theorem KK.read (h : KK N F w b D wr) (i : Int) {e : Int} {s : Sec} (h1 : readE D i = e) (h2 : readD D i = s) :
    Calls Try.prog 23 #[.pointer (some ⟨b, 0, none⟩), .int .i64 i] wr fun x w' => x = .returned (.tuple #[.agg s.A, .int .i64 e]) ∧ Below wr.heap.size wr w' := by
  subst h1; subst h2
  exact read_many (l1 := []) h.many h.size i
/-- Crash of a new row that holds 0. -/
theorem KK.crash0 (h : KK N F w b D wr) {e : Int} {E : Dv} (h1 : keepE D.ca.length [0] = e) (h2 : crashD D [0] = E) :
    Calls Try.prog 26 #[.pointer (some ⟨b, 0, none⟩), .slice (some ⟨wr.heap.size, 0, none⟩) 1 1] (wr.alloc (.cells #[.int .i64 0] 3 (0, 0))) fun x w' => x = .returned (.int .i64 e) ∧ KK N F w b E w' ∧ Kept (Out N F) wr w' := by
  have hb := Below.one wr (.cells #[.int .i64 0] 3 (0, 0))
  have hm := h.mark hb wr.heap.size (Nat.le_refl _) (by rw [World.size_alloc]; exact Nat.lt_succ_self _)
  refine (hm.crash _ [0] (ints_new wr [0]) (by unfold maxLen; simp) (fun g o m c e _ => by cases e; exact .inr (.inr rfl)) h1 h2).mono fun x w' ⟨he, hk, hr⟩ => ⟨he, ⟨hk.many.fewer (fun _ => .inl), hk.below, hk.size⟩, ?_⟩
  exact ((Kept.refl (Out N F) wr).alloc _).trans (hr.kept.mono fun k hk => ⟨hk.1, fun hf => hk.2 (.inl hf)⟩)
end

/-! ### The states -/
def kA : Dv := settleD (tookD (newD 64) 5 (Sec.fill 1 1))
def kB : Dv := tookD kA 5 (Sec.fill 2 2)
def kC : Dv := crashedD kB []
def kL : Dv := { kC with pw := 1 }
def kW : Dv := tookD kL 6 (Sec.fill 1 1)
def kO : Dv := { kW with off := true }
def kZ : Dv := crashedD kO [0]
theorem k_len : kC.st.length = 64 ∧ kW.st.length = 64 ∧ kZ.st.length = 64 ∧ kA.st.length = 64 := by
  refine ⟨?_, ?_, ?_, ?_⟩ <;> decide +kernel
theorem k_1 : writeE (newD 64) 5 = 0 ∧ writeD (newD 64) 5 (Sec.fill 1 1) = tookD (newD 64) 5 (Sec.fill 1 1) ∧ readyE (tookD (newD 64) 5 (Sec.fill 1 1)) = 0 ∧ flushD (tookD (newD 64) 5 (Sec.fill 1 1)) = kA := ⟨by decide +kernel, rfl, by decide +kernel, rfl⟩
theorem k_2 : writeE kA 5 = 0 ∧ writeD kA 5 (Sec.fill 2 2) = kB ∧ keepE kB.ca.length [] = 0 ∧ crashD kB [] = kC := ⟨by decide +kernel, rfl, rfl, rfl⟩
theorem k_3 : readE kC 5 = 0 ∧ readD kC 5 = Sec.fill 1 1 ∧ limitE 1 = 0 ∧ limitD kC 1 = kL := ⟨by decide +kernel, rfl, by decide +kernel, rfl⟩
theorem k_4 : writeE kL 6 = 0 ∧ writeD kL 6 (Sec.fill 1 1) = kW ∧ writeE kW 6 = 13 ∧ writeD kW 6 (Sec.fill 2 2) = kO := ⟨by decide +kernel, rfl, by decide +kernel, rfl⟩
theorem k_5 : readE kO 6 = 13 ∧ readD kO 6 = Sec.zero ∧ keepE kO.ca.length [0] = 0 ∧ crashD kO [0] = kZ := ⟨by decide +kernel, rfl, by decide +kernel, rfl⟩
theorem k_6 : readE kZ 6 = 0 ∧ readD kZ 6 = Sec.fill 1 1 ∧ kZ.tk = 3 ∧ keepE kZ.ca.length [0] = 7 ∧ crashD kZ [0] = kZ ∧ writeE kZ 64 = 7 ∧ writeD kZ 64 (Sec.fill 1 1) = kZ := ⟨by decide +kernel, rfl, rfl, by decide +kernel, rfl, by decide +kernel, rfl⟩
end Go.Proofs.Ytpboknepfjeljaa
