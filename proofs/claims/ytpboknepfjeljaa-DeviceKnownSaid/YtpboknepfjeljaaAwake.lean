/- The law's awake. -/
import Derived.Test.YtpboknepfjeljaaMany
import Derived.Deep.RegionWith
import Derived.Deep.RegionHeld3
import Derived.Deep.DrawnRows
namespace Go.Proofs.Ytpboknepfjeljaa
open Go.RowKit Go.MapKept
attribute [local go_sem ↓] loadS_eq storeS_eq loadW_eq storeW_eq allocS_eq neqS_eq eqlS_eq
attribute [local go_sem ↓] Go.wp_at_zero Go.wp_at_succ
set_option maxRecDepth 100000

/-- A device that takes what comes. -/
structure Plain (D : Dv) : Prop where
  off : D.off = false
  pw : D.pw = -1
  ca : D.ca.length < 400
  tk : D.tk < 1000000000000
def push (D : Dv) (n : Int) (s : Sec) : Dv := { D with ca := D.ca ++ [⟨n, s⟩], tk := D.tk + 1 }
theorem write_plain {D : Dv} (h : Plain D) {i : Int} (s : Sec) (hi : inS D.st.length i = true) : writeE D i = 0 ∧ writeD D i s = push D i s := by
  have he : emptyB D = false := by
    unfold emptyB
    have := h.pw; have := h.tk
    simp only [decide_eq_false_iff_not]; omega
  have hf : fullD D = D := by unfold fullD; rw [if_pos h.ca]
  constructor
  · unfold writeE; rw [h.off, hi, he]; rfl
  · unfold writeD; rw [h.off, hi, he, hf]
    unfold tookD push
    rw [h.pw]; rfl
section
variable {n b : Nat} {F : Nat → Prop} {w : World} {l1 l2 : List (Nat × Dv)} {D : Dv}
theorem write0_many (h : Many n F w (l1 ++ (b, D) :: l2)) (hn : n ≤ w.heap.size) (hp : Plain D) (i : Int) (s : Sec) (hi : inS D.st.length i = true) :
    Calls Try.prog 30 #[.pointer (some ⟨b, 0, none⟩), .int .i64 i, .agg s.A] w fun e w' => e = .returned (.int .i64 0) ∧ Ran n F w (l1 ++ (b, push D i s) :: l2) w' := by
  have := write_many h hn i s
  rwa [(write_plain hp s hi).1, (write_plain hp s hi).2] at this
theorem read0_many (h : Many n F w (l1 ++ (b, D) :: l2)) (hn : n ≤ w.heap.size) (i : Int) (s : Sec) (h0 : readE D i = 0) (h1 : readD D i = s) :
    Calls Try.prog 23 #[.pointer (some ⟨b, 0, none⟩), .int .i64 i] w fun e w' => e = .returned (.tuple #[.agg s.A, .int .i64 0]) ∧ Below w.heap.size w w' := by
  have := read_many h hn i
  rwa [h0, h1] at this
theorem crash0_many (h : Many n F w (l1 ++ (b, D) :: l2)) (hn : n ≤ w.heap.size) (v : Value) (L : List Int) (hv : IntsAt w v L) (hL : L.length ≤ maxLen) (hx : ∀ g o m c, v = .slice (some ⟨g, o, none⟩) m c → m ≠ 0 → g < n ∨ F g) (h0 : keepE D.ca.length L = 0) :
    Calls Try.prog 26 #[.pointer (some ⟨b, 0, none⟩), v] w fun e w' => e = .returned (.int .i64 0) ∧ Ran n F w (l1 ++ (b, crashedD D L) :: l2) w' := by
  have := crash_many h hn v L hv hL hx
  rw [h0] at this
  have e : crashD D L = crashedD D L := by unfold crashD; rw [if_pos h0]
  rwa [e] at this
theorem new64_many {l : List (Nat × Dv)} (h : Many n F w l) (hn : n ≤ w.heap.size) :
    Calls Try.prog 13 #[.int .i64 64] w fun e w' => ∃ b, e = .returned (.tuple #[.pointer (some ⟨b, 0, none⟩), .int .i64 0]) ∧ Many n F w' (l ++ [(b, newD 64)]) ∧ Below w.heap.size w w' := new_many h hn 64 (by omega) (by omega)
end
theorem Many.none (w : World) : Many w.heap.size (fun _ => False) w [] := fun _ h => h.elim
theorem ints_new (w : World) (L : List Int) : IntsAt (w.alloc (.cells (L.map (Value.int .i64)).toArray 3 (0, 0))) (.slice (some ⟨w.heap.size, 0, none⟩) L.length L.length) L := by
  refine .inr ⟨w.heap.size, 0, L.length, rfl, by simp, fun k hk => ?_⟩
  rw [cell_of_row _ _ _ _ _ (0, 0) (heap_alloc_new w _)]
  simp [hk]

def zs : List Sec := List.replicate 64 Sec.zero
def oneS : Sec := Sec.fill 1 1
def twoS : Sec := Sec.fill 2 2
def aw3 : Dv := ⟨zs, [⟨3, oneS⟩, ⟨3, twoS⟩, ⟨4, oneS⟩], 3, -1, false⟩
def awC : Dv := ⟨settleV zs [⟨3, oneS⟩, ⟨4, oneS⟩], [], 3, -1, false⟩
theorem aw3_eq : push (push (push (newD 64) 3 oneS) 3 twoS) 4 oneS = aw3 := rfl
theorem awC_eq : crashedD aw3 [0, 2] = awC := rfl
theorem aw_reads : readE aw3 3 = 0 ∧ readD aw3 3 = twoS ∧ keepE aw3.ca.length [0, 2] = 0 ∧ readE awC 3 = 0 ∧ readD awC 3 = oneS ∧ readE awC 4 = 0 ∧ readD awC 4 = oneS :=
  ⟨rfl, rfl, rfl, rfl, rfl, rfl, rfl⟩

theorem two_len : ([0, 2] : List Int).length ≤ maxLen := by unfold maxLen; simp
theorem ints_two {w : World} {g : Nat} (h : w.heap[g]? = some (.cells #[.int .i64 0, .int .i64 2] 3 (0, 0))) : IntsAt w (.slice (some ⟨g, 0, none⟩) 2 2) [0, 2] := by
  refine .inr ⟨g, 0, 2, rfl, (Array.getElem?_eq_some_iff.1 h).1, fun k hk => ?_⟩
  rw [cell_of_row w g _ _ _ (0, 0) h, Nat.zero_add]
  have : k = 0 ∨ k = 1 := by simp at hk; omega
  rcases this with rfl | rfl <;> rfl
set_option maxHeartbeats 1000000 in
theorem awake_any (w : World) : Calls Try.prog 12 #[] w fun e w' => e = .returned (.bool true) ∧ Below w.heap.size w w' := by
  have haS := run_allocS
  have hsN := run_storeS_new
  obtain ⟨N, hN⟩ : ∃ N, w.heap.size = N := ⟨_, rfl⟩
  obtain ⟨F0, hF0⟩ : ∃ F : Nat → Prop, (fun _ => False) = F := ⟨_, rfl⟩
  have HM0 : Hid (Many N F0 w []) := Lib.hid (by rw [← hF0, ← hN]; exact Many.none w)
  have HS0 : Hid (N ≤ w.heap.size) := Lib.hid (Nat.le_of_eq hN.symm)
  have HB0 : Hid (Below N w w) := Lib.hid (Below.refl _ _)
  rw [hN]
  have HN := Lib.hid hN
  clear hN hF0
  go_enter Try.func12, Try.ntmps12
  go_wp2_with fail
  refine (new64_many HM0.out HS0.out).mono ?_
  rintro e w1 ⟨b, rfl, hm, hb⟩
  have HM1 : Hid (Many N F0 w1 [(b, newD 64)]) := Lib.hid hm
  have HB1 := Lib.hid (HB0.out.trans (hb.mono HS0.out))
  have HS1 : Hid (N ≤ w1.heap.size) := Lib.hid (Nat.le_trans HS0.out hb.size)
  clear hm hb HM0 HB0 HS0
  go_wp2_with fail
  refine (ones_any _).mono ?_
  rintro e w2 ⟨rfl, hb⟩
  have HM2 := Lib.hid (HM1.out.below hb (Nat.le_refl _))
  have HB2 := Lib.hid (HB1.out.trans (hb.mono HS1.out))
  have HS2 : Hid (N ≤ w2.heap.size) := Lib.hid (Nat.le_trans HS1.out hb.size)
  clear hb HM1 HB1 HS1
  go_wp2_with fail
  refine (write0_many (l1 := []) (l2 := []) HM2.out HS2.out ⟨rfl, rfl, by decide, by decide⟩ 3 oneS rfl).mono ?_
  rintro e w3 ⟨rfl, hr⟩
  have HM3 : Hid (Many N F0 w3 [(b, push (newD 64) 3 oneS)]) := Lib.hid hr.many
  have HB3 := Lib.hid (HB2.out.trans (hr.below HS2.out))
  have HS3 := Lib.hid hr.size
  clear hr HM2 HB2 HS2
  go_wp2_with fail
  refine (twos_any _).mono ?_
  rintro e w4 ⟨rfl, hb⟩
  have HM4 := Lib.hid (HM3.out.below hb (Nat.le_refl _))
  have HB4 := Lib.hid (HB3.out.trans (hb.mono HS3.out))
  have HS4 : Hid (N ≤ w4.heap.size) := Lib.hid (Nat.le_trans HS3.out hb.size)
  clear hb HM3 HB3 HS3
  go_wp2_with fail
  refine (write0_many (l1 := []) (l2 := []) HM4.out HS4.out ⟨rfl, rfl, by decide, by decide⟩ 3 twoS rfl).mono ?_
  rintro e w5 ⟨rfl, hr⟩
  have HM5 : Hid (Many N F0 w5 [(b, push (push (newD 64) 3 oneS) 3 twoS)]) := Lib.hid hr.many
  have HB5 := Lib.hid (HB4.out.trans (hr.below HS4.out))
  have HS5 := Lib.hid hr.size
  clear hr HM4 HB4 HS4
  go_wp2_with fail
  refine (ones_any _).mono ?_
  rintro e w6 ⟨rfl, hb⟩
  have HM6 := Lib.hid (HM5.out.below hb (Nat.le_refl _))
  have HB6 := Lib.hid (HB5.out.trans (hb.mono HS5.out))
  have HS6 : Hid (N ≤ w6.heap.size) := Lib.hid (Nat.le_trans HS5.out hb.size)
  clear hb HM5 HB5 HS5
  go_wp2_with fail
  refine (write0_many (l1 := []) (l2 := []) HM6.out HS6.out ⟨rfl, rfl, by decide, by decide⟩ 4 oneS rfl).mono ?_
  rintro e w7 ⟨rfl, hr⟩
  have HM7 : Hid (Many N F0 w7 [(b, aw3)]) := Lib.hid (by have h := hr.many; rw [aw3_eq] at h; exact h)
  have HB7 := Lib.hid (HB6.out.trans (hr.below HS6.out))
  have HS7 := Lib.hid hr.size
  clear hr HM6 HB6 HS6
  go_wp2_with fail
  refine (read0_many (l1 := []) (l2 := []) HM7.out HS7.out 3 twoS aw_reads.1 aw_reads.2.1).mono ?_
  rintro e w8 ⟨rfl, hb⟩
  have HM8 := Lib.hid (HM7.out.below hb (Nat.le_refl _))
  have HB8 := Lib.hid (HB7.out.trans (hb.mono HS7.out))
  have HS8 : Hid (N ≤ w8.heap.size) := Lib.hid (Nat.le_trans HS7.out hb.size)
  clear hb HM7 HB7 HS7
  go_wp2_with fail
  obtain ⟨F1, hm, hl, hs⟩ := HM8.out.alloc (.cells twoS.A 50 (0, 0))
  have HM9 := Lib.hid hm
  have HB9 := Lib.hid (HB8.out.alloc HS8.out (.cells twoS.A 50 (0, 0)))
  have HS9 : Hid (N ≤ (w8.alloc (.cells twoS.A 50 (0, 0))).heap.size) := Lib.hid (Nat.le_trans HS8.out (Below.one w8 (.cells twoS.A 50 (0, 0))).size)
  have HLX9 := Lib.hid hl
  clear hm hl hs HM8 HB8 HS8
  refine (pending_many (l1 := []) (l2 := []) HM9.out HS9.out ).mono ?_
  rintro e w' ⟨rfl, rfl⟩
  go_wp2_with fail
  obtain ⟨F2, hm, hl, hs⟩ := HM9.out.alloc (.cells #[.int .i64 0, .int .i64 2] 3 (0, 0))
  rw [World.size_alloc] at hl
  have HM10 := Lib.hid hm
  have HB10 := Lib.hid (HB9.out.alloc HS9.out (.cells #[.int .i64 0, .int .i64 2] 3 (0, 0)))
  have HS10 : Hid (N ≤ ((w8.alloc (.cells twoS.A 50 (0, 0))).alloc (.cells #[.int .i64 0, .int .i64 2] 3 (0, 0))).heap.size) := Lib.hid (Nat.le_trans HS9.out (Below.one (w8.alloc (.cells twoS.A 50 (0, 0))) (.cells #[.int .i64 0, .int .i64 2] 3 (0, 0))).size)
  have HLX10 := Lib.hid ((HLX9.out.below (Below.one (w8.alloc (.cells twoS.A 50 (0, 0))) (.cells #[.int .i64 0, .int .i64 2] 3 (0, 0))) (Nat.le_refl _)).sub hs)
  have HLK10 := Lib.hid hl
  clear hm hl hs HM9 HB9 HS9 HLX9
  have HX := Lib.hid (slice_in (n := N) (m := 2) (c := 2) HLK10.out)
  refine (crash0_many (l1 := []) (l2 := []) HM10.out HS10.out (.slice (some ⟨w8.heap.size + 1, 0, none⟩) 2 2) [0, 2] (ints_two HLK10.out.at_) two_len HX.out aw_reads.2.2.1).mono ?_
  rintro e w11 ⟨rfl, hr⟩
  have HM11 : Hid (Many N F2 w11 [(b, awC)]) := Lib.hid (by have h := hr.many; rw [awC_eq] at h; exact h)
  have HB11 := Lib.hid (HB10.out.trans (hr.below HS10.out))
  have HS11 := Lib.hid hr.size
  have HLX11 := Lib.hid (HLX10.out.ran hr)
  have HLK11 := Lib.hid (HLK10.out.ran hr)
  clear hr HM10 HB10 HS10 HLX10 HLK10
  go_wp2_with fail
  refine (read0_many (l1 := []) (l2 := []) HM11.out HS11.out 3 oneS aw_reads.2.2.2.1 aw_reads.2.2.2.2.1).mono ?_
  rintro e w12 ⟨rfl, hb⟩
  have HM12 := Lib.hid (HM11.out.below hb (Nat.le_refl _))
  have HB12 := Lib.hid (HB11.out.trans (hb.mono HS11.out))
  have HS12 : Hid (N ≤ w12.heap.size) := Lib.hid (Nat.le_trans HS11.out hb.size)
  have HLX12 := Lib.hid (HLX11.out.below hb (Nat.le_refl _))
  have HLK12 := Lib.hid (HLK11.out.below hb (Nat.le_refl _))
  clear hb HM11 HB11 HS11 HLX11 HLK11
  go_wp2_with fail
  obtain ⟨F3, hm, hl, hs⟩ := HM12.out.alloc (.cells oneS.A 50 (0, 0))
  have HM13 := Lib.hid hm
  have HB13 := Lib.hid (HB12.out.alloc HS12.out (.cells oneS.A 50 (0, 0)))
  have HS13 : Hid (N ≤ (w12.alloc (.cells oneS.A 50 (0, 0))).heap.size) := Lib.hid (Nat.le_trans HS12.out (Below.one w12 (.cells oneS.A 50 (0, 0))).size)
  have HLX13 := Lib.hid ((HLX12.out.below (Below.one w12 (.cells oneS.A 50 (0, 0))) (Nat.le_refl _)).sub hs)
  have HLK13 := Lib.hid ((HLK12.out.below (Below.one w12 (.cells oneS.A 50 (0, 0))) (Nat.le_refl _)).sub hs)
  have HLY13 := Lib.hid hl
  clear hm hl hs HM12 HB12 HS12 HLX12 HLK12
  refine (read0_many (l1 := []) (l2 := []) HM13.out HS13.out 4 oneS aw_reads.2.2.2.2.2.1 aw_reads.2.2.2.2.2.2).mono ?_
  rintro e w14 ⟨rfl, hb⟩
  have HM14 := Lib.hid (HM13.out.below hb (Nat.le_refl _))
  have HB14 := Lib.hid (HB13.out.trans (hb.mono HS13.out))
  have HS14 : Hid (N ≤ w14.heap.size) := Lib.hid (Nat.le_trans HS13.out hb.size)
  have HLX14 := Lib.hid (HLX13.out.below hb (Nat.le_refl _))
  have HLK14 := Lib.hid (HLK13.out.below hb (Nat.le_refl _))
  have HLY14 := Lib.hid (HLY13.out.below hb (Nat.le_refl _))
  clear hb HM13 HB13 HS13 HLX13 HLK13 HLY13
  go_wp2_with fail
  obtain ⟨F4, hm, hl, hs⟩ := HM14.out.alloc (.cells oneS.A 50 (0, 0))
  have HM15 := Lib.hid hm
  have HB15 := Lib.hid (HB14.out.alloc HS14.out (.cells oneS.A 50 (0, 0)))
  have HS15 : Hid (N ≤ (w14.alloc (.cells oneS.A 50 (0, 0))).heap.size) := Lib.hid (Nat.le_trans HS14.out (Below.one w14 (.cells oneS.A 50 (0, 0))).size)
  have HLX15 := Lib.hid ((HLX14.out.below (Below.one w14 (.cells oneS.A 50 (0, 0))) (Nat.le_refl _)).sub hs)
  have HLK15 := Lib.hid ((HLK14.out.below (Below.one w14 (.cells oneS.A 50 (0, 0))) (Nat.le_refl _)).sub hs)
  have HLY15 := Lib.hid ((HLY14.out.below (Below.one w14 (.cells oneS.A 50 (0, 0))) (Nat.le_refl _)).sub hs)
  have HLZ15 := Lib.hid hl
  clear hm hl hs HM14 HB14 HS14 HLX14 HLK14 HLY14
  obtain ⟨wl, hwl⟩ : ∃ W, (w14.alloc (.cells oneS.A 50 (0, 0))) = W := ⟨_, rfl⟩
  rw [hwl] at HM15 HB15 HS15 HLX15 HLY15 HLZ15 ⊢
  generalize hP : Try.prog = P
  have HK := Lib.hid (fun (W : World) (h : Below wl.heap.size wl W) => (show ((loadS (.pointer (some ⟨w8.heap.size, 0, none⟩))).run P W = .ok (.agg twoS.A) W ∧ (loadS (.pointer (some ⟨w12.heap.size, 0, none⟩))).run P W = .ok (.agg oneS.A) W ∧ (loadS (.pointer (some ⟨w14.heap.size, 0, none⟩))).run P W = .ok (.agg oneS.A) W ∧ Below wl.heap.size wl W) from by rw [← hP]; exact ⟨run_loadS_block (HLX15.out.below h (Nat.le_refl _)).at_, run_loadS_block (HLY15.out.below h (Nat.le_refl _)).at_, run_loadS_block (HLZ15.out.below h (Nat.le_refl _)).at_, h⟩))
  have HS0 := Lib.hid (HK.out wl (Below.refl _ _))
  have HSD := Lib.hid (fun (W : World) (h : ((loadS (.pointer (some ⟨w8.heap.size, 0, none⟩))).run P W = .ok (.agg twoS.A) W ∧ (loadS (.pointer (some ⟨w12.heap.size, 0, none⟩))).run P W = .ok (.agg oneS.A) W ∧ (loadS (.pointer (some ⟨w14.heap.size, 0, none⟩))).run P W = .ok (.agg oneS.A) W ∧ Below wl.heap.size wl W)) => HK.out W.drew h.2.2.2.drew)
  have HSC := Lib.hid (fun (W W' : World) (h : ((loadS (.pointer (some ⟨w8.heap.size, 0, none⟩))).run P W = .ok (.agg twoS.A) W ∧ (loadS (.pointer (some ⟨w12.heap.size, 0, none⟩))).run P W = .ok (.agg oneS.A) W ∧ (loadS (.pointer (some ⟨w14.heap.size, 0, none⟩))).run P W = .ok (.agg oneS.A) W ∧ Below wl.heap.size wl W)) (hb : Below W.heap.size W W') => HK.out W' (h.2.2.2.trans (hb.mono h.2.2.2.size)))
  have hm : P.eqGuardType P.depth 50 = false := by rw [← hP]; kernel_rfl
  have hq1 : ∀ W, (eqlS (.agg twoS.A) (.agg (Sec.fill 2 2).A)).run P W = .ok (.bool true) W := fun W => by have h := run_eqlS W twoS (Sec.fill 2 2); rw [decide_eq_true (show twoS = Sec.fill 2 2 from rfl), hP] at h; exact h
  have hq2 : ∀ W, (eqlS (.agg oneS.A) (.agg (Sec.fill 1 1).A)).run P W = .ok (.bool true) W := fun W => by have h := run_eqlS W oneS (Sec.fill 1 1); rw [decide_eq_true (show oneS = Sec.fill 1 1 from rfl), hP] at h; exact h
  have Hones : Hid (∀ W, Calls P 32 #[] W fun e w' => e = .returned (.agg (Sec.fill 1 1).A) ∧ Below W.heap.size W w') := Lib.hid (fun W => by rw [← hP]; exact ones_any W)
  have Htwos : Hid (∀ W, Calls P 36 #[] W fun e w' => e = .returned (.agg (Sec.fill 2 2).A) ∧ Below W.heap.size W w') := Lib.hid (fun W => by rw [← hP]; exact twos_any W)
  have hcfones : ∀ args w, (callFunc 32 args).run P w = .ok (.enter 32 args) w := by rw [← hP]; intro args w; kernel_rfl
  have hcftwos : ∀ args w, (callFunc 36 args).run P w = .ok (.enter 36 args) w := by rw [← hP]; intro args w; kernel_rfl
  clear hwl
  have HP := Lib.hid hP
  clear hP
  go_region_held3 (fun W => ((loadS (.pointer (some ⟨w8.heap.size, 0, none⟩))).run P W = .ok (.agg twoS.A) W ∧ (loadS (.pointer (some ⟨w12.heap.size, 0, none⟩))).run P W = .ok (.agg oneS.A) W ∧ (loadS (.pointer (some ⟨w14.heap.size, 0, none⟩))).run P W = .ok (.agg oneS.A) W ∧ Below wl.heap.size wl W)) (first | assumption | exact HS0.out | exact HSD.out _ (by assumption) | exact HSD.out _ HS0.out) ((first | (go_at_call 32; (with_reducible refine (Hones.out _).mono ?_); rintro e wz ⟨rfl, hbz⟩; have hSz := HSC.out _ _ (by first | assumption | exact HSD.out _ (by assumption) | exact HSD.out _ HS0.out | exact HS0.out) hbz) | (go_at_call 36; (with_reducible refine (Htwos.out _).mono ?_); rintro e wz ⟨rfl, hbz⟩; have hSz := HSC.out _ _ (by first | assumption | exact HSD.out _ (by assumption) | exact HSD.out _ HS0.out | exact HS0.out) hbz) | fail))
  all_goals go_wp2
  all_goals go_ret
  all_goals exact ⟨rfl, HB15.out.trans (hSz.2.2.2.mono HS15.out)⟩
end Go.Proofs.Ytpboknepfjeljaa
