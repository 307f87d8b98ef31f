/- The law's put: writes, each with a flush or without. -/
import Derived.Test.YtpboknepfjeljaaAwake
namespace Go.Proofs.Ytpboknepfjeljaa
open Go.RowKit Go.MapKept
attribute [local go_sem ↓] loadS_eq storeS_eq loadW_eq storeW_eq allocS_eq neqS_eq eqlS_eq
attribute [local go_sem ↓] Go.wp_at_zero Go.wp_at_succ
set_option maxRecDepth 100000

/-- A write of the law: its sector and first byte, the byte it is filled with, whether all is flushed behind it. -/
structure Pu where
  at_ : UInt8
  b : UInt8
  fl : Bool
def Pu.cs (p : Pu) : List Value := [.int .u8 (p.at_.toNat : Int), .int .u8 (p.b.toNat : Int), .bool p.fl]
abbrev PutsAt (w : World) (v : Value) (L : List Pu) : Prop := ElemsAt 3 w v (L.map Pu.cs)
def Pu.sec (p : Pu) : Sec := Sec.fill p.at_ p.b
def Pu.num (p : Pu) : Nat := p.at_.toNat % 64
def putD (D : Dv) (p : Pu) : Dv := if p.fl then settleD (push D p.num p.sec) else push D p.num p.sec
def putsD (D : Dv) (L : List Pu) : Dv := L.foldl putD D
theorem putsD_take (D : Dv) (L : List Pu) (k : Nat) (hk : k < L.length) : putsD D (L.take (k + 1)) = putD (putsD D (L.take k)) L[k] := by
  rw [List.take_succ_eq_append_getElem hk]; unfold putsD; rw [List.foldl_append]; rfl
/-- A device that takes m more writes. -/
structure Takes (D : Dv) (m : Nat) : Prop where
  off : D.off = false
  pw : D.pw = -1
  ca : D.ca.length + m ≤ 400
  tk : D.tk + m ≤ 1000000000000
  st : D.st.length = 64
theorem Takes.plain {D : Dv} {m : Nat} (h : Takes D m) (h0 : 0 < m) : Plain D := ⟨h.off, h.pw, by have := h.ca; omega, by have := h.tk; omega⟩
theorem Takes.push {D : Dv} {m : Nat} (h : Takes D (m + 1)) (i : Int) (s : Sec) : Takes (push D i s) m :=
  ⟨h.off, h.pw, by have := h.ca; show (D.ca ++ [_]).length + m ≤ 400; simp; omega, by have := h.tk; show D.tk + 1 + m ≤ _; omega, h.st⟩
theorem Takes.settle {D : Dv} {m : Nat} (h : Takes D m) : Takes (settleD D) m :=
  ⟨h.off, h.pw, by have := h.ca; show 0 + m ≤ 400; omega, h.tk, by show (settleV D.st D.ca).length = 64; rw [settleV_len]; exact h.st⟩
theorem Takes.put {D : Dv} {m : Nat} (h : Takes D (m + 1)) (p : Pu) : Takes (putD D p) m := by
  unfold putD; split
  · exact (h.push _ _).settle
  · exact h.push _ _
theorem Takes.puts {D : Dv} : ∀ (L : List Pu) (m : Nat) (D : Dv), Takes D (L.length + m) → Takes (putsD D L) m
  | [], m, D, h => by simpa [putsD] using h
  | p :: L, m, D, h => Takes.puts (D := D) L m (putD D p) (Takes.put (by rw [show L.length + m + 1 = (p :: L).length + m from by simp; omega]; exact h) p)
theorem Takes.less {D : Dv} {m k : Nat} (h : Takes D m) (hk : k ≤ m) : Takes D k := ⟨h.off, h.pw, by have := h.ca; omega, by have := h.tk; omega, h.st⟩
theorem takes_new (m : Nat) (h : m ≤ 400) : Takes (newD 64) m := ⟨rfl, rfl, by show 0 + m ≤ 400; omega, by show (0 : Int) + m ≤ _; omega, by simp [newD]⟩
theorem put_cells {w : World} {a : Option Addr} {n c : Nat} {L : List Pu} (h : PutsAt w (.slice a n c) L) (k : Nat) (hk : k < L.length) : ∃ g o, a = some ⟨g, o, none⟩ ∧ g < w.heap.size ∧ w.cell? ⟨g, o + k * 3, none⟩ = some (.int .u8 (L[k].at_.toNat : Int)) ∧ w.cell? ⟨g, o + k * 3 + 1, none⟩ = some (.int .u8 (L[k].b.toNat : Int)) ∧ w.cell? ⟨g, o + k * 3 + 2, none⟩ = some (.bool L[k].fl) := by
  rcases h with ⟨a', c', hv, hn⟩ | ⟨g, o, c', hv, hg, hc⟩
  · simp at hn; subst hn; simp at hk
  · cases hv
    have := hc k L[k].cs (by simp [hk])
    exact ⟨g, o, rfl, hg, this 0 _ rfl, this 1 _ rfl, this 2 _ rfl⟩
/-- A slice that no call on the devices turns. -/
def Safe (n : Nat) (F : Nat → Prop) (v : Value) : Prop := ∀ g o m c, v = .slice (some ⟨g, o, none⟩) m c → m ≠ 0 → g < n ∨ F g
theorem Safe.off {n : Nat} {F : Nat → Prop} {v : Value} (h : Safe n F v) : offX (Out n F) v := fun g o m c e hm hx => (h g o m c e hm).elim (fun h => by have := hx.1; omega) hx.2
theorem Safe.sub {n : Nat} {F G : Nat → Prop} {v : Value} (h : Safe n F v) (hs : ∀ k, F k → G k) : Safe n G v := fun g o m c e hm => (h g o m c e hm).imp id (hs g)
theorem puts_val {w : World} {v : Value} {L : List Pu} (h : PutsAt w v L) : ∃ a c, v = .slice a L.length c := by
  obtain ⟨a, c, h⟩ := h.val; rw [List.length_map] at h; exact ⟨a, c, h⟩
theorem u8_rem (a : UInt8) : ((a.toNat : Int)).tmod 64 = ((a.toNat % 64 : Nat) : Int) := by rw [Int.tmod_eq_emod_of_nonneg (by omega)]; rfl

theorem flush0_many {n b : Nat} {F : Nat → Prop} {w : World} {l1 l2 : List (Nat × Dv)} {D : Dv} (h : Many n F w (l1 ++ (b, D) :: l2)) (hn : n ≤ w.heap.size) (ho : D.off = false) :
    Calls Try.prog 27 #[.pointer (some ⟨b, 0, none⟩)] w fun e w' => e = .returned (.int .i64 0) ∧ Ran n F w (l1 ++ (b, settleD D) :: l2) w' := by
  have := flush_many h hn
  have e1 : readyE D = 0 := by unfold readyE; rw [ho]; rfl
  have e2 : flushD D = settleD D := by unfold flushD; rw [ho]; rfl
  rwa [e1, e2] at this
theorem Ran.trans {n : Nat} {F : Nat → Prop} {w w1 w2 : World} {l l' : List (Nat × Dv)} (h : Ran n F w l w1) (k : Ran n F w1 l' w2) : Ran n F w l' w2 := ⟨k.many, h.kept.trans k.kept, k.size⟩

/-- Two operations behind a guard that is off, under names: so that the walk does not try to take them first. -/
def mvOp : Op := Op.move (Operand.tmp 0)
def boOp : Op := Op.binOp BinOp.neq 26 (Operand.tmp 41) (Operand.const (Value.int IntKind.i64 0)) 26
set_option maxHeartbeats 1000000 in
theorem put_step {n b : Nat} {F : Nat → Prop} {l1 l2 : List (Nat × Dv)} {w : World} {D : Dv} (hM : Many n F w (l1 ++ (b, D) :: l2)) (hn : n ≤ w.heap.size) (v : Value) (L : List Pu) (hv : PutsAt w v L) (hs : Safe n F v) (ht : Takes D L.length) :
    Calls Try.prog 21 #[.pointer (some ⟨b, 0, none⟩), v] w fun e w' => e = .returned (.bool true) ∧ Ran n F w (l1 ++ (b, putsD D L) :: l2) w' := by
  obtain ⟨a, c, rfl⟩ := puts_val hv
  have hL : L.length ≤ 400 := by have := ht.ca; omega
  have HM := Lib.hid hM
  have HN := Lib.hid hn
  have HV := Lib.hid hv
  have HS := Lib.hid hs
  have HT := Lib.hid ht
  clear hM hn hv hs ht
  go_enter Try.func21, Try.ntmps21
  go_wp2
  go_loopw [5] (fun i wr => ∃ k : Nat, k ≤ L.length ∧ i = .int .i64 k ∧ Hid (Many n F wr (l1 ++ (b, putsD D (L.take k)) :: l2)) ∧ Hid (Kept (Out n F) w wr)) (fun i _ => L.length - (intOf i).toNat)
  case atStart => exact ⟨0, Nat.zero_le _, rfl, HM, Lib.hid (Kept.refl _ _)⟩
  case round =>
    obtain ⟨k, hk, rfl, HMk, HKk⟩ := hrel
    by_cases hlt : k < L.length
    · obtain ⟨g, o, rfl, hg, c0, c1, c2⟩ := put_cells (ElemsAt.kept HV.out HKk.out HS.out.off) k hlt
      have HD : Hid (putsD D (L.take (k + 1)) = putD (putsD D (L.take k)) L[k]) := Lib.hid (putsD_take D L k hlt)
      have HTk : Hid (Takes (putsD D (L.take k)) (L.length - k)) := Lib.hid (Takes.puts (D := D) (L.take k) (L.length - k) D (by rw [List.length_take, Nat.min_eq_left hk, Nat.add_sub_cancel' hk]; exact HT.out))
      generalize putsD D (L.take k) = E at *
      generalize L[k] = p at *
      have hnw : n ≤ wr.heap.size := Nat.le_trans HN.out HKk.out.size
      have hgF : g < n ∨ F g := HS.out g o L.length c rfl (by omega)
      have hrem := u8_rem p.at_
      have hkl : (k : Int) < (L.length : Int) := by omega
      obtain ⟨W0, hW0⟩ : ∃ W0, wr = W0 := ⟨_, rfl⟩
      rw [hW0] at HMk HKk hg c0 c1 c2 hnw ⊢
      obtain ⟨pa, pb, pf⟩ := p
      simp only at c0 c1 c2 hrem
      have hb0 : pa.toNat % 64 < 64 := Nat.mod_lt _ (by omega)
      have hb1 : pa.toNat ≤ 255 := by have := pa.toNat_lt; omega
      have HPl := Lib.hid (HTk.out.plain (by omega))
      have HIN : Hid (inS E.st.length ((pa.toNat % 64 : Nat) : Int) = true) := Lib.hid (inS_mk (by omega) (by rw [HTk.out.st]; omega))
      have HOF : Hid ((push E ((pa.toNat % 64 : Nat) : Int) (Sec.fill pa pb)).off = false) := Lib.hid HTk.out.off
      have hgO : ¬ Out n F g := fun h => hgF.elim (fun h' => by have := h.1; omega) h.2
      have HWR := Lib.hid (fun (wz : World) (h : Many n F wz (l1 ++ (b, E) :: l2)) (hn : n ≤ wz.heap.size) => (show Calls Try.prog 30 #[.pointer (some ⟨b, 0, none⟩), .int .i64 (IntKind.i64.wrap ((pa.toNat : Int) % 64)), .agg (Sec.fill pa pb).A] wz fun e w' => e = .returned (.int .i64 0) ∧ Ran n F wz (l1 ++ (b, push E ((pa.toNat % 64 : Nat) : Int) (Sec.fill pa pb)) :: l2) w' from by
        have hwi : IntKind.i64.wrap ((pa.toNat : Int) % 64) = ((pa.toNat % 64 : Nat) : Int) := by rw [IntWalk.i64_in _ (by omega)]; omega
        rw [hwi]
        exact write0_many h hn HPl.out _ (Sec.fill pa pb) HIN.out))
      clear hgF
      go_wp2
      cases pf
      · have HPUT : Hid (putD E ⟨pa, pb, false⟩ = push E (Pu.num ⟨pa, pb, false⟩) (Sec.fill pa pb)) := Lib.hid rfl
        have HK := Lib.hid (fun (W : World) (h : Kept (Out n F) W0 W) => (show (W.cell? ⟨g, o + k * 3, none⟩ = some (.int .u8 (pa.toNat : Int)) ∧ W.cell? ⟨g, o + k * 3 + 1, none⟩ = some (.int .u8 (pb.toNat : Int)) ∧ W.cell? ⟨g, o + k * 3 + 2, none⟩ = some (.bool false) ∧ Hid (Kept (Out n F) W0 W)) from ⟨(h.cell hg hgO).trans c0, (h.cell hg hgO).trans c1, (h.cell hg hgO).trans c2, h⟩))
        have HS0 := Lib.hid (HK.out W0 (Kept.refl _ _))
        have HSD := Lib.hid (fun (W : World) (h : (W.cell? ⟨g, o + k * 3, none⟩ = some (.int .u8 (pa.toNat : Int)) ∧ W.cell? ⟨g, o + k * 3 + 1, none⟩ = some (.int .u8 (pb.toNat : Int)) ∧ W.cell? ⟨g, o + k * 3 + 2, none⟩ = some (.bool false) ∧ Hid (Kept (Out n F) W0 W))) => HK.out W.drew h.2.2.2.out.drew)
        clear c0 c1 c2
        rw [show Op.move (Operand.tmp 0) = mvOp from rfl, show Op.binOp BinOp.neq 26 (Operand.tmp 41) (Operand.const (Value.int IntKind.i64 0)) 26 = boOp from rfl]
        have hmv2 : mvOp = Op.move (Operand.tmp 0) := rfl
        have hbo2 : boOp = Op.binOp BinOp.neq 26 (Operand.tmp 41) (Operand.const (Value.int IntKind.i64 0)) 26 := rfl
        go_region_held3 (fun W => (W.cell? ⟨g, o + k * 3, none⟩ = some (.int .u8 (pa.toNat : Int)) ∧ W.cell? ⟨g, o + k * 3 + 1, none⟩ = some (.int .u8 (pb.toNat : Int)) ∧ W.cell? ⟨g, o + k * 3 + 2, none⟩ = some (.bool false) ∧ Hid (Kept (Out n F) W0 W))) (first | assumption | exact HS0.out | exact HSD.out _ (by assumption) | exact HSD.out _ HS0.out) ((first
        | (go_at_call 22; (with_reducible refine (filled_any pa pb _).mono ?_); rintro e wz ⟨rfl, hbz⟩; have hSz := HK.out wz ((Kept.refl _ W0).drew.below hbz (Nat.le_refl _)); have HMz := Lib.hid ((HMk.out.mem (Mem.drew W0)).below hbz (Nat.le_refl _)); have HNz := Lib.hid (Nat.le_trans hnw (show W0.heap.size ≤ wz.heap.size from hbz.size)))
        | (go_at_call 30; (with_reducible refine (HWR.out _ HMz.out HNz.out).mono ?_); rintro e wy ⟨rfl, hry⟩; have hSy := HK.out wy (Kept.trans (by exact hSz.2.2.2.out) hry.kept); have HMy := Lib.hid hry.many; have HNy := Lib.hid hry.size)
        | (go_at_call 27; (with_reducible refine (flush0_many HMy.out HNy.out HOF.out).mono ?_); rintro e wf ⟨rfl, hrf⟩; have hSf := HK.out wf (Kept.trans (by exact hSy.2.2.2.out) hrf.kept); have HMf := Lib.hid hrf.many)
        | fail))
        all_goals
          go_wp2
          go_roundw
          case rel => exact ⟨k + 1, by omega, by go_num, Lib.hid (by rw [HD.out, HPUT.out]; exact HMy.out), Lib.hid (HKk.out.trans hSy.2.2.2.out)⟩
          case measure => simp [intOf]; omega
      · have HPUT : Hid (putD E ⟨pa, pb, true⟩ = settleD (push E (Pu.num ⟨pa, pb, true⟩) (Sec.fill pa pb))) := Lib.hid rfl
        have HK := Lib.hid (fun (W : World) (h : Kept (Out n F) W0 W) => (show (W.cell? ⟨g, o + k * 3, none⟩ = some (.int .u8 (pa.toNat : Int)) ∧ W.cell? ⟨g, o + k * 3 + 1, none⟩ = some (.int .u8 (pb.toNat : Int)) ∧ W.cell? ⟨g, o + k * 3 + 2, none⟩ = some (.bool true) ∧ Hid (Kept (Out n F) W0 W)) from ⟨(h.cell hg hgO).trans c0, (h.cell hg hgO).trans c1, (h.cell hg hgO).trans c2, h⟩))
        have HS0 := Lib.hid (HK.out W0 (Kept.refl _ _))
        have HSD := Lib.hid (fun (W : World) (h : (W.cell? ⟨g, o + k * 3, none⟩ = some (.int .u8 (pa.toNat : Int)) ∧ W.cell? ⟨g, o + k * 3 + 1, none⟩ = some (.int .u8 (pb.toNat : Int)) ∧ W.cell? ⟨g, o + k * 3 + 2, none⟩ = some (.bool true) ∧ Hid (Kept (Out n F) W0 W))) => HK.out W.drew h.2.2.2.out.drew)
        clear c0 c1 c2
        go_region_held3 (fun W => (W.cell? ⟨g, o + k * 3, none⟩ = some (.int .u8 (pa.toNat : Int)) ∧ W.cell? ⟨g, o + k * 3 + 1, none⟩ = some (.int .u8 (pb.toNat : Int)) ∧ W.cell? ⟨g, o + k * 3 + 2, none⟩ = some (.bool true) ∧ Hid (Kept (Out n F) W0 W))) (first | assumption | exact HS0.out | exact HSD.out _ (by assumption) | exact HSD.out _ HS0.out) ((first
        | (go_at_call 22; (with_reducible refine (filled_any pa pb _).mono ?_); rintro e wz ⟨rfl, hbz⟩; have hSz := HK.out wz ((Kept.refl _ W0).drew.below hbz (Nat.le_refl _)); have HMz := Lib.hid ((HMk.out.mem (Mem.drew W0)).below hbz (Nat.le_refl _)); have HNz := Lib.hid (Nat.le_trans hnw (show W0.heap.size ≤ wz.heap.size from hbz.size)))
        | (go_at_call 30; (with_reducible refine (HWR.out _ HMz.out HNz.out).mono ?_); rintro e wy ⟨rfl, hry⟩; have hSy := HK.out wy (Kept.trans (by exact hSz.2.2.2.out) hry.kept); have HMy := Lib.hid hry.many; have HNy := Lib.hid hry.size)
        | (go_at_call 27; (with_reducible refine (flush0_many HMy.out HNy.out HOF.out).mono ?_); rintro e wf ⟨rfl, hrf⟩; have hSf := HK.out wf (Kept.trans (by exact hSy.2.2.2.out) hrf.kept); have HMf := Lib.hid hrf.many)
        | fail))
        all_goals
          go_wp2
          go_roundw
          case rel => exact ⟨k + 1, by omega, by go_num, Lib.hid (by rw [HD.out, HPUT.out]; exact HMf.out), Lib.hid (HKk.out.trans hSf.2.2.2.out)⟩
          case measure => simp [intOf]; omega
    · have HT1 := Lib.hid (take_all L hlt)
      have d1 : decide ((k : Int) < L.length) = false := by simp; omega
      go_wp2
      go_ret
      refine ⟨rfl, ?_⟩
      have h := HMk.out
      rw [HT1.out] at h
      exact ⟨h, HKk.out, Nat.le_trans HN.out HKk.out.size⟩
end Go.Proofs.Ytpboknepfjeljaa
