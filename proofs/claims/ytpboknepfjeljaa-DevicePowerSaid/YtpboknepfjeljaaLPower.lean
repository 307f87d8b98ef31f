/- The law DevicePower: the walk. -/
import Derived.Test.YtpboknepfjeljaaPowerV
namespace Go.Proofs.Ytpboknepfjeljaa
open Go.RowKit Go.MapKept
attribute [local go_sem ↓] loadS_eq storeS_eq loadW_eq storeW_eq allocS_eq neqS_eq eqlS_eq alloc64_eq
attribute [local go_sem ↓] Go.wp_at_zero Go.wp_at_succ
noncomputable def minS (xs : Array Value) : Sem Value := Builtin.min_ #[] 0 xs
theorem minS_eq (ts : Array TypeId) (t : TypeId) (xs : Array Value) : Builtin.min_ ts t xs = minS xs := rfl
theorem run_minS (P : Program) (x y : Int) (w : World) : (minS #[.int .i64 x, .int .i64 y]).run P w = .ok (.int .i64 (min x y)) w := by
  unfold minS
  rw [run_min_int2]
  congr 2
  split <;> omega
attribute [local go_sem ↓] minS_eq
def stOp : Op := Op.store 50 (Operand.tmp 11) (Operand.tmp 62)
def mv12 : Op := Op.move (Operand.tmp 12)
def bo13 : Op := Op.binOp BinOp.neq 26 (Operand.tmp 83) (Operand.const (Value.int IntKind.i64 13)) 26
theorem Many.less {n : Nat} {F G : Nat → Prop} {w : World} {l : List (Nat × Dv)} (h : Many n F w l) (hg : ∀ k, G k → F k) : Many n G w l :=
  h.change (Kept.refl (fun _ => False) w) (fun _ h => h.elim) (fun k hk => .inl (hg k hk)) (fun k hk => h.lt k (hg k hk))
def ldOp : Op := Op.load 50 (Operand.tmp 11)
set_option maxRecDepth 100000
attribute [local irreducible] World.setCells

set_option maxHeartbeats 4000000 in
theorem power_any (w : World) (v : Value) (L : List Pu) (m : Nat) (hv : PutsAt w v L) (hL : L.length ≤ maxLen) (hm : m ≤ 255) :
    Calls Try.prog 8 #[v, .int .u8 (m : Int)] w fun e w' => e = .returned (.bool true) ∧ Below w.heap.size w w' := by
  obtain ⟨a, c, rfl⟩ := puts_val hv
  unfold maxLen at hL
  by_cases h80 : 80 < L.length
  · have hI : (80 : Int) < (L.length : Int) := by omega
    clear hv
    go_enter Try.func8, Try.ntmps8
    go_wp2_with fail
    refine (awake_any w).mono ?_
    rintro e w1 ⟨rfl, hb⟩
    go_wp2_with fail
    go_ret
    exact ⟨rfl, hb⟩
  have hI : ¬ (80 : Int) < (L.length : Int) := by omega
  obtain ⟨N, hN⟩ : ∃ N, w.heap.size = N := ⟨_, rfl⟩
  obtain ⟨F0, hF0⟩ : ∃ F : Nat → Prop, (fun _ => False) = F := ⟨_, rfl⟩
  have HM0 : Hid (Many N F0 w []) := Lib.hid (by rw [← hF0, ← hN]; exact Many.none w)
  have HS0 : Hid (N ≤ w.heap.size) := Lib.hid (Nat.le_of_eq hN.symm)
  have HV := Lib.hid hv
  have HSF := Lib.hid (fun F => safe_arg hv F)
  rw [hN] at HSF
  have HN := Lib.hid hN
  rw [hN]
  clear hN hF0 hv
  go_enter Try.func8, Try.ntmps8
  go_wp2_with fail
  refine (new64_many HM0.out HS0.out).mono ?_
  rintro e w1 ⟨b, rfl, hm1, hb⟩
  have HM1 := Lib.hid hm1
  have HB1 := Lib.hid (hb.mono HS0.out)
  have HS1 : Hid (N ≤ w1.heap.size) := Lib.hid (Nat.le_trans HS0.out hb.size)
  clear hm1 hb HM0
  go_wp2_with fail
  refine (new64_many HM1.out HS1.out).mono ?_
  rintro e w2 ⟨o, rfl, hm2, hb⟩
  have HM2 : Hid (Many N F0 w2 [(b, newD 64), (o, newD 64)]) := Lib.hid hm2
  have HB2 := Lib.hid (HB1.out.trans (hb.mono HS1.out))
  have HS2 : Hid (N ≤ w2.heap.size) := Lib.hid (Nat.le_trans HS1.out hb.size)
  clear hm2 hb HM1 HB1 HS1
  have hlim := limit_many (l1 := []) HM2.out HS2.out (m : Int)
  rw [show limitE (m : Int) = 0 from by unfold limitE; rw [isPw_u8 m hm]; rfl, pD_zero L m, isPw_u8 m hm, if_pos rfl] at hlim
  have HLM := Lib.hid hlim
  clear hlim
  have hmi : (0 : Int) ≤ (m : Int) ∧ (m : Int) ≤ 255 := by omega
  go_wp2_with fail
  refine HLM.out.mono ?_
  rintro e w3 ⟨rfl, hr⟩
  have HM3 : Hid (Many N F0 w3 [(b, pD L m 0), (o, oD L m 0)]) := Lib.hid (by have h := hr.many; rw [oD_zero L m] at h; exact h)
  have HB3 := Lib.hid (HB2.out.trans (hr.below HS2.out))
  have HS3 := Lib.hid hr.size
  clear hr HM2 HB2 HS2 HLM
  have hmn := fun W => run_minS Try.prog (m : Int) (L.length : Int) W
  obtain ⟨q, hq⟩ : ∃ q, min L.length m = q := ⟨_, rfl⟩
  rw [show min (m : Int) (L.length : Int) = (q : Int) from by omega] at hmn
  go_wp2
  clear hmn
  go_loopw [10] (fun i wr => ∃ k : Nat, k ≤ L.length ∧ i = .int .i64 k ∧ Hid (Many N F0 wr [(b, pD L m k), (o, oD L m k)]) ∧ Hid (Below N w wr) ∧ N ≤ wr.heap.size) (fun i _ => L.length - (intOf i).toNat)
  case atStart => exact ⟨0, Nat.zero_le _, rfl, HM3, HB3, HS3.out⟩
  case round =>
    obtain ⟨k, hk, rfl, HMk, HBk, hSk⟩ := hrel
    clear HM3 HB3 HS3
    have hqL : q ≤ L.length := by omega
    by_cases hlt : k < L.length
    · obtain ⟨g, off, rfl, hg, c0, c1, c2⟩ := put_cells (ElemsAt.below HV.out HBk.out (by rw [HN.out]; exact Nat.le_refl _)) k hlt
      have HG : Hid (g < N) := Lib.hid (by
        obtain ⟨g', o', e1, e2, _⟩ := put_cells HV.out k hlt
        injection e1 with e1; injection e1 with e1; have := HN.out; omega)
      have HPN : Hid (L[k].num < 64) := Lib.hid (Nat.mod_lt _ (by omega))
      have HTA := Lib.hid (fun (h : k < m) => pD_take hlt (by omega) h)
      have HTO := Lib.hid (fun (h : k < m) => oD_take hlt (by omega) h)
      have HTX := Lib.hid (fun (h : ¬ k < m) => pD_off (L := L) hlt h)
      have HOX := Lib.hid (fun (h : ¬ k < m) => oD_off (L := L) (i := k) h)
      generalize L[k] = p at *
      obtain ⟨pa, pb, pf⟩ := p
      simp only at c0 c1 c2
      have hrem := u8_rem pa
      have hb0 : pa.toNat % 64 < 64 := Nat.mod_lt _ (by omega)
      have hb1 : pa.toNat ≤ 255 := by have := pa.toNat_lt; omega
      have hb2 : pb.toNat ≤ 255 := by have := pb.toNat_lt; omega
      have hkl : (k : Int) < (L.length : Int) := by omega
      obtain ⟨W0, hW0⟩ : ∃ W0, wr = W0 := ⟨_, rfl⟩
      rw [hW0] at HMk HBk hSk c0 c1 hg ⊢
      clear hW0 c2
      go_wp2
      have HK := Lib.hid (fun (W : World) (h : Below W0.heap.size W0 W) => (show W.cell? ⟨g, off + k * 3, none⟩ = some (.int .u8 (pa.toNat : Int)) ∧ W.cell? ⟨g, off + k * 3 + 1, none⟩ = some (.int .u8 (pb.toNat : Int)) ∧ Hid (Below W0.heap.size W0 W) from ⟨(h.cell (p := ⟨g, off + k * 3, none⟩) hg).trans c0, (h.cell (p := ⟨g, off + k * 3 + 1, none⟩) hg).trans c1, Lib.hid h⟩))
      have HSt := Lib.hid (HK.out W0 (Below.refl _ _))
      have HSD := Lib.hid (fun (W : World) (h : W.cell? ⟨g, off + k * 3, none⟩ = some (.int .u8 (pa.toNat : Int)) ∧ W.cell? ⟨g, off + k * 3 + 1, none⟩ = some (.int .u8 (pb.toNat : Int)) ∧ Hid (Below W0.heap.size W0 W)) => HK.out W.drew h.2.2.out.drew)
      have HSA := Lib.hid (fun (W : World) (x : Obj) (h : W.cell? ⟨g, off + k * 3, none⟩ = some (.int .u8 (pa.toNat : Int)) ∧ W.cell? ⟨g, off + k * 3 + 1, none⟩ = some (.int .u8 (pb.toNat : Int)) ∧ Hid (Below W0.heap.size W0 W)) => HK.out (W.alloc x) (h.2.2.out.alloc h.2.2.out.size x))
      have HSC := Lib.hid (fun (W W' : World) (h : W.cell? ⟨g, off + k * 3, none⟩ = some (.int .u8 (pa.toNat : Int)) ∧ W.cell? ⟨g, off + k * 3 + 1, none⟩ = some (.int .u8 (pb.toNat : Int)) ∧ Hid (Below W0.heap.size W0 W)) (hb : Below W.heap.size W W') => HK.out W' (h.2.2.out.trans (hb.mono h.2.2.out.size)))
      have HSR := Lib.hid (fun (W : World) (cs : Array Value) (h : W.cell? ⟨g, off + k * 3, none⟩ = some (.int .u8 (pa.toNat : Int)) ∧ W.cell? ⟨g, off + k * 3 + 1, none⟩ = some (.int .u8 (pb.toNat : Int)) ∧ Hid (Below W0.heap.size W0 W)) => HK.out (W.setRow W0.heap.size cs) (h.2.2.out.trans (((Kept.refl (fun b => b = W0.heap.size) W).setRow _ rfl cs).toBelow h.2.2.out.size (fun k e => by omega))))
      have HF : Hid (∀ W, Calls Try.prog 22 #[.int .u8 (pa.toNat : Int), .int .u8 (pb.toNat : Int)] W fun e w' => e = .returned (.agg (Sec.fill pa pb).A) ∧ Below W.heap.size W w') := Lib.hid (fun W => filled_any pa pb W)
      clear c0 c1
      have haS := run_allocS
      have hsN := run_storeS_new
      have HS2 := Lib.hid (fun (wz : World) (h : Below (W0.drew.alloc (.cells Sec.zero.A 50 (0, 0))).heap.size (W0.drew.alloc (.cells Sec.zero.A 50 (0, 0))) wz) => (show wz.heap[W0.heap.size]? = some (.cells Sec.zero.A 50 (0, 0)) ∧ (storeS (.pointer (some ⟨W0.heap.size, 0, none⟩)) (.agg (Sec.fill pa pb).A)).run Try.prog wz = .ok () (wz.setRow W0.heap.size (Sec.fill pa pb).A) from by
        have hx : wz.heap[W0.heap.size]? = some (.cells Sec.zero.A 50 (0, 0)) := (h.block W0.heap.size (by rw [World.size_alloc]; exact Nat.lt_succ_self _)).trans (heap_alloc_new W0.drew _)
        exact ⟨hx, run_storeS_block hx _⟩))
      rw [show Op.store 50 (Operand.tmp 11) (Operand.tmp 62) = stOp from rfl]
      have hstop : stOp = Op.store 50 (Operand.tmp 11) (Operand.tmp 62) := rfl
      go_region_held3 (fun W => W.cell? ⟨g, off + k * 3, none⟩ = some (.int .u8 (pa.toNat : Int)) ∧ W.cell? ⟨g, off + k * 3 + 1, none⟩ = some (.int .u8 (pb.toNat : Int)) ∧ Hid (Below W0.heap.size W0 W)) (first | assumption | exact HSt.out | exact HSD.out _ (by assumption) | exact HSD.out _ HSt.out | exact HSA.out _ _ (by assumption) | exact HSA.out _ _ (HSD.out _ HSt.out) | exact HSR.out _ _ (by assumption)) ((first | (go_at_call 22; (with_reducible refine (HF.out _).mono ?_); rintro e wz ⟨rfl, hbz⟩; have hSz := HSC.out _ _ (by first | assumption | exact HSD.out _ (by assumption) | exact HSD.out _ HSt.out | exact HSt.out | exact HSA.out _ _ (HSD.out _ HSt.out)) hbz; (first | (have hst2 := (HS2.out _ hbz).2; have hx2 := Lib.hid (HS2.out _ hbz).1) | skip)) | fail))
      all_goals
        have HX : ∃ (X : Nat) (W1 : World), True := ⟨0, W0, trivial⟩
        clear HX
        first
        | (obtain ⟨W1, hW1⟩ : ∃ W, wz.alloc (.cells (Sec.fill pa pb).A 50 (0, 0)) = W := ⟨_, rfl⟩
           rw [hW1]
           have HX := Lib.hid (show W1.heap[wz.heap.size]? = some (.cells (Sec.fill pa pb).A 50 (0, 0)) from by rw [← hW1]; exact heap_alloc_new wz _)
           have HB1 := Lib.hid (show Below W0.heap.size W0 W1 from by rw [← hW1]; exact hSz.2.2.out.alloc hSz.2.2.out.size _)
           have hX0 := hSz.2.2.out.size
           obtain ⟨X, hX⟩ : ∃ X, wz.heap.size = X := ⟨_, rfl⟩
           rw [hX] at HX hX0 ⊢
           clear hX hW1)
        | (obtain ⟨W1, hW1⟩ : ∃ W, wz.setRow W0.heap.size (Sec.fill pa pb).A = W := ⟨_, rfl⟩
           rw [hW1]
           have HX := Lib.hid (show W1.heap[W0.heap.size]? = some (.cells (Sec.fill pa pb).A 50 (0, 0)) from by rw [← hW1]; exact setRow_heap wz _ _ _ _ _ hx2.out)
           have HB1 := Lib.hid (show Below W0.heap.size W0 W1 from by rw [← hW1]; exact (HSR.out wz _ hSz).2.2.out)
           have hX0 := Nat.le_refl W0.heap.size
           obtain ⟨X, hX⟩ : ∃ X, W0.heap.size = X := ⟨_, rfl⟩
           rw [hX] at HX ⊢
           rw [show W0.heap.size ≤ W0.heap.size ↔ W0.heap.size ≤ X from by rw [hX]] at hX0
           clear hX hW1)
      all_goals
        have hXlt : X < W1.heap.size := (Array.getElem?_eq_some_iff.1 HX.out).1
        obtain ⟨F1, hF1⟩ : ∃ F : Nat → Prop, (fun k => F0 k ∨ k = X) = F := ⟨_, rfl⟩
        have HM1 : Hid (Many N F1 W1 [(b, pD L m k), (o, oD L m k)]) := Lib.hid (by rw [← hF1]; exact HMk.out.mark HB1.out X hX0 hXlt)
        have hS1 : N ≤ W1.heap.size := Nat.le_trans hSk HB1.out.size
        have HFX : Hid (F1 X) := Lib.hid (by rw [← hF1]; exact .inr rfl)
        have HF01 : Hid (∀ k, F0 k → F1 k) := Lib.hid (by rw [← hF1]; exact fun _ => .inl)
        have HB01 : Hid (Below N w W1) := Lib.hid (HBk.out.trans (HB1.out.mono hSk))
        have HK2 := Lib.hid (fun (W : World) (h : Kept (Out N F1) W1 W) => (show W.cell? ⟨g, off + k * 3, none⟩ = some (.int .u8 (pa.toNat : Int)) ∧ (loadS (.pointer (some ⟨X, 0, none⟩))).run Try.prog W = .ok (.agg (Sec.fill pa pb).A) W ∧ Hid (Kept (Out N F1) W1 W) from
          ⟨(h.cell (Nat.lt_of_lt_of_le HG.out hS1) (fun e => by have := e.1; have := HG.out; omega)).trans (HK.out W1 HB1.out).1, run_loadS_block ((h.block X hXlt (fun e => e.2 HFX.out)).trans HX.out), Lib.hid h⟩))
        have HT1 := Lib.hid (HK2.out W1 (Kept.refl _ _))
        have HT2 := Lib.hid (fun (W : World) (h : W.cell? ⟨g, off + k * 3, none⟩ = some (.int .u8 (pa.toNat : Int)) ∧ (loadS (.pointer (some ⟨X, 0, none⟩))).run Try.prog W = .ok (.agg (Sec.fill pa pb).A) W ∧ Hid (Kept (Out N F1) W1 W)) => HK2.out W.drew h.2.2.out.drew)
        clear HSt HSD HSA HSC HSR HS2 HF hSz hstop hsN haS hX0 hXlt HX HFX hF1 HK
        try clear hst2 hx2
        by_cases hkm : k < m
        · have hkq : (k : Int) < (q : Int) := by omega
          have HWR := Lib.hid (fun (wz : World) (h : Many N F1 wz [(b, pD L m k), (o, oD L m k)]) (hn : N ≤ wz.heap.size) => (show Calls Try.prog 30 #[.pointer (some ⟨b, 0, none⟩), .int .i64 (IntKind.i64.wrap ((pa.toNat : Int) % 64)), .agg (Sec.fill pa pb).A] wz fun e w' => e = .returned (.int .i64 0) ∧ Ran N F1 wz [(b, pD L m (k + 1)), (o, oD L m k)] w' from by
            have hwi : IntKind.i64.wrap ((pa.toNat : Int) % 64) = ((pa.toNat % 64 : Nat) : Int) := by rw [IntWalk.i64_in _ (by omega)]; omega
            have h2 := write_many (l1 := []) h hn ((pa.toNat % 64 : Nat) : Int) (Sec.fill pa pb)
            have t1 : writeE (pD L m k) ((pa.toNat % 64 : Nat) : Int) = 0 := (HTA.out hkm).1
            have t2 : writeD (pD L m k) ((pa.toNat % 64 : Nat) : Int) (Sec.fill pa pb) = pD L m (k + 1) := (HTA.out hkm).2
            rw [hwi]
            rw [t1, t2] at h2
            exact h2))
          have HWO := Lib.hid (fun (wz : World) (h : Many N F1 wz [(b, pD L m (k + 1)), (o, oD L m k)]) (hn : N ≤ wz.heap.size) => (show Calls Try.prog 30 #[.pointer (some ⟨o, 0, none⟩), .int .i64 (IntKind.i64.wrap ((pa.toNat : Int) % 64)), .agg (Sec.fill pa pb).A] wz fun e w' => e = .returned (.int .i64 0) ∧ Ran N F1 wz [(b, pD L m (k + 1)), (o, oD L m (k + 1))] w' from by
            have hwi : IntKind.i64.wrap ((pa.toNat : Int) % 64) = ((pa.toNat % 64 : Nat) : Int) := by rw [IntWalk.i64_in _ (by omega)]; omega
            have h2 := write_many (l1 := [_]) h hn ((pa.toNat % 64 : Nat) : Int) (Sec.fill pa pb)
            have t1 : writeE (oD L m k) ((pa.toNat % 64 : Nat) : Int) = 0 := (HTO.out hkm).1
            have t2 : writeD (oD L m k) ((pa.toNat % 64 : Nat) : Int) (Sec.fill pa pb) = oD L m (k + 1) := (HTO.out hkm).2
            rw [hwi]
            rw [t1, t2] at h2
            exact h2))
          clear HTA HTO HTX HOX
          go_wp2
          have HMd : Hid (Many N F1 W1.drew [(b, pD L m k), (o, oD L m k)]) := Lib.hid (HM1.out.mem (Mem.drew W1))
          have HNd : Hid (N ≤ W1.drew.heap.size) := Lib.hid hS1
          have HBd := Lib.hid HB01.out.drew
          rw [show Op.load 50 (Operand.tmp 11) = ldOp from rfl]
          have hld2 : ldOp = Op.load 50 (Operand.tmp 11) := rfl
          go_region_held3 (fun W => W.cell? ⟨g, off + k * 3, none⟩ = some (.int .u8 (pa.toNat : Int)) ∧ (loadS (.pointer (some ⟨X, 0, none⟩))).run Try.prog W = .ok (.agg (Sec.fill pa pb).A) W ∧ Hid (Kept (Out N F1) W1 W)) (first | assumption | exact HT1.out | exact HT2.out _ (by assumption) | exact HT2.out _ HT1.out) ((first | (go_at_call 30; (with_reducible refine (HWR.out _ HMd.out HNd.out).mono ?_); rintro e wy ⟨rfl, hry⟩; have hSy := HK2.out wy (Kept.trans (Kept.refl _ W1).drew hry.kept); have HMy := Lib.hid hry.many; have HNy := Lib.hid hry.size; have HBy := Lib.hid (HBd.out.trans (hry.below HNd.out))) | fail))
          have HKy := Lib.hid hSy.2.2.out
          have HT3 := Lib.hid (HT2.out wy hSy)
          have HMd2 : Hid (Many N F1 wy.drew [(b, pD L m (k + 1)), (o, oD L m k)]) := Lib.hid (HMy.out.mem (Mem.drew wy))
          have HNd2 : Hid (N ≤ wy.drew.heap.size) := Lib.hid HNy.out
          have HBd2 := Lib.hid HBy.out.drew
          clear HMd HNd HBd
          go_wp2
          rw [show Op.load 50 (Operand.tmp 11) = ldOp from rfl, show Op.move (Operand.tmp 12) = mv12 from rfl, show Op.binOp BinOp.neq 26 (Operand.tmp 83) (Operand.const (Value.int IntKind.i64 13)) 26 = bo13 from rfl]
          have hmv : mv12 = Op.move (Operand.tmp 12) := rfl
          have hbo : bo13 = Op.binOp BinOp.neq 26 (Operand.tmp 83) (Operand.const (Value.int IntKind.i64 13)) 26 := rfl
          go_region_held3 (fun W => W.cell? ⟨g, off + k * 3, none⟩ = some (.int .u8 (pa.toNat : Int)) ∧ (loadS (.pointer (some ⟨X, 0, none⟩))).run Try.prog W = .ok (.agg (Sec.fill pa pb).A) W ∧ Hid (Kept (Out N F1) W1 W)) (first | assumption | exact HT3.out | exact HT2.out _ (by assumption)) ((first | (go_at_call 30; (with_reducible refine (HWO.out _ HMd2.out HNd2.out).mono ?_); rintro e wq ⟨rfl, hrq⟩; have hSq := HK2.out wq (Kept.trans (Kept.trans HKy.out (Kept.refl _ wy).drew) hrq.kept); have HMq := Lib.hid hrq.many; have HNq := Lib.hid hrq.size; have HBq := Lib.hid (HBd2.out.trans (hrq.below HNd2.out))) | fail))
          all_goals
            go_wp2
            go_roundw
            case rel => exact ⟨k + 1, by omega, by go_num, Lib.hid (HMq.out.less HF01.out), HBq, HNq.out⟩
            case measure => simp [intOf]; omega
        · have hkq : decide (k < q) = false := by simp; omega
          have hkq2 : decide ((k : Int) < (q : Int)) = false := by simp; omega
          have HWR := Lib.hid (fun (wz : World) (h : Many N F1 wz [(b, pD L m k), (o, oD L m k)]) (hn : N ≤ wz.heap.size) => (show Calls Try.prog 30 #[.pointer (some ⟨b, 0, none⟩), .int .i64 (IntKind.i64.wrap ((pa.toNat : Int) % 64)), .agg (Sec.fill pa pb).A] wz fun e w' => e = .returned (.int .i64 13) ∧ Ran N F1 wz [(b, pD L m (k + 1)), (o, oD L m (k + 1))] w' from by
            have hwi : IntKind.i64.wrap ((pa.toNat : Int) % 64) = ((pa.toNat % 64 : Nat) : Int) := by rw [IntWalk.i64_in _ (by omega)]; omega
            have h2 := write_many (l1 := []) h hn ((pa.toNat % 64 : Nat) : Int) (Sec.fill pa pb)
            have t1 : writeE (pD L m k) ((pa.toNat % 64 : Nat) : Int) = 13 := (HTX.out hkm).1
            have t2 : writeD (pD L m k) ((pa.toNat % 64 : Nat) : Int) (Sec.fill pa pb) = pD L m (k + 1) := (HTX.out hkm).2
            rw [hwi, ← HOX.out hkm]
            rw [t1, t2] at h2
            exact h2))
          clear HTA HTO HTX HOX
          go_wp2
          have HMd : Hid (Many N F1 W1.drew [(b, pD L m k), (o, oD L m k)]) := Lib.hid (HM1.out.mem (Mem.drew W1))
          have HNd : Hid (N ≤ W1.drew.heap.size) := Lib.hid hS1
          have HBd := Lib.hid HB01.out.drew
          rw [show Op.load 50 (Operand.tmp 11) = ldOp from rfl]
          have hld2 : ldOp = Op.load 50 (Operand.tmp 11) := rfl
          go_region_held3 (fun W => W.cell? ⟨g, off + k * 3, none⟩ = some (.int .u8 (pa.toNat : Int)) ∧ (loadS (.pointer (some ⟨X, 0, none⟩))).run Try.prog W = .ok (.agg (Sec.fill pa pb).A) W ∧ Hid (Kept (Out N F1) W1 W)) (first | assumption | exact HT1.out | exact HT2.out _ (by assumption) | exact HT2.out _ HT1.out) ((first | (go_at_call 30; (with_reducible refine (HWR.out _ HMd.out HNd.out).mono ?_); rintro e wy ⟨rfl, hry⟩; have hSy := HK2.out wy (Kept.trans (Kept.refl _ W1).drew hry.kept); have HMy := Lib.hid hry.many; have HNy := Lib.hid hry.size; have HBy := Lib.hid (HBd.out.trans (hry.below HNd.out))) | fail))
          have hc0 := hSy.1
          clear HMd HNd HBd hld2 hSy HT1 HT2 HK2
          go_wp2
          go_quiet (fail)
          go_wp2
          go_roundw
          case rel => exact ⟨k + 1, by omega, by go_num, Lib.hid ((HMy.out.less HF01.out).mem ⟨rfl, rfl, rfl, rfl⟩), Lib.hid (HBy.out.trans ⟨rfl, rfl, rfl, Nat.le_refl _, fun _ _ => rfl⟩), HNy.out⟩
          case measure => simp [intOf]; omega
    · obtain rfl : k = L.length := by omega
      have hcs : (crashedD (pD L m L.length) (allI q)).st.length = 64 := by
        show (settleV zs _).length = 64
        rw [settleV_len]; exact zs_len
      have HCI : Hid (inS (crashedD (pD L m L.length) (allI q)).st.length 0 = true) := Lib.hid (by rw [hcs]; rfl)
      have HCL : Hid ((crashedD (pD L m L.length) (allI q)).st.length = (oD L m L.length).st.length) := Lib.hid (hcs.trans zs_len.symm)
      have HRR := Lib.hid (pD_reads L m)
      rw [hq] at HRR
      have HPC : Hid (Plain (crashedD (pD L m L.length) (allI q))) := Lib.hid ⟨rfl, rfl, by show 0 < 400; omega, by show ((min L.length m : Nat) : Int) < _; omega⟩
      have HCK0 := Lib.hid (pD_keep L m)
      rw [hq] at HCK0
      have hqca := pD_ca L m
      rw [hq] at hqca
      have HM2 := HMk
      have HB2 := HBk
      have HS2 : Hid (N ≤ wr.heap.size) := Lib.hid hSk
      have HTK : Hid (Calls Try.prog 24 #[.pointer (some ⟨b, 0, none⟩)] wr fun e w' => e = .returned (.int .i64 (q : Int)) ∧ wr = w') := Lib.hid (by
        have h := taken_many (l1 := []) HM2.out HS2.out
        rw [show (pD L m L.length).tk = (q : Int) from by rw [← hq]; rfl] at h; exact h)
      have HPE : Hid (Calls Try.prog 25 #[.pointer (some ⟨b, 0, none⟩)] wr fun e w' => e = .returned (.int .i64 (q : Int)) ∧ wr = w') := Lib.hid (by
        have h := pending_many (l1 := []) HM2.out HS2.out
        rw [hqca] at h; exact h)
      clear hcs hqca HMk HBk hSk hk hlt HV HSF HS0
      by_cases hoff : m < L.length
      · have hqn : ¬ (q : Int) = (L.length : Int) := by omega
        have hqn2 : ¬ q = L.length := by omega
        have hD : (pD L m L.length).off = true := by simp [pD]; exact hoff
        have HON : Hid (Calls Try.prog 31 #[.pointer (some ⟨b, 0, none⟩)] wr fun e w' => e = .returned (.bool false) ∧ wr = w') := Lib.hid (by
          have h := on_many (l1 := []) HM2.out HS2.out
          rw [hD] at h; exact h)
        have HRD : Hid (Calls Try.prog 23 #[.pointer (some ⟨b, 0, none⟩), .int .i64 0] wr fun e w' => e = .returned (.tuple #[.agg Sec.zero.A, .int .i64 13]) ∧ Below wr.heap.size wr w') := Lib.hid (by
          have h := read_many (l1 := []) HM2.out HS2.out 0
          rw [show readE (pD L m L.length) 0 = 13 from by unfold readE; rw [hD]; rfl, show readD (pD L m L.length) 0 = Sec.zero from by unfold readD; rw [hD]; rfl] at h; exact h)
        have HFL : Hid (∀ wz, Many N F0 wz [(b, pD L m L.length), (o, oD L m L.length)] → N ≤ wz.heap.size → Calls Try.prog 27 #[.pointer (some ⟨b, 0, none⟩)] wz fun e w' => e = .returned (.int .i64 13) ∧ Ran N F0 wz [(b, pD L m L.length), (o, oD L m L.length)] w') := Lib.hid (fun wz h hn => by
          have h := flush_many (l1 := []) h hn
          rw [show readyE (pD L m L.length) = 13 from by unfold readyE; rw [hD]; rfl, show flushD (pD L m L.length) = pD L m L.length from by unfold flushD; rw [hD]; rfl] at h; exact h)
        have HLI : Hid (∀ wz, Many N F0 wz [(b, pD L m L.length), (o, oD L m L.length)] → N ≤ wz.heap.size → Calls Try.prog 29 #[.pointer (some ⟨b, 0, none⟩), .int .i64 5] wz fun e w' => e = .returned (.int .i64 0) ∧ Ran N F0 wz [(b, { pD L m L.length with pw := 5 }), (o, oD L m L.length)] w') := Lib.hid (fun wz h hn => by
          have h := limit_many (l1 := []) h hn 5
          exact h)
        have HON2 : Hid (∀ wz, Many N F0 wz [(b, { pD L m L.length with pw := 5 }), (o, oD L m L.length)] → N ≤ wz.heap.size → Calls Try.prog 31 #[.pointer (some ⟨b, 0, none⟩)] wz fun e w' => e = .returned (.bool false) ∧ wz = w') := Lib.hid (fun wz h hn => by
          have h := on_many (l1 := []) h hn
          rw [show ({ pD L m L.length with pw := 5 } : Dv).off = true from hD] at h; exact h)
        have HCK : Hid (keepE ({ pD L m L.length with pw := 5 } : Dv).ca.length (allI q) = 0) := Lib.hid HCK0.out
        clear hD HCK0
        go_wp2_with fail
        refine HON.out.mono ?_
        rintro e w' ⟨rfl, rfl⟩
        go_wp2_with fail
        refine HTK.out.mono ?_
        rintro e w' ⟨rfl, rfl⟩
        go_wp2_with fail
        refine HPE.out.mono ?_
        rintro e w' ⟨rfl, rfl⟩
        go_wp2_with fail
        refine HON.out.mono ?_
        rintro e w' ⟨rfl, rfl⟩
        go_wp2_with fail
        refine HRD.out.mono ?_
        rintro e w3 ⟨rfl, hb⟩
        have HM3 := Lib.hid (HM2.out.below hb (Nat.le_refl _))
        have HB3 := Lib.hid (HB2.out.trans (hb.mono HS2.out))
        have HS3 := Lib.hid (Nat.le_trans HS2.out hb.size)
        clear hb HM2 HB2 HS2 HON HTK HPE HRD
        go_wp2_with fail
        refine (HFL.out _ HM3.out HS3.out).mono ?_
        rintro e w4 ⟨rfl, hr⟩
        have HM4 := Lib.hid hr.many
        have HB4 := Lib.hid (HB3.out.trans (hr.below HS3.out))
        have HS4 := Lib.hid hr.size
        clear hr HM3 HB3 HS3 HFL
        go_wp2_with fail
        refine (HLI.out _ HM4.out HS4.out).mono ?_
        rintro e wt ⟨rfl, hr⟩
        have HMt := Lib.hid hr.many
        have HBt := Lib.hid (HB4.out.trans (hr.below HS4.out))
        have HSt := Lib.hid hr.size
        have HOt := Lib.hid (HON2.out _ hr.many hr.size)
        clear hr HM4 HB4 HS4 HLI HON2
        go_wp2_with fail
        refine HOt.out.mono ?_
        rintro e w' ⟨rfl, rfl⟩
        clear HOt
        have hmk := run_make_ints q (by omega) wt
        go_wp2_with fail
        have HI0 := Lib.hid (own_ints q (by omega) wt)
        have HBI := Lib.hid (Below.one wt (.cells (mixI q 0).toArray 3))
        clear hmk
        obtain ⟨gq, hgq⟩ : ∃ x, wt.heap.size = x := ⟨_, rfl⟩
        obtain ⟨wi, hwi⟩ : ∃ W, wt.alloc (.cells (mixI q 0).toArray 3) = W := ⟨_, rfl⟩
        have hg1 : gq < wi.heap.size := by rw [← hwi, World.size_alloc, hgq]; omega
        rw [hwi] at HI0 HBI ⊢
        rw [hgq] at HI0 ⊢
        clear hwi
        go_loopw [14] (fun i wr => ∃ k : Nat, k ≤ q ∧ i = .int .i64 k ∧ Hid (wr.ownsRow gq 3 1 (.slice (some ⟨gq, 0, none⟩) q q) q (mixI q k)) ∧ Hid (Kept (fun b => b = gq) wi wr)) (fun i _ => q - (intOf i).toNat)
        case atStart => exact ⟨0, Nat.zero_le _, rfl, HI0, Lib.hid (Kept.refl _ _)⟩
        case round =>
          obtain ⟨k, hk, rfl, HOk, HKk⟩ := hrel
          by_cases hlt : k < q
          · have hplen : (mixI q k).length = q := mixI_len _ _
            have hc := HOk.out.cellAt k (by omega)
            rw [List.getElem?_eq_getElem (by omega)] at hc
            have hf := HOk.out.frozenAt k
            have hS := HOk.out.stored k (.int .i64 (k : Int))
            rw [mixI_succ] at hS
            have HS := Lib.hid hS.1
            generalize (mixI q k)[k]'(by omega) = x at *
            clear hplen hS
            go_wp2
            go_roundw
            case rel => exact ⟨k + 1, by omega, by go_num, HS, Lib.hid (HKk.out.setCell _ rfl _)⟩
            case measure => simp [intOf]; omega
          · obtain rfl : q = k := by omega
            have HBw : Hid (Below wt.heap.size wt wr) := Lib.hid (HBI.out.trans (HKk.out.toBelow (by omega) (fun k e => by omega)))
            have hqr : gq < wr.heap.size := Nat.lt_of_lt_of_le hg1 HKk.out.size
            obtain ⟨F2, hF2⟩ : ∃ F : Nat → Prop, (fun k => F0 k ∨ k = gq) = F := ⟨_, rfl⟩
            have HMa : Hid (Many N F2 wr [(b, { pD L m L.length with pw := 5 }), (o, oD L m L.length)]) := Lib.hid (by rw [← hF2]; exact HMt.out.mark HBw.out gq (by omega) hqr)
            have HSa : Hid (N ≤ wr.heap.size) := Lib.hid (Nat.le_trans HSt.out HBw.out.size)
            have HBa := Lib.hid (HBt.out.trans (HBw.out.mono HSt.out))
            have HIA : Hid (IntsAt wr (.slice (some ⟨gq, 0, none⟩) q q) (allI q)) := by
              have h := ints_of_row (base := gq) (v := .slice (some ⟨gq, 0, none⟩) q q) (w := wr) (K := allI q) (by rw [allI_len, ← mixI_all]; exact HOk.out)
              exact Lib.hid h
            have HSFa : Hid (∀ g o m c, Value.slice (some ⟨gq, 0, none⟩) q q = .slice (some ⟨g, o, none⟩) m c → m ≠ 0 → g < N ∨ F2 g) := Lib.hid (fun g' o' m' c'' e _ => by cases e; exact .inr (by rw [← hF2]; exact .inr rfl))
            have hal : (allI q).length ≤ maxLen := by rw [allI_len]; unfold maxLen; omega
            have HCC := Lib.hid (crash0_many (l1 := []) HMa.out HSa.out _ (allI q) HIA.out hal HSFa.out HCK.out)
            clear HBw hqr hF2 hal HOk HKk HI0 HBI hgq hg1 hk hlt HIA HSFa HMt HBt HSt HCK
            go_wp2_with fail
            refine HCC.out.mono ?_
            rintro e w5 ⟨rfl, hr⟩
            have HM5 : Hid (Many N F2 w5 [(b, crashedD (pD L m L.length) (allI q)), (o, oD L m L.length)]) := Lib.hid hr.many
            have HB5 := Lib.hid (HBa.out.trans (hr.below HSa.out))
            have HS5 := Lib.hid hr.size
            have HON5 : Hid (Calls Try.prog 31 #[.pointer (some ⟨b, 0, none⟩)] w5 fun e w' => e = .returned (.bool true) ∧ w5 = w') := Lib.hid (on_many (l1 := []) HM5.out HS5.out)
            have HD5 := Lib.hid (diff0_many HM5.out (List.mem_cons_self ..) (List.mem_cons_of_mem _ (List.mem_cons_self ..)) HCL.out HRR.out)
            clear hr HMa HSa HBa HCC
            go_wp2_with fail
            refine HON5.out.mono ?_
            rintro e w' ⟨rfl, rfl⟩
            go_wp2_with fail
            refine HD5.out.mono ?_
            rintro e w6 ⟨a1, c1, rfl, hb⟩
            have HM6 := Lib.hid (HM5.out.below hb (Nat.le_refl _))
            have HB6 := Lib.hid (HB5.out.trans (hb.mono HS5.out))
            have HS6 := Lib.hid (Nat.le_trans HS5.out hb.size)
            clear hb HM5 HB5 HS5 HD5 HON5
            go_wp2_with fail
            refine (ones_any w6).mono ?_
            rintro e w7 ⟨rfl, hb⟩
            have HM7 := Lib.hid (HM6.out.below hb (Nat.le_refl _))
            have HB7 := Lib.hid (HB6.out.trans (hb.mono HS6.out))
            have HS7 := Lib.hid (Nat.le_trans HS6.out hb.size)
            clear hb HM6 HB6 HS6
            go_wp2_with fail
            refine (write0_many (l1 := []) HM7.out HS7.out HPC.out 0 (Sec.fill 1 1) HCI.out).mono ?_
            rintro e w8 ⟨rfl, hr⟩
            have HB8 := Lib.hid (HB7.out.trans (hr.below HS7.out))
            have HS8 := Lib.hid hr.size
            clear hr HM7 HB7 HS7
            go_wp2_with fail
            refine (awake_any w8).mono ?_
            rintro e w9 ⟨rfl, hb⟩
            have HB9 := Lib.hid (HB8.out.trans (hb.mono HS8.out))
            clear hb
            go_wp2_with fail
            go_ret
            exact ⟨rfl, HB9.out⟩
      · obtain rfl : q = L.length := by omega
        have hD : (pD L m L.length).off = false := by simp [pD]; omega
        have HON : Hid (Calls Try.prog 31 #[.pointer (some ⟨b, 0, none⟩)] wr fun e w' => e = .returned (.bool true) ∧ wr = w') := Lib.hid (by
          have h := on_many (l1 := []) HM2.out HS2.out
          rw [hD] at h; exact h)
        have HCK := HCK0
        clear hD HCK0
        obtain ⟨wt, hwt⟩ : ∃ W, wr = W := ⟨_, rfl⟩
        rw [hwt] at HM2 HB2 HS2 HTK HPE HON ⊢
        clear hwt
        have HMt := HM2
        have HBt := HB2
        have HSt := HS2
        clear HM2 HB2 HS2
        go_wp2_with fail
        refine HON.out.mono ?_
        rintro e w' ⟨rfl, rfl⟩
        go_wp2_with fail
        refine HTK.out.mono ?_
        rintro e w' ⟨rfl, rfl⟩
        go_wp2_with fail
        refine HPE.out.mono ?_
        rintro e w' ⟨rfl, rfl⟩
        go_wp2_with fail
        refine HON.out.mono ?_
        rintro e w' ⟨rfl, rfl⟩
        clear HON HTK HPE
        have hmk := run_make_ints L.length (by omega) wt
        go_wp2_with fail
        have HI0 := Lib.hid (own_ints L.length (by omega) wt)
        have HBI := Lib.hid (Below.one wt (.cells (mixI L.length 0).toArray 3))
        clear hmk
        obtain ⟨gq, hgq⟩ : ∃ x, wt.heap.size = x := ⟨_, rfl⟩
        obtain ⟨wi, hwi⟩ : ∃ W, wt.alloc (.cells (mixI L.length 0).toArray 3) = W := ⟨_, rfl⟩
        have hg1 : gq < wi.heap.size := by rw [← hwi, World.size_alloc, hgq]; omega
        rw [hwi] at HI0 HBI ⊢
        rw [hgq] at HI0 ⊢
        clear hwi
        go_loopw [14] (fun i wr => ∃ k : Nat, k ≤ L.length ∧ i = .int .i64 k ∧ Hid (wr.ownsRow gq 3 1 (.slice (some ⟨gq, 0, none⟩) L.length L.length) L.length (mixI L.length k)) ∧ Hid (Kept (fun b => b = gq) wi wr)) (fun i _ => L.length - (intOf i).toNat)
        case atStart => exact ⟨0, Nat.zero_le _, rfl, HI0, Lib.hid (Kept.refl _ _)⟩
        case round =>
          obtain ⟨k, hk, rfl, HOk, HKk⟩ := hrel
          by_cases hlt : k < L.length
          · have hplen : (mixI L.length k).length = L.length := mixI_len _ _
            have hc := HOk.out.cellAt k (by omega)
            rw [List.getElem?_eq_getElem (by omega)] at hc
            have hf := HOk.out.frozenAt k
            have hS := HOk.out.stored k (.int .i64 (k : Int))
            rw [mixI_succ] at hS
            have HS := Lib.hid hS.1
            generalize (mixI L.length k)[k]'(by omega) = x at *
            clear hplen hS
            go_wp2
            go_roundw
            case rel => exact ⟨k + 1, by omega, by go_num, HS, Lib.hid (HKk.out.setCell _ rfl _)⟩
            case measure => simp [intOf]; omega
          · obtain rfl : L.length = k := by omega
            have HBw : Hid (Below wt.heap.size wt wr) := Lib.hid (HBI.out.trans (HKk.out.toBelow (by omega) (fun k e => by omega)))
            have hqr : gq < wr.heap.size := Nat.lt_of_lt_of_le hg1 HKk.out.size
            obtain ⟨F2, hF2⟩ : ∃ F : Nat → Prop, (fun k => F0 k ∨ k = gq) = F := ⟨_, rfl⟩
            have HMa : Hid (Many N F2 wr [(b, pD L m L.length), (o, oD L m L.length)]) := Lib.hid (by rw [← hF2]; exact HMt.out.mark HBw.out gq (by omega) hqr)
            have HSa : Hid (N ≤ wr.heap.size) := Lib.hid (Nat.le_trans HSt.out HBw.out.size)
            have HBa := Lib.hid (HBt.out.trans (HBw.out.mono HSt.out))
            have HIA : Hid (IntsAt wr (.slice (some ⟨gq, 0, none⟩) L.length L.length) (allI L.length)) := by
              have h := ints_of_row (base := gq) (v := .slice (some ⟨gq, 0, none⟩) L.length L.length) (w := wr) (K := allI L.length) (by rw [allI_len, ← mixI_all]; exact HOk.out)
              exact Lib.hid h
            have HSFa : Hid (∀ g o m c, Value.slice (some ⟨gq, 0, none⟩) L.length L.length = .slice (some ⟨g, o, none⟩) m c → m ≠ 0 → g < N ∨ F2 g) := Lib.hid (fun g' o' m' c'' e _ => by cases e; exact .inr (by rw [← hF2]; exact .inr rfl))
            have hal : (allI L.length).length ≤ maxLen := by rw [allI_len]; unfold maxLen; omega
            have HCC := Lib.hid (crash0_many (l1 := []) HMa.out HSa.out _ (allI L.length) HIA.out hal HSFa.out HCK.out)
            clear HBw hqr hF2 hal HOk HKk HI0 HBI hgq hg1 hk hlt HIA HSFa HMt HBt HSt HCK
            go_wp2_with fail
            refine HCC.out.mono ?_
            rintro e w5 ⟨rfl, hr⟩
            have HM5 : Hid (Many N F2 w5 [(b, crashedD (pD L m L.length) (allI L.length)), (o, oD L m L.length)]) := Lib.hid hr.many
            have HB5 := Lib.hid (HBa.out.trans (hr.below HSa.out))
            have HS5 := Lib.hid hr.size
            have HON5 : Hid (Calls Try.prog 31 #[.pointer (some ⟨b, 0, none⟩)] w5 fun e w' => e = .returned (.bool true) ∧ w5 = w') := Lib.hid (on_many (l1 := []) HM5.out HS5.out)
            have HD5 := Lib.hid (diff0_many HM5.out (List.mem_cons_self ..) (List.mem_cons_of_mem _ (List.mem_cons_self ..)) HCL.out HRR.out)
            clear hr HMa HSa HBa HCC
            go_wp2_with fail
            refine HON5.out.mono ?_
            rintro e w' ⟨rfl, rfl⟩
            go_wp2_with fail
            refine HD5.out.mono ?_
            rintro e w6 ⟨a1, c1, rfl, hb⟩
            have HM6 := Lib.hid (HM5.out.below hb (Nat.le_refl _))
            have HB6 := Lib.hid (HB5.out.trans (hb.mono HS5.out))
            have HS6 := Lib.hid (Nat.le_trans HS5.out hb.size)
            clear hb HM5 HB5 HS5 HD5 HON5
            go_wp2_with fail
            refine (ones_any w6).mono ?_
            rintro e w7 ⟨rfl, hb⟩
            have HM7 := Lib.hid (HM6.out.below hb (Nat.le_refl _))
            have HB7 := Lib.hid (HB6.out.trans (hb.mono HS6.out))
            have HS7 := Lib.hid (Nat.le_trans HS6.out hb.size)
            clear hb HM6 HB6 HS6
            go_wp2_with fail
            refine (write0_many (l1 := []) HM7.out HS7.out HPC.out 0 (Sec.fill 1 1) HCI.out).mono ?_
            rintro e w8 ⟨rfl, hr⟩
            have HB8 := Lib.hid (HB7.out.trans (hr.below HS7.out))
            have HS8 := Lib.hid hr.size
            clear hr HM7 HB7 HS7
            go_wp2_with fail
            refine (awake_any w8).mono ?_
            rintro e w9 ⟨rfl, hb⟩
            have HB9 := Lib.hid (HB8.out.trans (hb.mono HS8.out))
            clear hb
            go_wp2_with fail
            go_ret
            exact ⟨rfl, HB9.out⟩
end Go.Proofs.Ytpboknepfjeljaa
