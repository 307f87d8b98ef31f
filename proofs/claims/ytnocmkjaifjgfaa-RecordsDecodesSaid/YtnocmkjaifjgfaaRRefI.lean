/- The reference's one: lists; all together. -/
import Derived.Test.YtnocmkjaifjgfaaRRefH
import Derived.Deep.RegionHeld3
import Derived.Deep.RegionLaw
namespace Go.Proofs.Ytnocmkjaifjgfaa.R
open Go.RowKit
attribute [local go_sem] Oper.semAt_some

set_option maxHeartbeats 4000000 in
set_option maxRecDepth 100000 in
theorem one_l (s : Option Addr) (d : Nat) (l : List UInt8) (w : World) (hb : (grpD l).2.2 = 0) (hv : BytesAt w (.slice s l.length d) l) (hld : l.length ≤ d) (hl : l.length ≤ maxLen) :
    Calls Try.prog 24 #[.int .u8 108, .slice s l.length d] w (OnePost w 108 l) := by
  have hO : oneD 108 l = if 60 < (grpD l).1 then (Rv.zero, 0, 3) else if l.length - (grpD l).2.1 < 4 * (grpD l).1 then (Rv.zero, 0, 10)
      else (⟨0, ByteArray.empty, numsL (grpD l).1 (l.drop (grpD l).2.1)⟩, (grpD l).2.1 + 4 * (grpD l).1, 0) := by
    unfold oneD
    rw [if_neg (show ¬ 0 < widV 108 by decide), if_neg (by omega), if_neg (by decide), if_neg (by decide)]
  have hg1 := grpD_one l hb
  have hpos : 0 < (grpD l).2.1 := by
    have := grpF_pos 9 (grpD l).1
    have e := congrArg List.length hg1.1
    rw [List.length_take] at e
    unfold grpL at e
    omega
  have HAL := Lib.hid ((Below.refl w.heap.size w).alloc (Nat.le_refl _) (.cells #[.int .u64 0, .string ⟨#[]⟩, .slice none 0 0] 49 (0, 0)))
  have HWI := Lib.hid (fun W => width_any 108 W)
  rw [show widV 108 = 0 from rfl] at HWI
  have HG := Lib.hid (refGrouped_any _ l _ (hv.below HAL.out (Nat.le_refl _)) hl)
  have HV := Lib.hid hv
  rw [hb] at HG
  obtain ⟨_, hu, hn64⟩ := hg1
  unfold maxLen at hl
  obtain ⟨g, o, rfl, hg⟩ := bytes_some HV.out (by omega)
  generalize (grpD l).1 = n at *
  generalize (grpD l).2.1 = u at *
  clear hv hb
  by_cases h4 : 60 < n
  · have HE := Lib.hid hO
    rw [if_pos h4] at HE
    have d4 : decide ((60 : Int) < n) = true := decide_eq_true (by omega)
    clear h4 hO
    go_enter Try.func24, Try.ntmps24
    go_wp2_with fail
    refine (HWI.out _).mono ?_
    rintro e w2 ⟨rfl, rfl⟩
    go_wp2_with fail
    refine HG.out.mono ?_
    rintro e w2 ⟨rfl, rfl⟩
    go_wp2_with fail
    exact bodyPost_ret (v := .tuple #[.agg #[.int .u64 0, .string ⟨#[]⟩, .slice none 0 0], .int .i64 0, .int .i64 3]) (by simp [results, Try.results24, go_sem]) rfl
      (one_post HE.out (Own32.nil _ _) ((Below.refl _ w).alloc (Nat.le_refl _) _))
  rw [if_neg h4] at hO
  have d4 : decide ((60 : Int) < n) = false := decide_eq_false (by omega)
  have hn4 : n ≤ 60 := by omega
  have hnw : IntKind.i64.wrap (n : Int) = n := IntWalk.i64_in _ (by omega)
  have hn4w : IntKind.i64.wrap (4 * (n : Int)) = 4 * n := IntWalk.i64_in _ (by omega)
  obtain ⟨m, hm⟩ : ∃ m, l.length = u + m := ⟨l.length - u, by omega⟩
  have hsub : IntKind.i64.wrap ((l.length : Int) - u) = m := by rw [IntKind.wrap_i64]; omega
  clear h4
  by_cases hlt : l.length - u < 4 * n
  · have HE := Lib.hid hO
    rw [if_pos hlt] at HE
    have d5 : decide ((m : Int) < 4 * (n : Int)) = true := decide_eq_true (by omega)
    clear hlt hO hm
    go_enter Try.func24, Try.ntmps24
    go_wp2_with fail
    refine (HWI.out _).mono ?_
    rintro e w2 ⟨rfl, rfl⟩
    go_wp2_with fail
    refine HG.out.mono ?_
    rintro e w2 ⟨rfl, rfl⟩
    go_wp2_with fail
    exact bodyPost_ret (v := .tuple #[.agg #[.int .u64 0, .string ⟨#[]⟩, .slice none 0 0], .int .i64 0, .int .i64 10]) (by simp [results, Try.results24, go_sem]) rfl
      (one_post HE.out (Own32.nil _ _) ((Below.refl _ w).alloc (Nat.le_refl _) _))
  have d5 : decide ((m : Int) < 4 * (n : Int)) = false := decide_eq_false (by omega)
  have HE := Lib.hid hO
  rw [if_neg hlt] at HE
  have hun4 : u + 4 * n ≤ l.length := by omega
  clear hlt hO hm
  have HA2 : Hid (Below w.heap.size w ((w.alloc (.cells #[.int .u64 0, .string ⟨#[]⟩, .slice none 0 0] 49 (0, 0))).alloc (.cells #[.int .u64 0, .string ⟨#[]⟩, .slice none 0 0] 49 (0, 0)))) := Lib.hid (HAL.out.alloc HAL.out.size _)
  have HR0 : Hid (Blk ((w.alloc (.cells #[.int .u64 0, .string ⟨#[]⟩, .slice none 0 0] 49 (0, 0))).alloc (.cells #[.int .u64 0, .string ⟨#[]⟩, .slice none 0 0] 49 (0, 0))) w.heap.size 49 #[.int .u64 0, .string ⟨#[]⟩, .slice none 0 0]) := Lib.hid (Blk.alloc (heap_alloc_new w _) _)
  have HV0 : Hid (Blk ((w.alloc (.cells #[.int .u64 0, .string ⟨#[]⟩, .slice none 0 0] 49 (0, 0))).alloc (.cells #[.int .u64 0, .string ⟨#[]⟩, .slice none 0 0] 49 (0, 0))) (w.heap.size + 1) 49 #[.int .u64 0, .string ⟨#[]⟩, .slice none 0 0]) := Lib.hid (by
    have h := heap_alloc_new (w.alloc (.cells #[.int .u64 0, .string ⟨#[]⟩, .slice none 0 0] 49 (0, 0))) (.cells #[.int .u64 0, .string ⟨#[]⟩, .slice none 0 0] 49 (0, 0))
    rw [World.size_alloc] at h
    exact h)
  have HSZ : Hid (((w.alloc (.cells #[.int .u64 0, .string ⟨#[]⟩, .slice none 0 0] 49 (0, 0))).alloc (.cells #[.int .u64 0, .string ⟨#[]⟩, .slice none 0 0] 49 (0, 0))).heap.size = w.heap.size + 2) := Lib.hid (by simp)
  go_enter Try.func24, Try.ntmps24
  go_wp2_with fail
  refine (HWI.out _).mono ?_
  rintro e w2 ⟨rfl, rfl⟩
  go_wp2_with fail
  refine HG.out.mono ?_
  rintro e w2 ⟨rfl, rfl⟩
  go_wp2_with fail
  generalize (w.alloc (.cells #[.int .u64 0, .string ⟨#[]⟩, .slice none 0 0] 49 (0, 0))).alloc (.cells #[.int .u64 0, .string ⟨#[]⟩, .slice none 0 0] 49 (0, 0)) = W2 at *
  go_loopw [13] (fun i wr => ∃ (k : Nat) (r : Value), k ≤ n ∧ i = .int .i64 k ∧ Hid (LiI W2 (w.heap.size + 1) (w.heap.size + 2) (l.drop u) (List.range k) wr r)) (fun i _ => n - (intOf i).toNat)
  case atStart => exact ⟨0, .slice none 0 0, by omega, rfl, Lib.hid ⟨HV0.out, Own32.nil _ _, Kept.refl _ _⟩⟩
  case round =>
    obtain ⟨k, r, hk, rfl, hL⟩ := hrel
    have hsz2 := HSZ.out
    by_cases hkn : k < n
    · have hvl := hL.out.v.lt
      have hs2 := hL.out.kept.size
      have hlk : ((l.drop u).drop (4 * k)).take 4 = (l.drop (u + 4 * k)).take 4 := by rw [List.drop_drop]
      have hbyd := BytesAt.drop (d' := d - (u + 4 * k)) HV.out (u + 4 * k) (by omega)
      have hlen2 : (l.drop (u + 4 * k)).length = l.length - (u + 4 * k) := List.length_drop
      rw [← hlen2] at hbyd
      have hchk := BytesAt.take (d' := d - (u + 4 * k)) hbyd 4 (by omega)
      have hlen4 : ((l.drop (u + 4 * k)).take 4).length = 4 := by rw [List.length_take]; omega
      have HSN := Lib.hid (numsL_snoc k (l.drop u))
      rw [hlk] at HSN
      have hz := numL_lt ((l.drop (u + 4 * k)).take 4)
      rw [hlen4] at hz
      have hbwr : Below w.heap.size w wr := HA2.out.trans (hL.out.kept.toBelow (by omega) (fun j hj e => by omega))
      have HNU := Lib.hid (refNumber_any _ _ wr.drew (hchk.below (below_drew hbwr) (Nat.le_refl _)) (by omega))
      generalize numL ((l.drop (u + 4 * k)).take 4) = z at *
      have hz32 : z < 4294967296 := by simpa using hz
      obtain ⟨v', w', hrun, hown', hkw⟩ := run_append_num (ty := 47) (W := wr.drew) (base := w.heap.size + 2) z (hL.out.own.kept ((Kept.refl (fun _ => False) wr).drew) (fun _ _ h => h)) (by rw [numsL_len, List.length_range]; omega) (by show w.heap.size + 2 ≤ wr.heap.size; omega)
      obtain ⟨a3, m3, d3, rfl⟩ := hown'.shapeM
      have hrun' : Sem.run Try.prog (appX 47 #[r, .slice (some ⟨wr.heap.size, 0, none⟩) 1 1]) ((wr.alloc (.cells #[.int .u32 z] 50 (0, 0))).drew) = .ok (.slice a3 m3 d3) w' := hrun
      have hwz : IntKind.u32.wrap (z : Int) = z := by rw [IntKind.wrap_u32]; omega
      have hro : ¬ r.ownBlock = some (w.heap.size + 1) := fun e => by have := (hL.out.own.ge e).1; omega
      have hc2 : wr.drew.cell? ⟨w.heap.size + 1, 2, none⟩ = some r := hL.out.v.cell 2
      have hc20 : wr.cell? ⟨w.heap.size + 1, 2, none⟩ = some r := hL.out.v.cell 2
      have hc22 : (wr.alloc (.cells #[.int .u32 z] 50 (0, 0))).drew.cell? ⟨w.heap.size + 1, 2, none⟩ = some r := (hL.out.v.alloc _).cell 2
      have hc23 : (wr.alloc (.cells #[.int .u32 z] 50 (0, 0))).cell? ⟨w.heap.size + 1, 2, none⟩ = some r := (hL.out.v.alloc _).cell 2
      have hc9 : w'.cell? ⟨w.heap.size + 1, 2, none⟩ = some r := (hkw.cell (b := w.heap.size + 1) 2 hvl hro).trans hc2
      have hf9 : w'.frozen? ⟨w.heap.size + 1, 2, none⟩ = false := (hkw.frozen (b := w.heap.size + 1) 2 hvl hro).trans (hL.out.v.frozen 2)
      have hk9 : Kept (fun k => r.ownBlock = some k) wr w' := ((Kept.refl (fun k => r.ownBlock = some k) wr).drew).trans hkw
      have hst := (Kept.refl (fun k => k = w.heap.size + 1) w').setCell ⟨w.heap.size + 1, 2, none⟩ (.inl rfl) (.slice a3 m3 d3)
      have HFIN : Hid (LiI W2 (w.heap.size + 1) (w.heap.size + 2) (l.drop u) (List.range (k + 1)) (w'.setCell ⟨w.heap.size + 1, 2, none⟩ (.slice a3 m3 d3)) (.slice a3 m3 d3)) := Lib.hid (by
        refine ⟨?_, ?_, ?_⟩
        · have hb9 : Blk w' (w.heap.size + 1) 49 #[.int .u64 0, .string ⟨#[]⟩, r] := (hk9.block _ hvl hro).trans hL.out.v
          exact hb9.set_ 2 _
        · rw [List.length_range] at hown' ⊢
          rw [HSN.out]
          exact hown'.kept hst (fun g e q => by have := (hown'.ge e).1; omega)
        · exact (hL.out.kept.trans' hk9 (fun i hi e => by have := (hL.out.own.ge e).1; omega)).trans' hst (fun i hi e => e))
      obtain ⟨p, hp⟩ : ∃ p, p = u + 4 * k := ⟨_, rfl⟩
      obtain ⟨p4, hp4⟩ : ∃ p4, p4 = p + 4 := ⟨_, rfl⟩
      have hw1 : IntKind.i64.wrap (4 * (k : Int)) = 4 * k := IntWalk.i64_in _ (by omega)
      have hw2 : IntKind.i64.wrap ((u : Int) + 4 * k) = p := by rw [IntWalk.i64_in _ (by omega)]; omega
      have hw3 : IntKind.i64.wrap ((p : Int) + 4) = p4 := by rw [IntWalk.i64_in _ (by omega)]; omega
      have hnd : ¬ d = p := by omega
      have hld1 : p ≤ d := by omega
      have hld2 : p4 ≤ d := by omega
      have hld3 : p ≤ p4 := by omega
      have hld4 : p4 - p = 4 := by omega
      have HRUN := Lib.hid hrun
      rw [← hp] at HNU
      clear hp hp4 hlk hbyd hlen2 hchk hlen4 hz hbwr hrun hrun' hkw hown' hk9 hst
      go_wp2_with fail
      go_region_law (first
        | (refine step_append_run (by rfl) _ _ _ _ (by rfl) _ _ (.slice a3 m3 d3) w' (by rfl) (by rfl) HRUN.out ?_)
        | (go_simp; go_at_call 29; (with_reducible refine HNU.out.mono ?_); rintro e w9 ⟨rfl, rfl⟩))
      all_goals
        go_wp2_with fail
        go_roundw
        case rel => exact ⟨k + 1, .slice a3 m3 d3, by omega, by go_num, HFIN⟩
        case measure => simp [intOf]; omega
    · obtain rfl : k = n := by omega
      obtain ⟨a3, m3, d3, rfl⟩ := hL.out.own.shapeM
      have c0 := hL.out.v.cell 0
      have c1 := hL.out.v.cell 1
      have c2 := hL.out.v.cell 2
      simp at c0 c1 c2
      have hbR : Blk wr w.heap.size 49 #[.int .u64 0, .string ⟨#[]⟩, .slice none 0 0] := (hL.out.kept.block w.heap.size (by omega) (by omega)).trans HR0.out
      have e0 := hbR.cell 0
      have e1 := hbR.cell 1
      have e2 := hbR.cell 2
      have f0 := hbR.frozen 0
      have f1 := hbR.frozen 1
      have f2 := hbR.frozen 2
      simp at e0 e1 e2
      have hbF : Blk (((wr.setCell ⟨w.heap.size, 0, none⟩ (.int .u64 0)).setCell ⟨w.heap.size, 1, none⟩ (.string ⟨#[]⟩)).setCell ⟨w.heap.size, 2, none⟩ (.slice a3 m3 d3)) w.heap.size 49 #[.int .u64 0, .string ⟨#[]⟩, .slice a3 m3 d3] := ((hbR.set_ 0 (.int .u64 0)).set_ 1 (.string ⟨#[]⟩)).set_ 2 (.slice a3 m3 d3)
      have B0 := hbF.cell 0
      have B1 := hbF.cell 1
      have B2 := hbF.cell 2
      simp at B0 B1 B2
      have hput := put3 w.heap.size (.int .u64 0) (.string ⟨#[]⟩) (.slice a3 m3 d3) wr
      have hOW : Hid (Own32 (((wr.setCell ⟨w.heap.size, 0, none⟩ (.int .u64 0)).setCell ⟨w.heap.size, 1, none⟩ (.string ⟨#[]⟩)).setCell ⟨w.heap.size, 2, none⟩ (.slice a3 m3 d3)) w.heap.size (.slice a3 m3 d3) (numsL k (l.drop u))) := Lib.hid (by
        have h := hL.out.own.kept hput (fun g e q => by have := (hL.out.own.ge e).1; omega)
        rw [List.length_range] at h
        exact h.mono (by omega))
      have HBF := Lib.hid (one_bel (HA2.out.trans (hL.out.kept.toBelow (by omega) (fun j hj e => by omega))) (.int .u64 0) (.string ⟨#[]⟩) (.slice a3 m3 d3))
      have hw1 : IntKind.i64.wrap (4 * (k : Int)) = 4 * k := IntWalk.i64_in _ (by omega)
      have hw2 : IntKind.i64.wrap ((u : Int) + 4 * k) = u + 4 * k := IntWalk.i64_in _ (by omega)
      clear hbR hbF hput
      go_wp2_with fail
      exact bodyPost_ret (v := .tuple #[.agg #[.int .u64 0, .string ⟨#[]⟩, .slice a3 m3 d3], .int .i64 (u + 4 * k : Nat), .int .i64 0]) (by simp [results, Try.results24, go_sem, B0, B1, B2]) rfl
        (one_post HE.out hOW.out HBF.out)

theorem one_any (c : Nat) (s : Option Addr) (d : Nat) (l : List UInt8) (w : World) (hk : kindB c = true) (hv : BytesAt w (.slice s l.length d) l) (hld : l.length ≤ d) (hl : l.length ≤ maxLen) :
    Calls Try.prog 24 #[.int .u8 c, .slice s l.length d] w (OnePost w c l) := by
  rcases letters hk with ⟨hw, _, _, _⟩ | hc
  · exact one_w c s d l w hw hv hld hl
  · have h0 : widV c = 0 := by rcases hc with rfl | rfl | rfl <;> rfl
    by_cases hb : (grpD l).2.2 = 0
    · rcases hc with rfl | rfl | rfl
      · exact one_v s d l w hb hv hl
      · exact one_s s d l w hb hv hld hl
      · exact one_l s d l w hb hv hld hl
    · exact one_bad c s d l w h0 hb hv hl
end Go.Proofs.Ytnocmkjaifjgfaa.R
