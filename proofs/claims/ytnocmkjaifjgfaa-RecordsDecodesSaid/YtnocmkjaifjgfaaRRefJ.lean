/- The reference's Decode, Whole. -/
import Derived.Test.YtnocmkjaifjgfaaRRefI
import Derived.Test.YtnocmkjaifjgfaaRDecE
import Derived.Deep.RegionLaw
namespace Go.Proofs.Ytnocmkjaifjgfaa.R
open Go.RowKit

set_option maxHeartbeats 4000000 in
set_option maxRecDepth 100000 in
theorem refDecode_in (s : ByteArray) (a : Option Addr) (d : Nat) (b : List UInt8) (w : World) (hs : s.size ≤ maxLen) (hd : b.length ≤ d) (hb : BytesAt w (.slice a b.length d) b) (hl : b.length ≤ maxLen) :
    Calls Try.prog 16 #[.string s, .slice a b.length d] w fun e w' => ∃ u, e = .returned (.tuple #[u, .int .i64 (decR s.data.toList b).2.1, .int .i64 (decR s.data.toList b).2.2]) ∧ ValsAt w' u (decR s.data.toList b).1 ∧ Below w.heap.size w w' := by
  have HS := Lib.hid (size_data s)
  have HFO := Lib.hid (form_any s w hs)
  have HV := Lib.hid hb
  unfold maxLen at hl hs
  clear hb
  by_cases hE : formE s.data.toList = 0
  case neg =>
    have hz : ((formE s.data.toList : Int) == 0) = false := by simp; omega
    have HD := Lib.hid (show decR s.data.toList b = ([], 0, formE s.data.toList) by unfold decR; rw [if_pos hE])
    generalize formE s.data.toList = q at *
    clear hE
    go_enter Try.func16, Try.ntmps16
    go_wp2_with fail
    refine HFO.out.mono ?_
    rintro e w2 ⟨rfl, rfl⟩
    go_wp2_with fail
    go_ret3
    exact ⟨_, by rw [HD.out]; rfl, by rw [HD.out]; exact .inl ⟨_, _, rfl, rfl⟩, Below.refl _ _⟩
  have HE0 := Lib.hid hE
  rw [hE] at HFO
  obtain ⟨hs64, hkind⟩ := formE_kind hE
  rw [HS.out] at hs64
  have HKD := Lib.hid hkind
  clear hkind hE
  go_enter Try.func16, Try.ntmps16
  go_wp2_with fail
  refine HFO.out.mono ?_
  rintro e w2 ⟨rfl, rfl⟩
  go_wp2_with fail
  go_loopw [8, 9, 10, 11, 12, 13] (fun v8 nv i _ _ _ wr => ∃ (k n : Nat) (vs : List Rv), k ≤ s.size ∧ n ≤ b.length ∧ vs.length = k ∧ nv = .int .i64 n ∧ i = .int .i64 k ∧ Hid (RowV wr w.heap.size w.heap.size v8 vs) ∧ Hid (Below w.heap.size w wr) ∧ Hid (decV s.data.toList b = combD vs n (decV (s.data.toList.drop k) (b.drop n)))) (fun _ _ i _ _ _ _ => s.size - (intOf i).toNat)
  case atStart => exact ⟨0, 0, [], by omega, by omega, rfl, rfl, rfl, Lib.hid (RowV.nil _ _ _), Lib.hid (Below.refl _ _), Lib.hid (combD_nil _ _)⟩
  case round =>
    obtain ⟨k, n, vs, hk, hn, hvk, rfl, rfl, hRV, hBW, hD⟩ := hrel
    have hwsz := hBW.out.size
    have HVK := Lib.hid hvk
    have hvk2 : vs.length ≤ 64 := by omega
    clear hvk
    by_cases hlt : k < s.size
    · have hk' : k < s.data.toList.length := by rw [HS.out]; exact hlt
      have hck : s.data.toList[k] = s[k] := by rw [Array.getElem_toList]; rfl
      have hkc := HKD.out k hk'
      have HST := Lib.hid (decV_step hk' hD.out)
      have HLE := Lib.hid (oneD_le s.data.toList[k].toNat (b.drop n))
      have hnd : n ≤ d := by omega
      have hlm : (b.drop n).length = b.length - n := List.length_drop
      have hB9 : BytesAt wr (.slice (if d = n then a else Option.map (fun x => x.add n) a) (b.length - n) (d - n)) (b.drop n) := by
        by_cases h : d = n
        · have e0 : b.drop n = [] := List.drop_of_length_le (by omega)
          rw [e0, show b.length - n = 0 from by omega]
          exact BytesAt.none_ _ _
        · rw [if_neg h]
          exact (bytes_cut HV.out n hn).below hBW.out (Nat.le_refl _)
      rw [← hlm] at hB9
      have HX := Lib.hid (fun W (hW : Below wr.heap.size wr W) => one_any _ _ _ (b.drop n) W hkc (hB9.below hW (Nat.le_refl _)) (by omega) (by rw [hlm]; unfold maxLen; omega))
      rw [hlm] at HX
      rw [hck] at HST HLE HX
      unfold OnePost at HX
      generalize oneD s[k].toNat (b.drop n) = q3 at *
      obtain ⟨rv, u, er⟩ := q3
      simp only [] at HX HST HLE
      have HXA := Lib.hid (HX.out wr.drew (below_drew (Below.refl _ wr)))
      have HXB := Lib.hid (HX.out (wr.alloc (.cells #[.int .u64 0, .string ⟨#[]⟩, .slice none 0 0] 49 (0, 0))).drew (below_drew ((Below.refl _ wr).alloc (Nat.le_refl _) _)))
      have HBA : Hid (Blk (wr.alloc (.cells #[.int .u64 0, .string ⟨#[]⟩, .slice none 0 0] 49 (0, 0))).drew wr.heap.size 49 #[.int .u64 0, .string ⟨#[]⟩, .slice none 0 0]) := Lib.hid (heap_alloc_new wr _)
      have HSA : Hid ((wr.alloc (.cells #[.int .u64 0, .string ⟨#[]⟩, .slice none 0 0] 49 (0, 0))).drew.heap.size = wr.heap.size + 1) := Lib.hid (World.size_alloc _ _)
      clear hkc hck hlm hB9 HX
      go_wp2_with fail
      go_region_law (first
        | (go_simp; go_at_call 24; (with_reducible refine HXA.out.mono ?_); rintro e w4 ⟨x, rfl, hox, hb4⟩; obtain ⟨a3, m3, d3, rfl⟩ := hox.shapeM; have hA4 : Below wr.heap.size wr w4 := (below_drew (Below.refl _ wr)).trans hb4; clear hb4 HXA HXB)
        | (go_simp; go_at_call 24; (with_reducible refine HXB.out.mono ?_); rintro e w4 ⟨x, rfl, hox, hb4⟩; obtain ⟨a3, m3, d3, rfl⟩ := hox.shapeM; have hbl : Blk w4 wr.heap.size 49 #[.int .u64 0, .string ⟨#[]⟩, .slice none 0 0] := (hb4.block _ (by rw [HSA.out]; omega)).trans HBA.out; have g0 := hbl.cell 0; have g1 := hbl.cell 1; have g2 := hbl.cell 2; have f0 := hbl.frozen 0; have f1 := hbl.frozen 1; have f2 := hbl.frozen 2; simp at g0 g1 g2; rw [HSA.out] at hb4 hox; clear HXA HXB))
      · have hWB : Below wr.heap.size wr (w4.alloc (.cells #[.int .u64 (rv.num : Nat), .string rv.str, .slice a3 m3 d3] 49 (0, 0))) := hA4.alloc hA4.size _
        have hbv : Blk (w4.alloc (.cells #[.int .u64 (rv.num : Nat), .string rv.str, .slice a3 m3 d3] 49 (0, 0))) w4.heap.size 49 #[.int .u64 (rv.num : Nat), .string rv.str, .slice a3 m3 d3] := heap_alloc_new w4 _
        have HOX : Hid (Own32 (w4.alloc (.cells #[.int .u64 (rv.num : Nat), .string rv.str, .slice a3 m3 d3] 49 (0, 0))) w.heap.size (.slice a3 m3 d3) rv.list) := Lib.hid ((hox.kept ((Kept.refl (fun _ => False) w4).alloc _) (fun _ _ h => h)).mono (by show w.heap.size ≤ wr.heap.size; exact hwsz))
        clear hA4 hox
        have HLNZ := Lib.hid hWB
        have hvs := hWB.size
        have HBV := Lib.hid hbv
        have v0 := hbv.cell 0
        have v1 := hbv.cell 1
        have v2 := hbv.cell 2
        simp at v0 v1 v2
        by_cases h0 : er = 0
        · subst h0
          obtain ⟨a4, d4, rfl⟩ := hRV.out.shapeM
          have HRVS := Lib.hid (hRV.out.kept (Kept.of_below hWB (fun _ => False)) (fun _ _ h => h) (fun _ _ _ h => h))
          obtain ⟨v5, w5, hrun, hrow5, hk5⟩ := run_append_val (ty := 22) rv HRVS.out HOX.out rfl (by omega) (Nat.le_trans hwsz hvs)
          obtain ⟨a5, m5, d5, rfl⟩ : ∃ a m d, v5 = .slice a m d := by obtain ⟨a, d, e⟩ := hrow5.shapeM; exact ⟨a, _, d, e⟩
          have HB5 := Lib.hid (hBW.out.trans ((hWB.mono hwsz).trans (hk5.toBelow (Nat.le_trans hwsz hvs) (fun i hi e => by have := (hRV.out.ge e).1; omega))))
          have HR5 := Lib.hid hrow5
          have HLN := Lib.hid (HLE.out rfl)
          have HST2 := Lib.hid (HST.out.2 rfl)
          have hlen := HLN.out
          rw [List.length_drop] at hlen
          have huw : IntKind.i64.wrap ((n : Int) + u) = n + u := IntWalk.i64_in _ (by omega)
          first
            | rw [World.size_alloc] at hrun
            | rw [put3_size] at hrun
          have HRUN := Lib.hid hrun
          clear hrow5 hk5 hbv hWB hrun
          go_wp2_with (at_builtin; refine wpList_append_run (by rfl) _ _ _ _ (by rfl) (.slice a4 vs.length d4) _ (.slice a5 m5 d5) w5 (by rfl) (by rfl) HRUN.out ?_)
          go_roundw
          case rel => exact ⟨k + 1, n + u, vs ++ [rv], by omega, by omega, by rw [List.length_append, HVK.out]; rfl, by go_num, by go_num, HR5, HB5, HST2⟩
          case measure => simp [intOf]; omega
        · have hz : ((er : Int) == 0) = false := by simp; omega
          have HE := Lib.hid (show decR s.data.toList b = ([], 0, er) by
            have h1 := HST.out.1 h0
            unfold decR
            rw [if_neg (by rw [HE0.out]; decide), h1, if_pos h0])
          have HB5 := Lib.hid (hBW.out.trans (hWB.mono hwsz))
          clear h0 hWB hbv
          go_wp2_with fail
          all_goals
            go_ret3
            exact ⟨_, by rw [HE.out]; rfl, by rw [HE.out]; exact .inl ⟨_, _, rfl, rfl⟩, HB5.out⟩
      all_goals
        have hput := put3 wr.heap.size (.int .u64 (rv.num : Nat)) (.string rv.str) (.slice a3 m3 d3) w4
        have hA4 : Below wr.heap.size wr w4 := (below_drew ((Below.refl wr.heap.size wr).alloc (Nat.le_refl _) (.cells #[.int .u64 0, .string ⟨#[]⟩, .slice none 0 0] 49 (0, 0)))).trans (hb4.mono (by omega))
        have hWB : Below wr.heap.size wr (((w4.setCell ⟨wr.heap.size, 0, none⟩ (.int .u64 (rv.num : Nat))).setCell ⟨wr.heap.size, 1, none⟩ (.string rv.str)).setCell ⟨wr.heap.size, 2, none⟩ (.slice a3 m3 d3)) := hA4.trans (hput.toBelow hA4.size (fun i hi e => by omega))
        have hbv : Blk (((w4.setCell ⟨wr.heap.size, 0, none⟩ (.int .u64 (rv.num : Nat))).setCell ⟨wr.heap.size, 1, none⟩ (.string rv.str)).setCell ⟨wr.heap.size, 2, none⟩ (.slice a3 m3 d3)) wr.heap.size 49 #[.int .u64 (rv.num : Nat), .string rv.str, .slice a3 m3 d3] := ((hbl.set_ 0 (.int .u64 (rv.num : Nat))).set_ 1 (.string rv.str)).set_ 2 (.slice a3 m3 d3)
        have HOX : Hid (Own32 (((w4.setCell ⟨wr.heap.size, 0, none⟩ (.int .u64 (rv.num : Nat))).setCell ⟨wr.heap.size, 1, none⟩ (.string rv.str)).setCell ⟨wr.heap.size, 2, none⟩ (.slice a3 m3 d3)) w.heap.size (.slice a3 m3 d3) rv.list) := Lib.hid ((hox.kept hput (fun g e q => by have := (hox.ge e).1; omega)).mono (by omega))
        clear hA4 hox hput hbl hb4 g0 g1 g2 f0 f1 f2
        have HLNZ := Lib.hid hWB
        have hvs := hWB.size
        have HBV := Lib.hid hbv
        have v0 := hbv.cell 0
        have v1 := hbv.cell 1
        have v2 := hbv.cell 2
        simp at v0 v1 v2
        by_cases h0 : er = 0
        · subst h0
          obtain ⟨a4, d4, rfl⟩ := hRV.out.shapeM
          have HRVS := Lib.hid (hRV.out.kept (Kept.of_below hWB (fun _ => False)) (fun _ _ h => h) (fun _ _ _ h => h))
          obtain ⟨v5, w5, hrun, hrow5, hk5⟩ := run_append_val (ty := 22) rv HRVS.out HOX.out rfl (by omega) (Nat.le_trans hwsz hvs)
          obtain ⟨a5, m5, d5, rfl⟩ : ∃ a m d, v5 = .slice a m d := by obtain ⟨a, d, e⟩ := hrow5.shapeM; exact ⟨a, _, d, e⟩
          have HB5 := Lib.hid (hBW.out.trans ((hWB.mono hwsz).trans (hk5.toBelow (Nat.le_trans hwsz hvs) (fun i hi e => by have := (hRV.out.ge e).1; omega))))
          have HR5 := Lib.hid hrow5
          have HLN := Lib.hid (HLE.out rfl)
          have HST2 := Lib.hid (HST.out.2 rfl)
          have hlen := HLN.out
          rw [List.length_drop] at hlen
          have huw : IntKind.i64.wrap ((n : Int) + u) = n + u := IntWalk.i64_in _ (by omega)
          first
            | rw [World.size_alloc] at hrun
            | rw [put3_size] at hrun
          have HRUN := Lib.hid hrun
          clear hrow5 hk5 hbv hWB hrun
          go_wp2_with (at_builtin; refine wpList_append_run (by rfl) _ _ _ _ (by rfl) (.slice a4 vs.length d4) _ (.slice a5 m5 d5) w5 (by rfl) (by rfl) HRUN.out ?_)
          go_roundw
          case rel => exact ⟨k + 1, n + u, vs ++ [rv], by omega, by omega, by rw [List.length_append, HVK.out]; rfl, by go_num, by go_num, HR5, HB5, HST2⟩
          case measure => simp [intOf]; omega
        · have hz : ((er : Int) == 0) = false := by simp; omega
          have HE := Lib.hid (show decR s.data.toList b = ([], 0, er) by
            have h1 := HST.out.1 h0
            unfold decR
            rw [if_neg (by rw [HE0.out]; decide), h1, if_pos h0])
          have HB5 := Lib.hid (hBW.out.trans (hWB.mono hwsz))
          clear h0 hWB hbv
          go_wp2_with fail
          all_goals
            go_ret3
            exact ⟨_, by rw [HE.out]; rfl, by rw [HE.out]; exact .inl ⟨_, _, rfl, rfl⟩, HB5.out⟩
    · obtain rfl : k = s.size := by omega
      have HDV := Lib.hid (show decV s.data.toList b = (vs, n, 0) by
        rw [hD.out, List.drop_of_length_le (Nat.le_of_eq HS.out)]; unfold combD decV; simp)
      have HDR := Lib.hid (show decR s.data.toList b = if 4000 < n then ([], 0, 3) else (vs, n, 0) by
        unfold decR
        rw [if_neg (by rw [HE0.out]; decide), HDV.out, if_neg (by simp)])
      have HRV := Lib.hid hRV.out.at_
      by_cases h4 : 4000 < n
      · have d4 : decide ((4000 : Int) < n) = true := decide_eq_true (by omega)
        have HE := Lib.hid (show decR s.data.toList b = ([], 0, 3) by rw [HDR.out, if_pos h4])
        clear h4
        go_wp2_with fail
        go_ret3
        exact ⟨_, by rw [HE.out]; rfl, by rw [HE.out]; exact .inl ⟨_, _, rfl, rfl⟩, hBW.out⟩
      · have d4 : decide ((4000 : Int) < n) = false := decide_eq_false (by omega)
        have HE := Lib.hid (show decR s.data.toList b = (vs, n, 0) by rw [HDR.out, if_neg h4])
        clear h4
        go_wp2_with fail
        go_ret3
        exact ⟨_, by rw [HE.out]; rfl, by rw [HE.out]; exact HRV.out, hBW.out⟩

theorem refDecode_any (s : ByteArray) (v : Value) (b : List UInt8) (w : World) (hs : s.size ≤ maxLen) (hv : ∃ a d, v = .slice a b.length d ∧ b.length ≤ d) (hb : BytesAt w v b) (hl : b.length ≤ maxLen) :
    Calls Try.prog 16 #[.string s, v] w fun e w' => ∃ u, e = .returned (.tuple #[u, .int .i64 (decR s.data.toList b).2.1, .int .i64 (decR s.data.toList b).2.2]) ∧ ValsAt w' u (decR s.data.toList b).1 ∧ Below w.heap.size w w' := by
  obtain ⟨a, d, rfl, hd⟩ := hv
  exact refDecode_in s a d b w hs hd hb hl
end Go.Proofs.Ytnocmkjaifjgfaa.R
