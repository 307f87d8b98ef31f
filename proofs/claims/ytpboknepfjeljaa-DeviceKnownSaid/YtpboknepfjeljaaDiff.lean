/- Diff. -/
import Derived.Test.YtpboknepfjeljaaPuts
import Derived.Test.YtpboknepfjeljaaCrashV
namespace Go.Proofs.Ytpboknepfjeljaa
open Go.RowKit Go.MapKept
attribute [local go_sem ↓] loadS_eq storeS_eq neqS_eq eqlS_eq
set_option maxRecDepth 100000

/-- Two devices in one world. -/
def diffL (D E : Dv) (k : Nat) : List Nat := (List.range k).filter fun n => readsV D.st D.ca n != readsV E.st E.ca n
theorem diffL_succ (D E : Dv) (k : Nat) : diffL D E (k + 1) = if readsV D.st D.ca k = readsV E.st E.ca k then diffL D E k else diffL D E k ++ [k] := by
  unfold diffL
  rw [List.range_succ, List.filter_append]
  by_cases h : readsV D.st D.ca k = readsV E.st E.ca k
  · rw [if_pos h]; simp [h]
  · rw [if_neg h]; simp [h]
theorem diffL_len (D E : Dv) (k : Nat) : (diffL D E k).length ≤ k := by
  unfold diffL; exact Nat.le_trans (List.length_filter_le _ _) (by simp)
def intsL (l : List Nat) : List Int := l.map fun (n : Nat) => (n : Int)
def natVals (l : List Nat) : List Value := l.map fun (n : Nat) => Value.int .i64 (n : Int)
theorem natVals_snoc (l : List Nat) (k : Nat) : natVals (l ++ [k]) = natVals l ++ [.int .i64 (k : Int)] := by simp [natVals]
theorem Try.infoInt0 : (Try.prog.info? 3).map (fun i => (i.zero, i.size, i.bytes)) = some (some (.int .i64 0), 1, 8) := by kernel_rfl
theorem int_new0 (w : World) (n : Int) : ∀ j u, [Value.int .i64 n][j]? = some u → (w.alloc (.cells #[.int .i64 n] 3 (0, 0))).cell? ((⟨w.heap.size, 0, none⟩ : Addr).add j) = some u := by
  intro j u hj
  rw [addr_add0, Nat.zero_add, cell_of_row _ _ _ _ _ (0, 0) (heap_alloc_new w _)]
  simpa using hj

set_option maxHeartbeats 1000000 in
theorem diff_same {w : World} {b c : Nat} {X Y : Nat → Prop} {D E : Dv} (hD : DevAt w b X D) (hE : DevAt w c Y E) (hl : D.st.length = E.st.length) :
    Calls Try.prog 28 #[.pointer (some ⟨b, 0, none⟩), .pointer (some ⟨c, 0, none⟩)] w fun e w' => ∃ v, e = .returned (.tuple #[v, .int .i64 0]) ∧ w'.ownsRow w.heap.size 3 1 v (diffL D E D.st.length).length (natVals (diffL D E D.st.length)) ∧ Below w.heap.size w w' := by
  have HC1 := Lib.hid (isMade_any hD)
  have HC2 := Lib.hid (isMade_any hE)
  obtain ⟨m, vs, vc, hp, -⟩ := hD.parts
  obtain ⟨m', vs', vc', hp', -⟩ := hE.parts
  have h1 := hp.cells.2.1
  have h1' := hp'.cells.2.1
  obtain ⟨g, cc, _, rfl, _⟩ := hp.stv
  obtain ⟨g', cc', _, rfl, _⟩ := hp'.stv
  have hs1 := hp.ok.s1
  rw [← hl] at h1'
  have HD := Lib.hid hD
  have HE := Lib.hid hE
  have HL := Lib.hid hl
  obtain ⟨n, hn⟩ : ∃ n, D.st.length = n := ⟨_, rfl⟩
  have HN := Lib.hid hn
  rw [hn] at h1 h1' hs1 ⊢
  obtain ⟨i0, hi0, hz0, hz1, hz2⟩ := info_parts Try.infoInt0
  clear hp hp' hD hE hl hn
  go_enter Try.func28, Try.ntmps28
  go_wp2_with fail
  refine HC1.out.mono ?_
  rintro e w' ⟨rfl, rfl⟩
  go_wp2_with fail
  refine HC2.out.mono ?_
  rintro e w' ⟨rfl, rfl⟩
  go_wp2_with fail
  go_quiet (fail)
  obtain ⟨w0, hw0⟩ : ∃ W, w.drewN nq = W := ⟨_, rfl⟩
  have HM0 : Hid (Mem w w0) := Lib.hid (by rw [← hw0]; exact ⟨rfl, rfl, rfl, rfl⟩)
  have h1m : w0.cell? ⟨b, 1, none⟩ = some (.slice (some ⟨g, 0, none⟩) n cc) := by rw [cell_heap HM0.out.heap]; exact h1
  rw [hw0]
  clear hw0 h1 h1'
  go_wp2
  go_loopw [6, 32] (fun v i wr => ∃ k : Nat, k ≤ n ∧ i = .int .i64 k ∧ Hid (wr.ownsRow w.heap.size 3 1 v (diffL D E k).length (natVals (diffL D E k))) ∧ Hid (Below w.heap.size w wr)) (fun _ i _ => n - (intOf i).toNat)
  case atStart => exact ⟨0, Nat.zero_le _, rfl, Lib.hid (World.ownsRow_nil _ _ _ _), Lib.hid (HM0.out.below _)⟩
  case round =>
    obtain ⟨k, hk, rfl, HO, HB⟩ := hrel
    by_cases hlt : k < n
    · have HS1 := Lib.hid (sector_any (HD.out.below HB.out (Nat.le_refl _)) k (by rw [HN.out]; exact hlt))
      have HSU := Lib.hid (diffL_succ D E k)
      have HLN := Lib.hid (diffL_len D E k)
      have hkl : (k : Int) < (n : Int) := by omega
      go_wp2_with fail
      refine HS1.out.mono ?_
      rintro e w2 ⟨rfl, hb2⟩
      have HB2 := Lib.hid (HB.out.trans (hb2.mono HB.out.size))
      have HO2 := Lib.hid (row_kept HO.out (Below.kept hb2 (fun _ => False) (fun k hk _ => hk)) (fun _ _ h => h))
      clear hb2
      have HS2 := Lib.hid (sector_any (HE.out.below HB2.out (Nat.le_refl _)) k (by rw [← HL.out, HN.out]; exact hlt))
      go_wp2_with fail
      refine HS2.out.mono ?_
      rintro e w3 ⟨rfl, hb3⟩
      have HB3 := Lib.hid (HB2.out.trans (hb3.mono HB2.out.size))
      have HO3 := Lib.hid (row_kept HO2.out (Below.kept hb3 (fun _ => False) (fun k hk _ => hk)) (fun _ _ h => h))
      have hq := run_neqS w3 (readsV D.st D.ca k) (readsV E.st E.ca k)
      clear hb3
      by_cases heq : readsV D.st D.ca k = readsV E.st E.ca k
      · rw [decide_eq_true heq] at hq
        have HR : Hid (diffL D E (k + 1) = diffL D E k) := Lib.hid (by rw [HSU.out, if_pos heq])
        clear heq
        generalize readsV D.st D.ca k = x at *
        generalize readsV E.st E.ca k = y at *
        go_wp2
        go_roundw
        case rel => exact ⟨k + 1, by omega, by go_num, Lib.hid (by rw [HR.out]; exact HO3.out), HB3⟩
        case measure => simp [intOf]; omega
      · rw [decide_eq_false heq] at hq
        have HR : Hid (diffL D E (k + 1) = diffL D E k ++ [k]) := Lib.hid (by rw [HSU.out, if_neg heq])
        clear heq
        generalize readsV D.st D.ca k = x at *
        generalize readsV E.st E.ca k = y at *
        go_wp2_with (at_builtin; refine wpList_append_own _ rfl _ _ 37 rfl w.heap.size 3 i0 (.int .i64 0) 1 8 Try.underlying37 hi0 hz0 hz1 hz2 rfl (by decide) _ _ _ rfl (HO3.out.alloc _) ⟨w3.heap.size, 0, none⟩ 1 1 [.int .i64 (k : Int)] rfl rfl (int_new0 _ _) (by simp [Value.oneCell']) (by have := HLN.out; unfold maxLen; omega) (by have := HLN.out; omega) (by have := HB3.out.size; simp; omega) ?_; intro v' w5 hown5 hgrow5 _)
        have HO5 : Hid (w5.ownsRow w.heap.size 3 1 v' (diffL D E (k + 1)).length (natVals (diffL D E (k + 1)))) := Lib.hid (by rw [HR.out, natVals_snoc, List.length_append]; exact hown5)
        have HB5 : Hid (Below w.heap.size w w5) := Lib.hid ((HB3.out.alloc HB3.out.size _).grown hgrow5 (by have := HB3.out.size; simp; omega) (fun k e => (HO3.out.lt k e).1))
        clear hown5 hgrow5
        go_wp2
        go_roundw
        case rel => exact ⟨k + 1, by omega, by go_num, HO5, HB5⟩
        case measure => simp [intOf]; omega
    · obtain rfl : k = n := by omega
      have d1 : decide ((k : Int) < k) = false := by simp
      go_wp2
      go_ret2
      exact ⟨_, rfl, HO.out, HB.out⟩
end Go.Proofs.Ytpboknepfjeljaa
