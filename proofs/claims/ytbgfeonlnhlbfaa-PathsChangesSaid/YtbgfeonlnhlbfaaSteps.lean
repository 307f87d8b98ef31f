/- steps: two paths, name by name. -/
import Derived.Test.YtbgfeonlnhlbfaaPad
import Derived.Stop.RegionWithIn
namespace Go.Proofs.Ytbgfeonlnhlbfaa
open Go.RowKit
attribute [local go_sem] Oper.semAt_some

theorem bf_lt {w : World} {bf : Nat} {o : Obj} (h : w.heap[bf]? = some o) : bf < w.heap.size := (Array.getElem?_eq_some_iff.1 h).1
theorem boxed_kept {X : Nat → Prop} {A B : World} {b t : Nat} {v : Value} (h : Boxed A b t v) (hk : Kept X A B) (hb : ¬ X b) : Boxed B b t v :=
  (hk.block b h.lt hb).trans h
theorem below_kept {X : Nat → Prop} {n : Nat} {A B C : World} (h : Below n A B) (hk : Kept X B C) (hn : n ≤ A.heap.size) (hx : ∀ k, X k → n ≤ k) : Below n A C :=
  h.trans (hk.toBelow (Nat.le_trans hn h.size) hx)

theorem steps_any (a1 a2 : Option Addr) (n1 n2 c1 c2 : Nat) (w : World) :
    Calls Try.prog 60 #[.slice a1 n1 c1, .slice a2 n2 c2] w fun e w' => e = .returned (.func (.func 69) #[] #[.pointer (some ⟨w.heap.size, 0, none⟩), .pointer (some ⟨w.heap.size + 1, 0, none⟩)]) ∧
      w' = (w.alloc (.cells #[.slice a1 n1 c1] 22)).alloc (.cells #[.slice a2 n2 c2] 22) := by
  go_enter Try.func60, Try.ntmps60
  go_wp2
  go_ret
  exact ⟨rfl, rfl⟩

/-- What the iterator hands out. -/
def encP (x : ByteArray × ByteArray) : Array Value := #[padV x.1.data.toList, padV x.2.data.toList]
/-- What stands while the iterator goes: the two boxes, the paths. -/
structure StepS (w0 : World) (b1 b2 : Nat) (v1 v2 : Value) (J : World → Prop) (m : Nat) (W : World) : Prop where
  bel : Below w0.heap.size w0 W
  x1 : Boxed W b1 22 v1
  x2 : Boxed W b2 22 v2
  j : J W
  size : m ≤ W.heap.size
theorem StepS.below {w0 : World} {b1 b2 : Nat} {v1 v2 : Value} {J : World → Prop} {m : Nat} {W W' : World} (h : StepS w0 b1 b2 v1 v2 J m W) (hJ : ∀ A B, J A → Kept (fun _ => False) A B → J B) (hb : Below W.heap.size W W') : StepS w0 b1 b2 v1 v2 J m W' :=
  have hk : Kept (fun _ => False) W W' := (Kept.refl _ W).below hb
  ⟨h.bel.trans (hb.mono h.bel.size), boxed_kept h.x1 hk (fun h => h), boxed_kept h.x2 hk (fun h => h), hJ _ _ h.j hk, Nat.le_trans h.size hb.size⟩
theorem StepS.drew {w0 : World} {b1 b2 : Nat} {v1 v2 : Value} {J : World → Prop} {m : Nat} {W : World} (h : StepS w0 b1 b2 v1 v2 J m W) (hJ : ∀ A B, J A → Kept (fun _ => False) A B → J B) : StepS w0 b1 b2 v1 v2 J m W.drew :=
  h.below hJ ((Below.refl _ _).drew)
/-- What the rounds may turn. -/
def stepR (w0 : World) (b1 b2 : Nat) (k : Nat) : Prop := w0.heap.size ≤ k ∧ k ≠ b1 ∧ k ≠ b2

theorem StrsAt.at' {w0 : World} {a : Option Addr} {n c : Nat} {ss : List ByteArray} (h : StrsAt w0 (.slice a n c) ss) (k : Nat) (hk : k < ss.length) :
    ∃ g o, a = some ⟨g, o, none⟩ ∧ ∀ W, Below w0.heap.size w0 W → W.cell? ⟨g, o + k, none⟩ = some (.string ss[k]) := by
  rcases h with ⟨a', c', hv, rfl⟩ | ⟨b, o, c', hv, _, hb, hc⟩
  · simp at hk
  · cases hv
    exact ⟨b, o, rfl, fun W hB => (hB.cell (p := ⟨b, o + k, none⟩) hb).trans (hc k hk)⟩

set_option maxHeartbeats 4000000 in
set_option maxRecDepth 100000 in
theorem steps_seq (n : Nat) (hn : 3 ≤ n) (w0 : World) (b1 b2 : Nat) (v1 v2 : Value) (ps qs : List ByteArray) (W : World) (hp : StrsAt w0 v1 ps) (hq : StrsAt w0 v2 qs)
    (hs1 : ∀ s ∈ ps, s.size ≤ 24) (hs2 : ∀ s ∈ qs, s.size ≤ 24) (hl1 : ps.length ≤ 8) (hl2 : qs.length ≤ 8) (hbel : Below w0.heap.size w0 W) (x1 : Boxed W b1 22 v1) (x2 : Boxed W b2 22 v2) :
    SeqF Fence.wide n Try.prog 69 #[.pointer (some ⟨b1, 0, none⟩), .pointer (some ⟨b2, 0, none⟩)] encP (fun _ => False) (stepR w0 b1 b2) (fun xs => xs <+: ps.zip qs) (fun xs => xs = ps.zip qs) (fun xs => xs <+: ps.zip qs) W := by
  intro l J Jx hJ hJx hY h0
  have HP := Lib.hid hp
  have HQ := Lib.hid hq
  have HS1 := Lib.hid hs1
  have HS2 := Lib.hid hs2
  obtain ⟨a1, c1, rfl⟩ := hp.shape
  obtain ⟨a2, c2, rfl⟩ := hq.shape
  have HS0 : StepS w0 b1 b2 (.slice a1 ps.length c1) (.slice a2 qs.length c2) (J []) W.heap.size W := ⟨hbel, x1, x2, h0, Nat.le_refl _⟩
  have hx1 := x1.cell
  have hx2 := x2.cell
  clear hp hq hs1 hs2 hbel x1 x2 h0
  refine callsIn_of_wp Try.func69 rfl trivial ?_ rfl
  simp only [Try.ntmps69, List.size_toArray, List.length_cons, List.length_nil, Nat.reduceAdd, Nat.reduceSub, Array.replicate_succ, Array.replicate_zero, List.push_toArray, List.append_toArray, List.nil_append, List.cons_append]
  gi_wp2
  all_goals
    gi_loopw [10] (fun i wr => ∃ k : Nat, k ≤ (ps.zip qs).length ∧ i = .int .i64 k ∧ StepS w0 b1 b2 (.slice a1 ps.length c1) (.slice a2 qs.length c2) (J ((ps.zip qs).take k)) W.heap.size wr) (fun i _ => 8 - (intOf i).toNat)
    case atStart => exact ⟨0, Nat.zero_le _, rfl, HS0⟩
    case round =>
      obtain ⟨k, hk, rfl, hS⟩ := hrel
      have hz : (ps.zip qs).length = min ps.length qs.length := List.length_zip
      by_cases hlt : k < ps.length ∧ k < qs.length
      · obtain ⟨hk1, hk2⟩ := hlt
        have hJ' : ∀ A B, J ((ps.zip qs).take k) A → Kept (fun _ => False) A B → J ((ps.zip qs).take k) B := fun A B => hJ _ A B
        obtain ⟨g1, o1, rfl, hpc⟩ := HP.out.at' k hk1
        obtain ⟨g2, o2, rfl, hqc⟩ := HQ.out.at' k hk2
        have hx1 := hS.x1.cell
        have hx2 := hS.x2.cell
        have hp1 := hpc _ hS.bel
        have hq1 := hqc _ hS.bel
        have i00 : (0 : Int) ≤ (k : Int) := Int.natCast_nonneg _
        have i01 : (k : Int) < (ps.length : Int) := by omega
        have i02 : (k : Int) < (qs.length : Int) := by omega
        have hz1 := HS1.out _ (List.getElem_mem hk1)
        have hz2 := HS2.out _ (List.getElem_mem hk2)
        have HPC := Lib.hid hpc
        have HQC := Lib.hid hqc
        clear hpc hqc
        gi_wp2_with fail
        have hpre : (ps.zip qs).take k ++ [(ps[k], qs[k])] = (ps.zip qs).take (k + 1) := by
          rw [List.take_succ_eq_append_getElem (by omega), List.getElem_zip]
        have hY' : ∀ X, J ((ps.zip qs).take k) X → W.heap.size ≤ X.heap.size → YieldAt Fence.wide (n - 1) Try.prog l #[padV ps[k].data.toList, padV qs[k].data.toList] X fun e X' => ∃ b, e = .returned (.bool b) ∧
            (b = true → J ((ps.zip qs).take (k + 1)) X' ∧ Kept (stepR w0 b1 b2) X X') ∧ (b = false → Jx ((ps.zip qs).take (k + 1)) X') := fun X h1 h2 =>
          (hY _ (ps[k], qs[k]) X h1 h2 (by rw [hpre]; exact List.take_prefix _ _)).mono (by
            rw [hpre]
            rintro e X' (⟨he, h3, h4⟩ | ⟨he, h3⟩)
            · exact ⟨true, he, fun _ => ⟨h3, h4⟩, fun h => nomatch h⟩
            · exact ⟨false, he, fun h => (nomatch h), fun _ => h3⟩)
        clear hY hpre
        gi_wp2_with fail
        gi_region_with (first
          | (refine ⟨trivial, fun _ => by omega, (callsIn_wide.2 (pad_any _ _ (by assumption))).mono ?_⟩; rintro e w9 ⟨rfl, hb9⟩; have hS9 := (show StepS w0 b1 b2 _ _ (J ((ps.zip qs).take k)) W.heap.size w9 by first | exact hS9.below hJ' hb9 | exact (hS.drew hJ').below hJ' hb9); have hx19 := hS9.x1.cell; have hx29 := hS9.x2.cell; have hp19 := HPC.out _ hS9.bel; have hq19 := HQC.out _ hS9.bel; obtain ⟨fn, tmps, assign, body, hy, hR⟩ := hY' w9 hS9.j hS9.size)
          | (refine ⟨fun _ => by omega, hR.mono ?_⟩; rintro e w8 ⟨b8, rfl, hb8⟩; have hSz := hS9))
        all_goals
          cases b8 with
          | true =>
            obtain ⟨h3, h4⟩ := hb8.1 rfl
            have hSn : StepS w0 b1 b2 _ _ (J ((ps.zip qs).take (k + 1))) W.heap.size w8 := ⟨below_kept hSz.bel h4 (Nat.le_refl _) (fun k h => h.1), boxed_kept hSz.x1 h4 (fun h => h.2.1 rfl), boxed_kept hSz.x2 h4 (fun h => h.2.2 rfl), h3, Nat.le_trans hSz.size h4.size⟩
            gi_wp2
            go_roundw
            case rel => exact ⟨k + 1, by omega, by go_num, hSn⟩
            case measure => simp [intOf]; omega
          | false =>
            have h3 := hb8.2 rfl
            gi_wp2
            refine bodyPost_ret (results_none rfl _ _ _) rfl ?_
            exact ⟨⟨_, rfl⟩, .inr ⟨_, List.take_prefix _ _, h3⟩⟩
      · have hJk := hS.j
        rw [List.take_of_length_le (by omega)] at hJk
        first
          | (have hge : ¬ k < qs.length := by omega
             gi_wp2
             go_end0
             exact ⟨⟨_, rfl⟩, .inl ⟨_, rfl, hJk⟩⟩)
          | (have hge : ¬ k < ps.length := by omega
             gi_wp2
             go_end0
             exact ⟨⟨_, rfl⟩, .inl ⟨_, rfl, hJk⟩⟩)
end Go.Proofs.Ytbgfeonlnhlbfaa
