/- The iterator of a line's fields: its contract. -/
import Derived.Test.YtnmkcohfhomenaaDoorFields2
namespace Go.Proofs.YtnmkcohfhomenaaDoor
open Go.RowKit

theorem fl0 : findLabel sc 0 = some (.seq .skip (xc 0)) := by
  simp only [xc, sc, Tryd.f73, findLabel, beq_iff_eq, Nat.reduceBEq, reduceIte, Nat.reduceEqDiff, Bool.false_eq_true, if_false, if_true]
theorem fl1 : findLabel sc 1 = some (.seq .skip (xc 1)) := by
  simp only [xc, sc, Tryd.f73, findLabel, beq_iff_eq, Nat.reduceBEq, reduceIte, Nat.reduceEqDiff, Bool.false_eq_true, if_false, if_true]
theorem fl2 : findLabel sc 2 = some (.seq .skip (xc 2)) := by
  simp only [xc, sc, Tryd.f73, findLabel, beq_iff_eq, Nat.reduceBEq, reduceIte, Nat.reduceEqDiff, Bool.false_eq_true, if_false, if_true]

theorem skip_seq {F : Fence} {n : Nat} {P : Program} {x : Code} {Q : Exit → Act → World → Prop} {a : Act} {w : World} (h : x.wpIn F n P Q a w) : (Code.seq .skip x).wpIn F n P Q a w :=
  wpIn_seq (wpIn_skip h)

set_option maxHeartbeats 4000000 in
set_option maxRecDepth 100000 in
theorem fields1_seq (n : Nat) (hn : 3 ≤ n) (line : ByteArray) (B : Nat) (W : World) (hsz : line.size ≤ 8192) (hB : B < W.heap.size) (hE : Env W)
    (hbox : W.cell? ⟨B, 0, none⟩ = some (.string line)) :
    SeqF Fence.wide n Tryd.prog 73 #[.pointer (some ⟨B, 0, none⟩)] Fld.encs W.heap.size (fun xs => xs <+: seqOf line.data.toList) (fun xs => xs = seqOf line.data.toList) (fun pre => pre <+: seqOf line.data.toList) W := by
  intro l J Jx hJ hJx hY h0
  have h9 := hE.nine
  change CallsIn _ _ _ _ _ _ (Ends line.data.toList J Jx)
  refine callsIn_of_wp Tryd.func73 rfl trivial ?_ rfl
  simp only [Tryd.ntmps73, List.size_toArray, List.length_cons, List.length_nil, Nat.reduceAdd, Nat.reduceSub, Array.replicate_succ, Array.replicate_zero, List.push_toArray, List.append_toArray, List.nil_append, List.cons_append]
  refine wpIn_scope_jumps (RR line.data.toList l B W.heap.size J) mu ?first ?pass
  case first =>
    by_cases hl : 0 < line.size
    · have hne := isEmpty_false line hl
      gi_wp2_with fail
      refine wpIn_label ?_
      refine (by assumption : ∀ (a : Act) (w : World), _ → _) _ _ ?_
      refine wpIn_mono (tail1 n hn line.data.toList l B W.heap.size J Jx hJ h9 hY _ _ ⟨line, [], ⟨_, _, _, _, _, _, _, _, _, _, _, _, _, _, _, _, _, _, _, _, _, _, _, _, _, _, _, _, _, _, _, _, _, _, _, _, _, _, _, _, _, _, _, _, _, rfl⟩, ?_, hsz, hJ _ _ _ h0 ((Kept.refl _ _).alloc _), hE.below ((Below.refl 9 _).alloc h9 _) (Nat.le_refl _), ⟨#[]⟩, false, World.alloc_heap_new _ _⟩) ?_
      · rw [List.nil_append]; unfold seqOf goL
        rw [if_neg (by intro e; have := size_len line; rw [e] at this; simp at this; omega)]
      · intro e a3 w3 hq
        cases e with
        | goto l' => exact ⟨hq.1, hq.2.1⟩
        | _ => exact hq
    · have hem := empty_of line hl
      subst hem
      gi_wp2_with fail
      refine bodyPost_ret (results_none rfl _ _ _) rfl ?_
      exact ⟨⟨_, rfl⟩, .inl ⟨[], rfl, h0⟩⟩
  case pass =>
    intro k rest a w hf hR
    match k, hR with
    | 0, hR =>
      obtain rfl := Option.some.inj (hf.symm.trans fl0)
      exact skip_seq (tail0 n hn line.data.toList l B W.heap.size J Jx hJ h9 hY a w hR)
    | 1, hR =>
      obtain rfl := Option.some.inj (hf.symm.trans fl1)
      exact skip_seq (tail1 n hn line.data.toList l B W.heap.size J Jx hJ h9 hY a w hR)
    | 2, hR =>
      obtain rfl := Option.some.inj (hf.symm.trans fl2)
      exact skip_seq (tail2 n hn line.data.toList l B W.heap.size J Jx hY a w hR)

theorem fields_any (s : ByteArray) (w : World) :
    Calls Tryd.prog 48 #[.string s] w fun e w' => e = .returned (.func (.func 73) #[] #[.pointer (some ⟨w.heap.size, 0, none⟩)]) ∧ w' = w.alloc (.cells #[.string s] 9) := by
  have hmf : ∀ (fn : Fn) (first cap : Array Value) (w : World), (Instr.makeFunc fn first cap).run Tryd.prog w = .ok (.func fn first cap) w := fun _ _ _ _ => rfl
  go_enter Tryd.func48, Tryd.ntmps48
  go_wp2
  go_ret
  exact ⟨rfl, rfl⟩
end Go.Proofs.YtnmkcohfhomenaaDoor
