/- The reference's with. -/
import Derived.Test.YtkknelcolbdphaaWith
namespace Go.Proofs.Ytkknelcolbdphaa
open Go.RowKit
set_option maxRecDepth 100000
attribute [local go_sem ↓] appL_eq
theorem RowAt.blk {α : Type} {f : α → Value} {w : World} {v : Value} {L : List α} (h : RowAt f w v L) : ∀ b o n c, v = .slice (some ⟨b, o, none⟩) n c → n ≠ 0 → b < w.heap.size := by
  intro b o n c e hn
  rcases h with ⟨a, cc, e2, h0⟩ | ⟨b2, o2, c2, e2, hb3, _⟩
  · rw [e2] at e; cases e; exact absurd rfl hn
  · rw [e2] at e; cases e; exact hb3
set_option maxHeartbeats 2000000 in
theorem refWith_any {w : World} {l : Lay} {v vl : Value} {U : List Bool} {L : List Nat} {u : Bool} (hv : BoolsAt w v U) (hl : NatsAt w vl L) (hU : U.length ≤ 1000) (hL : L.length ≤ 100000) (hb : ∀ b ∈ L, b < U.length) :
    Calls Try.prog 45 #[.agg (stA l v), vl, .bool u] w (CopyPost l (withL U L u) w) := by
  obtain ⟨s, c, rfl⟩ := hv.val
  obtain ⟨sl, cl, rfl⟩ := hl.val
  obtain ⟨w2, hw2, hr1, hr2, hb2⟩ := box_two l (.slice s U.length c) w
  obtain ⟨g, c', w1, hr, ho, hbb⟩ := clone_run (hv.below hb2 (Nat.le_refl _)) hU
  obtain ⟨w4, hw4⟩ : ∃ w4, w1.setCell ⟨w.heap.size, 3, none⟩ (.slice (some ⟨g, 0, none⟩) U.length c') = w4 := ⟨_, rfl⟩
  have hR1 := hr1.below hbb hr1.lt
  have hR2 := hr2.below hbb hr2.lt
  have hx3a := fun o => (hr1.alloc o).four.2.2.2
  have hx3 := hR1.four.2.2.2
  have hxf := hR1.froz 3
  have hglt : w2.heap.size ≤ g ∧ g < w1.heap.size := ho.lt g rfl
  have hs4 : w4.heap.size = w1.heap.size := by rw [← hw4]; simp [World.setCell]
  have HO : Hid (OwnB w4 w2.heap.size (.slice (some ⟨g, 0, none⟩) U.length c') (withL U (L.take 0) u)) := Lib.hid (by rw [← hw4, List.take_zero]; exact ho.other (n := 0) (Nat.zero_le _) hr1.lt)
  have HT : Hid (Row w4 w.heap.size (stA l (.slice (some ⟨g, 0, none⟩) U.length c')) 33) := Lib.hid (by rw [← hw4]; exact hR1.set 3 _)
  have HZ0 : Hid (Row w4 (w.heap.size + 1) zeroSt 33) := Lib.hid (by rw [← hw4]; exact hR2.other (by omega))
  have hk4 : Kept (fun k => k = w.heap.size) w1 w4 := by rw [← hw4]; exact (Kept.refl (fun k => k = w.heap.size) w1).setCell ⟨w.heap.size, 3, none⟩ rfl _
  have HLL : Hid (NatsAt w4 (.slice sl L.length cl) L) := Lib.hid (((hl.below (hb2.trans (hbb.mono hb2.size)) (Nat.le_refl _))).kept hk4 (fun b o n c e hn hx => by have := hl.blk b o n c e hn; omega))
  have HLG : Hid (∀ b o n c, (.slice sl L.length cl : Value) = .slice (some ⟨b, o, none⟩) n c → n ≠ 0 → ¬ b = g) := Lib.hid (fun b o n c e hn hx => by have := hl.blk b o n c e hn; have := hr2.lt; omega)
  have HB4 : Hid (Below w.heap.size w w4) := Lib.hid ((hb2.trans (hbb.mono hb2.size)).trans (hk4.toBelow (by have := hb2.size; have := hbb.size; omega) (fun k e => by omega)))
  have HN : Hid (w2.heap.size ≤ g ∧ g < w4.heap.size ∧ w.heap.size + 1 < w2.heap.size ∧ w2.heap.size ≤ w4.heap.size) := Lib.hid ⟨hglt.1, by omega, hr2.lt, by have := hbb.size; omega⟩
  have HBD := Lib.hid hb
  have HW4 := Lib.hid hw4
  clear hw4 hR1 hR2 hglt hs4 hk4 hb2 hbb ho hv hl hb hr1 hr2
  unfold stA at hw2 ⊢
  go_enter Try.func45, Try.ntmps45
  go_wp2_with (first | rw [hw2] | rw [HW4.out])
  go_loopw [7] (fun i wr => ∃ k : Nat, k ≤ L.length ∧ i = .int .i64 k ∧ Hid (OwnB wr w2.heap.size (.slice (some ⟨g, 0, none⟩) U.length c') (withL U (L.take k) u)) ∧ Hid (Kept (fun k => k = g) w4 wr)) (fun i _ => L.length - (intOf i).toNat)
  case atStart => exact ⟨0, Nat.zero_le _, rfl, HO, Lib.hid (Kept.refl _ _)⟩
  case round =>
    obtain ⟨k, hk, rfl, hO, hB⟩ := hrel
    clear HO hr hx3a hx3 hxf
    have hT2 := HT.out.kept hB.out (by have := HN.out; omega)
    unfold stA at hT2
    obtain ⟨ht0, ht1, ht2, ht3⟩ := hT2.four
    have htd := fun n => (show Row (wr.drewN n) _ _ _ from hT2).four.2.2.2
    clear hT2
    by_cases hlt : k < L.length
    · have hd : decide ((k : Int) < L.length) = true := by simpa using hlt
      obtain ⟨gl, ol, rfl, hgl, hcl⟩ := (HLL.out.kept hB.out HLG.out).addr (by omega)
      have hck : wr.cell? ⟨gl, ol + k, none⟩ = some (.int .i64 ((L[k] : Nat) : Int)) := hcl k hlt
      have hbd := HBD.out L[k] (List.getElem_mem hlt)
      have hlen : (withL U (L.take k) u).length = U.length := withL_len _ _ _
      have HO2 : Hid (OwnB wr w2.heap.size (.slice (some ⟨g, 0, none⟩) (withL U (L.take k) u).length c') (withL U (L.take k) u)) := Lib.hid (by rw [hlen]; exact hO.out)
      have HLN := Lib.hid hlen
      have HST : Hid (withL U (L.take (k + 1)) u = (withL U (L.take k) u).set L[k] u) := Lib.hid (by rw [take_snocN L k hlt, withL_snoc])
      have hcg := HO2.out.cellB L[k] (by omega)
      have hfg : wr.frozen? ⟨g, L[k], none⟩ = false := World.ownsRow.frozenAt HO2.out _
      generalize L[k] = b at *
      clear hcl hgl hlen
      go_wp2
      go_region
      go_wp2
      go_roundw
      case rel => exact ⟨k + 1, by omega, by go_num, Lib.hid (by have := (HO2.out.set b u).drew; rw [HST.out]; rw [HLN.out] at this; exact this), Lib.hid (hB.out.setCell ⟨g, b, none⟩ rfl _).drew⟩
      case measure => simp [intOf]; omega
    · obtain rfl : k = L.length := by omega
      have hd : decide ((L.length : Int) < L.length) = false := by simp
      have HZ := Lib.hid (HZ0.out.kept hB.out (by have := HN.out; omega))
      obtain ⟨hy0, hy1, hy2, hy3⟩ := HZ.out.four
      have hyf := HZ.out.froz
      have HOE : Hid (OwnB wr w2.heap.size (.slice (some ⟨g, 0, none⟩) U.length c') (withL U L u)) := Lib.hid (by have := hO.out; rwa [List.take_length] at this)
      clear hlt
      go_wp2
      exact bodyPost_ret (bodyRet_st1 rfl rfl (HZ.out.sets4 _ _ _ _) rfl) rfl ⟨_, rfl,
        ((HOE.out.sub (by have := HN.out; omega)).sets4 (b := w.heap.size + 1) (by have := HN.out; have := hB.out.size; omega) (fun g o n c e => by
          have := (hO.out.lt g (by rw [e]; rfl)).1; have := HN.out.2.2.1; omega) _ _ _ _), below_sets4 (HB4.out.trans (hB.out.toBelow HB4.out.size (fun k e => by have := HN.out; omega))) _ (by omega) _ _ _ _⟩
end Go.Proofs.Ytkknelcolbdphaa
