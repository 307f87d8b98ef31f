/- Patch. -/
import Derived.Test.YtadaohjphgpdnaaDoorLocate
import Derived.Test.YtadaohjphgpdnaaDoorLKnown
import Derived.Test.YtadaohjphgpdnaaDoorSlices
import Derived.Stop.RegionWithIn
import Derived.RegionIn
import Derived.BigRegionIn
import Derived.Shelf.Abstract
import Derived.Lib.LazyBuf
namespace Go.Proofs.YtadaohjphgpdnaaDoor
open Go.RowKit
attribute [local go_sem] Oper.semAt_some

noncomputable def sliceX (x : Value) (lo hi mx : Option Value) : Sem Value := Instr.sliceAt 23 x lo hi mx
theorem sliceX_eq (x : Value) (lo hi mx : Option Value) : Instr.sliceAt 23 x lo hi mx = sliceX x lo hi mx := rfl
theorem elemBytes : Tryd.prog.underlying 23 = some (.slice (Tryd.prog.elem 23)) := by kernel_rfl
theorem sizeByte (W : World) : (sizeOf (Tryd.prog.elem 23)).run Tryd.prog W = .ok 1 W := by kernel_rfl
theorem sliceX_from (g o d j : Nat) (l : List UInt8) (w : World) (hv : BytesAt w (.slice (some ⟨g, o, none⟩) l.length d) l) (hcap : l.length ≤ d) (hj : j ≤ l.length) (e : Int) (he : e = j) :
    ∃ A, (∀ W, Sem.run Tryd.prog (sliceX (.slice (some ⟨g, o, none⟩) l.length d) (some (.int .i64 e)) none none) W = .ok (.slice A (l.length - j) (d - j)) W) ∧ BytesAt w (.slice A (l.length - j) (d - j)) (l.drop j) := by
  subst he
  refine ⟨if d = j then some ⟨g, o, none⟩ else some ⟨g, o + j, none⟩, fun W => ?_, ?_⟩
  · unfold sliceX
    rw [run_sliceAt_slice (h := elemBytes), run_slice_l (ht := elemBytes) (h0 := by omega) (h1 := by omega), sizeByte]
    simp [Result.andThen, sliced, addr_add]
  · by_cases h : d = j
    · rw [if_pos h, show l.length - j = 0 from by omega, show l.drop j = [] from List.eq_nil_of_length_eq_zero (by rw [List.length_drop]; omega)]
      exact BytesAt.none_ _ _
    · rw [if_neg h]; exact hv.drop j hj
theorem sliceX_to (g o n d j : Nat) (hj : j ≤ d) (e : Int) (he : e = j) :
    ∀ W, Sem.run Tryd.prog (sliceX (.slice (some ⟨g, o, none⟩) n d) none (some (.int .i64 e)) none) W = .ok (.slice (some ⟨g, o, none⟩) j d) W := by
  subst he
  intro W
  unfold sliceX
  rw [run_sliceAt_slice (h := elemBytes), run_slice_h (ht := elemBytes) (h0 := by omega) (h2 := by omega), sizeByte]
  simp [Result.andThen, sliced, addr_add]

/-- What a copy leaves. -/
def CloneP (l : List UInt8) (w : World) (e : Ending) (w' : World) : Prop := ∃ g cap, e = .returned (.slice (some ⟨g, 0, none⟩) l.length cap) ∧ OwnBytes w' w.heap.size g cap l ∧ Below w.heap.size w w'
set_option maxHeartbeats 1000000 in
theorem clone_any (a : Addr) (d : Nat) (l : List UInt8) (w : World) (hv : BytesAt w (.slice (some a) l.length d) l) (hl : l.length ≤ 100000) :
    Calls Tryd.prog 42 #[.slice (some a) l.length d] w (CloneP l w) := by
  have hnil : (binOp .eql 23 (.slice (some a) l.length d) (.slice none 0 0)).run Tryd.prog w = .ok (.bool false) w := Lib.run_eql_slice_nil (h := Tryd.underlying23) ..
  have hB0 := (Below.refl w.heap.size w).alloc (Nat.le_refl _) (.cells #[] 5 (0, 0))
  have HO0 := Lib.hid (made0 w w.heap.size (Nat.le_refl _))
  have HV0 := Lib.hid (hv.below hB0 (Nat.le_refl _))
  clear hv
  go_enter Tryd.func42, Tryd.ntmps42
  go_wp2_with (at_builtin; refine wpList_append_bytes (by rfl) _ _ (by rfl) w.heap.size (.slice (some ⟨w.heap.size, 0, none⟩) 0 0) (.slice (some a) l.length d) 0 [] l (by rfl) (by rfl) HO0.out ⟨_, _, rfl⟩ HV0.out (by omega) (by simp) ?_; intro g cap w1 hown hgr; rw [Nat.zero_add, List.nil_append] at hown; rw [Nat.zero_add]; have HB1 := Lib.hid (hB0.grown hgr (by simp) (fun k e => (HO0.out.lt k e).1)); have HOW := Lib.hid (show OwnBytes w1 w.heap.size g cap l from hown); clear hgr hown)
  go_ret
  exact ⟨g, cap, rfl, HOW.out, HB1.out⟩

attribute [local go_sem ↓] sliceX_eq

theorem BytesAt.heap' {A B : World} {v : Value} {l : List UInt8} (h : BytesAt A v l) (e : B.heap = A.heap) : BytesAt B v l := by
  rcases h with h | ⟨b, o, c, rfl, hb, hc⟩
  · exact .inl h
  · exact .inr ⟨b, o, c, rfl, by rw [e]; exact hb, fun k hk => by unfold World.cell?; rw [e]; exact hc k hk⟩

/-- A fact that no tactic looks into. -/
theorem Env.heap {A B : World} (h : Env A) (e : B.heap = A.heap) : Env B := ⟨by have := h.tab; unfold Lib.TabIs World.var? at *; rw [e]; exact this, by rw [e]; exact h.one⟩
/-- The four bytes, one after the other. -/
def pset (l : List UInt8) (k x : Nat) : Nat → List UInt8
  | 0 => l
  | j + 1 => (pset l k x j).set (k + j) (byteK x j)
theorem pset_len (l : List UInt8) (k x : Nat) : ∀ j, (pset l k x j).length = l.length
  | 0 => rfl
  | j + 1 => by rw [pset, List.length_set, pset_len l k x j]
theorem pset_four (l : List UInt8) (k want : Nat) (h : k + 4 ≤ l.length) : pset l k (patX l k want) 4 = patV l k want := by
  apply List.ext_getElem?
  intro i
  by_cases hf : i < k ∨ k + 3 < i
  · rw [patV_far l k want i h hf]
    simp only [pset, List.getElem?_set]
    rw [if_neg (by omega), if_neg (by omega), if_neg (by omega), if_neg (by omega)]
  · have hl : (l.take k).length = k := by rw [List.length_take]; omega
    unfold patV
    rw [List.append_assoc, List.getElem?_append_right (by omega), hl]
    have h4 : i = k ∨ i = k + 1 ∨ i = k + 2 ∨ i = k + 3 := by omega
    simp only [pset, List.getElem?_set, List.length_set]
    rcases h4 with rfl | rfl | rfl | rfl
    · rw [if_neg (by omega), if_neg (by omega), if_neg (by omega), if_pos (by omega), if_pos (by omega), Nat.sub_self]; rfl
    · rw [if_neg (by omega), if_neg (by omega), if_pos (by omega), if_pos (by omega), show k + 1 - k = 1 from by omega]; rfl
    · rw [if_neg (by omega), if_pos (by omega), if_pos (by omega), show k + 2 - k = 2 from by omega]; rfl
    · rw [if_pos (by omega), if_pos (by omega), show k + 3 - k = 3 from by omega]; rfl
theorem byteK_wrap (x j : Nat) : IntKind.u8.wrap ((x : Int) / 2 ^ (8 * j)) = ((byteK x j).toNat : Int) := by
  rw [byteK_nat, show 256 ^ j = 2 ^ (8 * j) from by rw [Nat.pow_mul]]
  rw [IntKind.wrap_u8']
  have e : ((x : Int) / 2 ^ (8 * j)) = ((x / 2 ^ (8 * j) : Nat) : Int) := by simp
  rw [e]
  generalize x / 2 ^ (8 * j) = y
  omega

/-- The end of a region that is left in no other way. -/
def PostN (P : Act → World → Prop) : Exit → Act → World → Prop
  | .normal, a, w => P a w
  | _, _, _ => False
structure Kp (p : Prop) : Prop where
  out : p
theorem undo_zero (j u : Nat) : backN (8 * (j + 1)) u = undoV (backN (8 * j) u) 0 := by unfold undoV; rw [Nat.xor_zero, ← backN_add, Nat.mul_add, Nat.add_comm]
theorem patR_cell {w : World} {a : Addr} {l : List UInt8} {k want u : Nat} (hu : u = undosV (want ^^^ allV) (l.drop (k + 4))) (h : w.cell? a = some (.int .u32 (backN (8 * 4) u : Nat))) : w.cell? a = some (.int .u32 (patR l k want : Nat)) := by
  rw [h, hu]; rfl
theorem patR_lt {l : List UInt8} {k want : Nat} (hw : want < 4294967296) : patR l k want < 4294967296 := backN_lt (undosV_lt _ (xor_lt hw allV_lt))
/-- Between two rounds: the register. -/
structure PI (w : World) (r : List UInt8) (want : Nat) (pre : List Nat) (W : World) : Prop where
  c : Boxed W w.heap.size 53 (.int .u32 (undosV (want ^^^ allV) (r.drop (r.length - pre.length)) : Nat))
  bel : Below w.heap.size w W
theorem PI.kept {X : Nat → Prop} {w : World} {r : List UInt8} {want : Nat} {pre : List Nat} {A B : World} (h : PI w r want pre A) (hk : Kept X A B) (hx : ∀ k, X k → w.heap.size < k) : PI w r want pre B :=
  ⟨boxed_kept h.c hk (fun q => by have := hx _ q; omega), below_kept h.bel hk (Nat.le_refl _) (fun k q => by have := hx _ q; omega)⟩
theorem undosV_next (r : List UInt8) (x k : Nat) (hk : k < r.length) : undosV x (r.drop (r.length - (k + 1))) = undoV (undosV x (r.drop (r.length - k))) (r.getD (r.length - 1 - k) 0).toNat := by
  have h1 : r.length - (k + 1) < r.length := by omega
  rw [List.drop_eq_getElem_cons h1, show r.length - (k + 1) + 1 = r.length - k from by omega]
  show undoV (undosV x (r.drop (r.length - k))) (r[r.length - (k + 1)]).toNat = _
  congr 2
  rw [List.getD_eq_getElem?_getD, show r.length - 1 - k = r.length - (k + 1) from by omega, List.getElem?_eq_getElem h1]; rfl

/-- What Patch leaves. -/
def PatchP (l : List UInt8) (w : World) (e : Ending) (w' : World) : Prop := ∃ v, e = .returned (.tuple #[v, .int .i64 0]) ∧ (∃ a c, v = .slice (some a) l.length c) ∧ BytesAt w' v l ∧ Below w.heap.size w w'

set_option maxHeartbeats 400000 in
set_option maxRecDepth 100000 in
theorem patch_in (n : Nat) (hn : 8 ≤ n) (g o d : Nat) (l : List UInt8) (k want : Nat) (w : World) (hE : Env w) (hv : BytesAt w (.slice (some ⟨g, o, none⟩) l.length d) l) (hcap : l.length ≤ d) (hl : l.length ≤ 2000) (hk : k + 4 ≤ l.length) (hw : want < 4294967296) :
    CallsIn Fence.wide n Tryd.prog 22 #[.slice (some ⟨g, o, none⟩) l.length d, .int .i64 k, .int .u32 want] w (PatchP (patV l k want) w) := by
  have hml : l.length ≤ maxLen := by unfold maxLen; omega
  have d1 : decide ((k : Int) < 0) = false := decide_eq_false (by omega)
  have d2 : decide ((l.length : Int) - 4 < k) = false := decide_eq_false (by omega)
  have hx1 := xor_lt hw allV_lt
  obtain ⟨A, hsl, hA⟩ := sliceX_from g o d (k + 4) l w hv hcap hk ((k : Int) + 4) (by omega)
  have HR := Lib.hid (registerOf_any want w hw)
  have hb1 := hE.one
  have HV := Lib.hid hv
  have HA := Lib.hid hA
  have hr : (l.drop (k + 4)).length = l.length - (k + 4) := by rw [List.length_drop]
  have HRL := Lib.hid hr
  clear hv hA hr
  refine callsIn_of_wp_marks Tryd.func22 rfl trivial ?_ rfl
  simp only [Tryd.ntmps22, List.size_toArray, List.length_cons, List.length_nil, Nat.reduceAdd, Nat.reduceSub, Array.replicate_succ, Array.replicate_zero, List.push_toArray, List.append_toArray, List.nil_append, List.cons_append]
  gi_wp2_with fail
  refine ⟨trivial, fun _ => by omega, (callsIn_wide.2 HR.out).mono ?_⟩
  rintro e W4 ⟨rfl, rfl⟩
  gi_wp2_with fail
  refine ⟨trivial, fun _ => by omega, (callsIn_wide.2 (backward_any A (l.length - (k + 4)) (d - (k + 4)) _)).mono ?_⟩
  rintro e W7 ⟨rfl, rfl⟩
  gi_wp2_with fail
  obtain ⟨r, hrd⟩ : ∃ r, r = l.drop (k + 4) := ⟨_, rfl⟩
  have hrl : r.length = l.length - (k + 4) := by rw [hrd]; exact HRL.out
  have hAr : BytesAt w (.slice A (l.length - (k + 4)) (d - (k + 4))) r := by rw [hrd]; exact HA.out
  have hrm : r.length ≤ maxLen := by omega
  have HRD := Lib.hid hrd
  have HAR := Lib.hid hAr
  have HRL2 := Lib.hid hrl
  clear hrd hAr HA HRL hrl hsl d1 d2
  generalize Value.slice A (l.length - (k + 4)) (d - (k + 4)) = sv at *
  obtain ⟨W8, hW8⟩ : ∃ W8, (w.alloc (.cells #[.int .u32 (want ^^^ allV : Nat)] 53)).alloc (.cells #[sv] 23) = W8 := ⟨_, rfl⟩
  have hs8 : W8.heap.size = w.heap.size + 2 := by rw [← hW8]; simp
  have hB8 : Below w.heap.size w W8 := by rw [← hW8]; exact (((Below.refl _ _).alloc (Nat.le_refl _) _).alloc (by simp) _)
  have c8 : Boxed W8 w.heap.size 53 (.int .u32 (undosV (want ^^^ allV) (r.drop (r.length - ([] : List Nat).length)) : Nat)) := by
    rw [← hW8, show r.drop (r.length - ([] : List Nat).length) = [] from by simp]; exact (Boxed.new w _ _).alloc _
  have x8 : Boxed W8 (w.heap.size + 1) 23 sv := by
    rw [← hW8]; have := Boxed.new (w.alloc (.cells #[.int .u32 (want ^^^ allV : Nat)] 53)) 23 sv; rw [World.size_alloc] at this; exact this
  rw [hW8]
  have HI0 : PI w r want [] W8 := ⟨c8, hB8⟩
  have hI : Stays (O2 (fun _ => False) W8.heap.size) (PI w r want) := fun s A B h hk => h.kept hk (fun k q => by
    unfold O2 at q; simp at q; omega)
  have hIx : ∀ _ : Code, Stays (O2 (fun _ => False) W8.heap.size) (fun (_ : List Nat) (_ : World) => False) := fun _ _ _ _ h _ => h
  clear hW8 c8
  refine range_law (n := n) rfl (by omega) (gf := 52) (lb := #[.pointer (some ⟨w.heap.size + 1, 0, none⟩)]) rfl trivial (enters_of Tryd.func52 (by kernel_rfl) rfl)
    (O := fun _ => False) (R := backR w (w.heap.size + 1)) (encs := encI r) ⟨by omega, by omega⟩
    (fun W1 hb1' hs1 => backward_seq (n - 1) (by omega) w (w.heap.size + 1) sv r W1 HAR.out hrm (hB8.trans (hb1'.mono (by omega))) ((hb1'.block _ x8.lt).trans x8)) (fun _ => rfl) (fun k h => h.elim)
    (PI w r want) (fun _ _ _ => False) hI hIx HI0 ?round ?done ?stop
  case stop => rintro c pre W _ h _; exact h.elim
  case round =>
    rintro pre x W hL hbf hC K hK
    obtain ⟨hk1, rfl⟩ := revL_next _ _ _ hC
    have HST := Lib.hid (undosV_next r (want ^^^ allV) pre.length hk1)
    have HLEN := Lib.hid (show (pre ++ [r.length - 1 - pre.length]).length = pre.length + 1 by simp)
    have hz := (r.getD (r.length - 1 - pre.length) 0).toNat_lt
    unfold encI
    generalize (r.getD (r.length - 1 - pre.length) 0).toNat = z at *
    generalize r.length - 1 - pre.length = q at *
    clear hC
    gi_wp2
    refine hK _ _ (Kept.refl _ _) ?_
    clear hK
    intro W2 hk2
    have hL2 := hI _ _ _ hL (hk2.mono (fun k (h : k = _) => .inr (.inr h)))
    have HBK := Lib.hid (back_any w.heap.size 0 (undosV (want ^^^ allV) (r.drop (r.length - pre.length))) z W2 (undosV_lt _ hx1) (by omega) hL2.c.cell hL2.c.frozen)
    rw [← HST.out] at HBK
    gi_wp2_with fail
    refine ⟨trivial, fun _ => by omega, (CallsIn.inRound _ (callsIn_wide.2 HBK.out)).mono ?_⟩
    rintro e W9 ⟨rfl, hP⟩
    have HF := Lib.hid (show PI w r want (pre ++ [q]) W9 from ⟨by rw [HLEN.out]; exact boxed_put hL2.c hP, hL2.bel.trans (hP.below (B := w.heap.size) (by omega))⟩)
    have HK9 := Lib.hid (put_kept (X := R2 (backR w (w.heap.size + 1)) W8.heap.size) hP (by unfold R2 backR; omega))
    clear hP
    gi_wp2_with fail
    exact ⟨HK9.out, HF.out⟩
  case done =>
    rintro xs W hxs hL hD
    obtain rfl : xs = revL r.length := hxs
    obtain ⟨c9, hB9⟩ := hL
    rw [revL_len, Nat.sub_self, List.drop_zero, HRD.out] at c9
    clear hI HI0 hIx x8 hB8
    have hu := undosV_lt (l.drop (k + 4)) hx1
    obtain ⟨u, hud⟩ : ∃ u, u = undosV (want ^^^ allV) (l.drop (k + 4)) := ⟨_, rfl⟩
    rw [← hud] at c9 hu
    have HUD := Kp.mk hud
    clear hud
    have hs8a : w.heap.size + 2 ≤ W8.heap.size := by omega
    clear hs8 hrm hml HRL2 HRD HAR
    gi_wp2_with fail
    gi_loopw [34] (fun i wr => ∃ j : Nat, j ≤ 4 ∧ i = .int .i64 j ∧ Hid (Boxed wr w.heap.size 53 (.int .u32 (backN (8 * j) u : Nat))) ∧ Hid (Below w.heap.size w wr) ∧ Hid (wr.heap[W8.heap.size]? = some (.deferred (some [])))) (fun i _ => 4 - (intOf i).toNat)
    case atStart => exact ⟨0, by omega, rfl, Lib.hid c9, Lib.hid hB9, Lib.hid hD⟩
    case round =>
      obtain ⟨j, hj, rfl, hc, hB, hDD⟩ := hrel
      clear c9 hB9 hD
      by_cases hlt : j < 4
      · have hbl := backN_lt (k := 8 * j) hu
        have HST := Kp.mk (undo_zero j u)
        generalize backN (8 * j) u = x at *
        have HBK := Lib.hid (back_any w.heap.size 0 x 0 wr hbl (by omega) hc.out.cell hc.out.frozen)
        rw [← HST.out] at HBK
        generalize hy : backN (8 * (j + 1)) u = y at *
        have HY := Kp.mk hy
        clear hy HST
        gi_wp2_with fail
        refine ⟨trivial, fun _ => by omega, (callsIn_wide.2 HBK.out).mono ?_⟩
        rintro e w9 ⟨rfl, hP⟩
        have HC := Lib.hid (boxed_put hc.out hP)
        have HB := Lib.hid (hB.out.trans (hP.below (B := w.heap.size) (by omega)))
        have HD := Lib.hid ((hP.other W8.heap.size (by omega)).trans hDD.out)
        clear hP HBK
        gi_wp2_with fail
        go_roundw
        case rel => exact ⟨j + 1, by omega, by go_num, by rw [HY.out]; exact HC, HB, HD⟩
        case measure => simp [intOf]; omega
      · obtain rfl : j = 4 := by omega
        have hcc := patR_cell HUD.out hc.out.cell
        have hlt0 := hc.out.lt
        have hpr := patR_lt (k := k) (l := l) hw
        have hst := sliceX_to g o l.length d k (by omega) (k : Int) rfl
        have HVw := Lib.hid ((HV.out.below hB.out (Nat.le_refl _)).take (d' := d) k (by omega))
        have hEw := hE.below hB.out hb1
        have HCR := Lib.hid (fun (W : World) (h : W.heap = wr.heap) => crcAll_any (.slice (some ⟨g, o, none⟩) k d) (l.take k) W (hEw.heap h) (HVw.out.heap' h) (by rw [List.length_take]; unfold maxLen; omega))
        have HCL := Lib.hid (crcV_lt (l.take k))
        have hxx : bits .xor .u32 (patR l k want : Nat) ((crcV (l.take k) ^^^ allV : Nat) : Int) = (patX l k want : Nat) := xor32 _ _ hpr (xor_lt HCL.out allV_lt)
        have HRG := Lib.hid (fun W => registerOf_any (crcV (l.take k)) W HCL.out)
        generalize patR l k want = pr at *
        clear hu
        gi_wp2_with fail
        refine wpIn_mono (Q := PostN fun a' W' => a' = ({ tmps := #[.slice (some ⟨g, o, none⟩) l.length d, .int .i64 k, .int .u32 want, undef, undef, undef, .slice none 0 0, .int .i64 0, .pointer (some ⟨w.heap.size, 0, none⟩), undef, undef, .int .u32 (patX l k want : Nat), undef, undef, .int .i64 k, .bool false, .bool false, .int .i64 k, .slice (some ⟨g, o, none⟩) l.length d, .int .i64 l.length, .int .i64 ((l.length : Int) - 4), .bool false, .bool false, .int .u32 want, .int .u32 (want ^^^ allV : Nat), .slice (some ⟨g, o, none⟩) l.length d, .int .i64 k, .int .i64 ((k : Int) + 4), sv, .func (.func 52) #[] #[.pointer (some ⟨w.heap.size + 1, 0, none⟩)], undef, undef, undef, undef, .int .i64 (4 : Nat), .bool false, u36, u37, .int .u32 pr, .slice (some ⟨g, o, none⟩) l.length d, .int .i64 k, .slice (some ⟨g, o, none⟩) k d, .int .u32 (crcV (l.take k) : Nat), .int .u32 (crcV (l.take k) ^^^ allV : Nat), .int .u32 (patX l k want : Nat), undef, undef, undef, undef, undef, undef, undef, undef, undef, undef, undef, undef, undef, undef, undef, undef, undef], defers := [{ target := Target.collected W8.heap.size, args := #[] }] } : Act) ∧ Hid (Below w.heap.size w W') ∧ Hid (W'.heap[W8.heap.size]? = some (.deferred (some [])))) ?h1 ?h2
        case h1 =>
          gi_region_with (first | ((refine ⟨trivial, fun _ => by omega, (callsIn_wide.2 (HCR.out _ ?hh)).mono ?_⟩); (case hh => rfl); rintro e w9 ⟨rfl, hb9⟩; have hb9' : Below wr.heap.size wr w9 := ⟨hb9.os, hb9.tape, hb9.output, hb9.size, hb9.block⟩; have hc9 := (hb9'.cell (p := ⟨w.heap.size, 0, none⟩) hlt0).trans hcc; have HB9 := Lib.hid (hB.out.trans (hb9'.mono hB.out.size)); have HD9 := Lib.hid ((hb9'.block _ (bf_lt hDD.out)).trans hDD.out); clear hb9 hb9') | (refine ⟨trivial, fun _ => by omega, (callsIn_wide.2 (HRG.out _)).mono ?_⟩; rintro e w10 ⟨rfl, rfl⟩))
          all_goals exact ⟨rfl, HB9, HD9⟩
        case h2 =>
          intro e a' W' hpost
          cases e with
          | normal => ?_
          | _ => exact hpost.elim
          obtain ⟨rfl, hB5, hD5⟩ := hpost
          clear HCR HRG hcc hxx hst
          have HCLN := Lib.hid (clone_any ⟨g, o, none⟩ d l W' (HV.out.below hB5.out (Nat.le_refl _)) (by omega))
          have HX := Lib.hid (patX_lt l k want hw)
          have HPF := Kp.mk (pset_four l k want hk)
          generalize patX l k want = x at *
          gi_wp2_with fail
          refine ⟨trivial, fun _ => by omega, (callsIn_wide.2 HCLN.out).mono ?_⟩
          rintro e w6 ⟨g2, cap2, rfl, hown, hb6⟩
          have HB6 := Lib.hid (hB5.out.trans (hb6.mono hB5.out.size))
          have HD6 := Lib.hid ((hb6.block _ (bf_lt hD5.out)).trans hD5.out)
          have HOW := Lib.hid (show OwnBytes w6 W'.heap.size g2 cap2 (pset l k x 0) from hown)
          have hs6 := hB5.out.size
          have hd6 := bf_lt hD5.out
          clear hb6 hown HCLN
          gi_wp2_with fail
          gi_loopw [13, 47] (fun _ i wr => ∃ j : Nat, j ≤ 4 ∧ i = .int .i64 j ∧ Hid (OwnBytes wr W'.heap.size g2 cap2 (pset l k x j)) ∧ Hid (Below w.heap.size w wr) ∧ Hid (wr.heap[W8.heap.size]? = some (.deferred (some [])))) (fun _ i _ => 4 - (intOf i).toNat)
          case atStart => exact ⟨0, by omega, rfl, HOW, HB6, HD6⟩
          case round =>
            obtain ⟨j, hj, rfl, hown, hB7, hD7⟩ := hrel
            clear HOW HB6 HD6
            have hge := hown.out.ge
            have hpl := pset_len l k x j
            have HPL := Lib.hid hpl
            clear hpl
            by_cases hlt : j < 4
            · have hcl := hown.out.cell (k + j) (by rw [HPL.out]; omega)
              have hfz := hown.out.frozen (k + j)
              have hset := Lib.hid (hown.out.set (k + j) (byteK x j))
              have hwr := byteK_wrap x j
              have HB8 := Lib.hid (hB7.out.setCell (p := ⟨g2, k + j, none⟩) (by show w.heap.size ≤ g2; omega) (.int .u8 (byteK x j).toNat))
              have HD8 := Lib.hid (((Put.one g2 (k + j) (.int .u8 (byteK x j).toNat) wr).other W8.heap.size (by omega)).trans hD7.out)
              gi_wp2_with fail
              go_roundw
              case rel => exact ⟨j + 1, by omega, by go_num, hset, HB8, HD8⟩
              case measure => simp [intOf]; omega
            · obtain rfl : j = 4 := by omega
              have hop := hown.out
              rw [HPF.out] at hop
              have hvl := patV_len l k want hk
              have HOP := Lib.hid hop
              have HVL := Lib.hid hvl
              have hd7 := hD7.out
              clear hown hop hvl
              gi_wp2_with fail
              have hp : Kept (· = W8.heap.size) wr (wr.putObj W8.heap.size (.deferred none)) := Kept.putObj _ _ _ _ rfl
              refine ⟨by simp, .inl ⟨_, _, rfl, run_takeDeferred hd7, ?_⟩⟩
              have hfin : BytesAt (wr.putObj W8.heap.size (.deferred none)) (.slice (some ⟨g2, 0, none⟩) (patV l k want).length cap2) (patV l k want) := by
                rcases HOP.out.at_ with ⟨a, c, h1, h2⟩ | ⟨b, o', c, h1, h2, h3⟩
                · exact .inl ⟨a, c, h1, h2⟩
                · cases h1
                  exact .inr ⟨g2, 0, cap2, rfl, by simpa using h2, fun i hi => (World.cell?_of_block (w := wr) (a := ⟨g2, 0 + i, none⟩) (hp.block g2 h2 (fun e => by omega))).trans (h3 i hi)⟩
              rw [HVL.out] at hfin
              exact ⟨.tuple #[.slice (some ⟨g2, 0, none⟩) l.length cap2, .int .i64 0], by simp [results, Tryd.results22, go_sem], .slice (some ⟨g2, 0, none⟩) l.length cap2, rfl, ⟨_, _, by rw [HVL.out]⟩, hfin, below_kept hB7.out hp (Nat.le_refl _) (fun k (h : k = _) => by omega)⟩
end Go.Proofs.YtadaohjphgpdnaaDoor
