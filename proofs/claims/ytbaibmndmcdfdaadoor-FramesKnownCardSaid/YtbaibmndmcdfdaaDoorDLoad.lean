/- Load. -/
import Derived.Test.YtbaibmndmcdfdaaDoorDRangeB
import Derived.Deep.RegionHeld3
import Derived.Deep.DrawnRows
namespace Go.Proofs.YtbaibmndmcdfdaaDoor.D
open Go.RowKit Go.MapKept
attribute [local go_sem ↓] loadS_eq storeS_eq loadW_eq storeW_eq allocW_eq boxW_eq clearX_eq updX_eq appW_eq bslW_eq bldW_eq boxS_eq boxT_eq
attribute [local go_sem ↓] Go.wp_at_zero Go.wp_at_succ
set_option maxRecDepth 100000

/-- What the making of a device reads. -/
structure LS (b0 : Nat) (vs vc : Value) (D : Dv) (wb W : World) : Prop where
  c0 : W.cell? ⟨b0, 0, none⟩ = some vs
  c1 : W.cell? ⟨b0, 1, none⟩ = some vc
  c2 : W.cell? ⟨b0, 2, none⟩ = some (.int .i64 D.tk)
  c3 : W.cell? ⟨b0, 3, none⟩ = some (.int .i64 D.pw)
  c4 : W.cell? ⟨b0, 4, none⟩ = some (.bool D.off)
  lt : b0 < W.heap.size
  st : StateAt W vs vc D
  bel : Below wb.heap.size wb W
theorem LS.below {b0 n : Nat} {vs vc : Value} {D : Dv} {wb A B : World} (h : LS b0 vs vc D wb A) (hk : Below n A B) (hn : A.heap.size ≤ n) : LS b0 vs vc D wb B := by
  have hlt := h.lt
  exact ⟨(hk.cell (p := ⟨b0, 0, none⟩) (by show b0 < n; omega)).trans h.c0, (hk.cell (p := ⟨b0, 1, none⟩) (by show b0 < n; omega)).trans h.c1, (hk.cell (p := ⟨b0, 2, none⟩) (by show b0 < n; omega)).trans h.c2, (hk.cell (p := ⟨b0, 3, none⟩) (by show b0 < n; omega)).trans h.c3, (hk.cell (p := ⟨b0, 4, none⟩) (by show b0 < n; omega)).trans h.c4, Nat.lt_of_lt_of_le hlt hk.size, h.st.below hk hn, h.bel.trans (hk.mono (by have := h.bel.size; omega))⟩
theorem LS.drew {b0 : Nat} {vs vc : Value} {D : Dv} {wb A : World} (h : LS b0 vs vc D wb A) : LS b0 vs vc D wb A.drew := h.below ((Mem.drew A).below A.heap.size) (Nat.le_refl _)
theorem LS.alloc {b0 : Nat} {vs vc : Value} {D : Dv} {wb A : World} (h : LS b0 vs vc D wb A) (o : Obj) : LS b0 vs vc D wb (A.alloc o) := h.below ((Below.refl A.heap.size A).alloc (Nat.le_refl _) o) (Nat.le_refl _)
theorem LS.conj {b0 : Nat} {vs vc : Value} {D : Dv} {wb W : World} (h : LS b0 vs vc D wb W) : W.cell? ⟨b0, 0, none⟩ = some vs ∧ W.cell? ⟨b0, 2, none⟩ = some (.int .i64 D.tk) ∧ W.cell? ⟨b0, 3, none⟩ = some (.int .i64 D.pw) ∧ W.cell? ⟨b0, 4, none⟩ = some (.bool D.off) ∧ Hid (LS b0 vs vc D wb W) :=
  ⟨h.c0, h.c2, h.c3, h.c4, h⟩
theorem row_shape {w : World} {base : Nat} {e : TypeId} {sz n : Nat} {v : Value} {xs : List Value} (h : w.ownsRow base e sz v n xs) : ∃ a c, v = .slice a n c := by
  rcases h.2 with ⟨rfl, rfl⟩ | ⟨g, cap, cur, rfl, _⟩
  · exact ⟨_, _, rfl⟩
  · exact ⟨_, _, rfl⟩
theorem row_mono {w : World} {base base' : Nat} {e : TypeId} {sz n : Nat} {v : Value} {xs : List Value} (h : w.ownsRow base e sz v n xs) (hb : base' ≤ base) : w.ownsRow base' e sz v n xs := by
  refine ⟨h.1, ?_⟩
  rcases h.2 with hn | ⟨g, cap, cur, rfl, hg, rest⟩
  · exact .inl hn
  · exact .inr ⟨g, cap, cur, rfl, Nat.le_trans hb hg, rest⟩
/-- A device is born: its map and its sectors are there. -/
theorem born {W : World} {m : Nat} {vs : Value} {D : Dv} {base : Nat} (ok : D.ok) (ho : W.ownsRow base 27 128 vs D.st.length (secC D.st)) (hm : MapIs W m (fun _ => none)) :
    DevP (W.alloc (.cells #[.pointer (some ⟨W.heap.size, 0, none⟩), vs, .slice none 0 0, .map (some m), .int .i64 D.tk, .int .i64 D.pw, .bool D.off] 89 (0, 0))) W.heap.size m vs (.slice none 0 0) { D with ca := [] } :=
  ⟨heap_alloc_new _ _, row_mono (ho.alloc _) (Nat.zero_le _), World.ownsRow_nil _ _ _ _, hm.block (Below.heap_alloc _ _ _ hm.lt), ⟨ok.s0, ok.s1, Nat.zero_le _, fun w hw => (by cases hw), ok.t0, ok.t1, ok.p0, ok.p1⟩⟩
theorem take_snoc_w {l : List Wr} {k : Nat} (h : k < l.length) : l.take (k + 1) = l.take k ++ [l[k]] := List.take_succ_eq_append_getElem h
/-- A device in the making: what has been put into its cache, and that its blocks are new. -/
def Making (n : Nat) (b m : Nat) (vs : Value) (D : Dv) (k : Nat) (W : World) : Prop := ∃ vc, DevP W b m vs vc { D with ca := D.ca.take k } ∧ n ≤ b ∧ n ≤ m ∧ (∀ g, vs.ownBlock = some g → n ≤ g) ∧ ∀ g, vc.ownBlock = some g → n ≤ g
theorem Making.put {n b m k : Nat} {vs : Value} {D : Dv} {W W' : World} (hk : k < D.ca.length) {vc vc' : Value} (h3 : n ≤ b) (h4 : n ≤ m) (h5 : ∀ g, vs.ownBlock = some g → n ≤ g) (h6 : ∀ g, vc.ownBlock = some g → n ≤ g) (hn : n ≤ W.heap.size)
    (h : DevP W' b m vs vc' { D with ca := D.ca.take k ++ [D.ca[k]] }) (hg : ∀ g, vc'.ownBlock = some g → vc.ownBlock = some g ∨ W.heap.size ≤ g) : Making n b m vs D (k + 1) W' :=
  ⟨vc', by rw [take_snoc_w hk]; exact h, h3, h4, h5, fun g e => (hg g e).elim (h6 g) (fun h => Nat.le_trans hn h)⟩
theorem Making.done {n b m k : Nat} {vs : Value} {D : Dv} {w W : World} (h : Making n b m vs D k W) (hk : ¬ k < D.ca.length) (hn : w.heap.size ≤ n) : ∃ X, DevAt W b X D ∧ ∀ k, X k → w.heap.size ≤ k := by
  obtain ⟨vc, hp, h3, h4, h5, h6⟩ := h
  rw [take_all D.ca hk] at hp
  refine ⟨fun k => k = b ∨ k = m ∨ vs.ownBlock = some k ∨ vc.ownBlock = some k, ⟨⟨m, vs, vc, hp, .inl rfl, .inr (.inl rfl), fun g e => .inr (.inr (.inl e)), fun g e => .inr (.inr (.inr e))⟩, fun k e => ?_⟩, fun k e => ?_⟩
  · rcases e with rfl | rfl | e | e
    · exact hp.lt
    · exact hp.map.lt
    · exact (hp.sts.lt k e).2
    · exact (hp.cas.lt k e).2
  · rcases e with rfl | rfl | e | e
    · omega
    · omega
    · have := h5 k e; omega
    · have := h6 k e; omega
theorem zeroDev (w : World) : Sem.run Tryd.prog (zeroValue 89) w = .ok (.agg #[.pointer none, .slice none 0 0, .slice none 0 0, .map none, .int .i64 0, .int .i64 0, .bool false]) w := by kernel_rfl

set_option maxHeartbeats 2000000 in
theorem load_ok {w : World} {vs vc : Value} {D : Dv} (h : StateAt w vs vc D) (hs : D.st.length ≤ maxLen) (hc : D.ca.length ≤ maxLen) (ho : checkE D = 0) :
    Calls Tryd.prog 36 #[.agg #[vs, vc, .int .i64 D.tk, .int .i64 D.pw, .bool D.off]] w fun e w' => ∃ b X, e = .returned (.tuple #[.pointer (some ⟨b, 0, none⟩), .int .i64 0]) ∧ DevAt w' b X D ∧ Below w.heap.size w w' ∧ ∀ k, X k → w.heap.size ≤ k := by
  obtain ⟨⟨a, c, rfl⟩, ⟨a', c', rfl⟩⟩ := h.vals
  obtain ⟨w0, hw0⟩ : ∃ w0, w.alloc (.cells #[.slice a D.st.length c, .slice a' D.ca.length c', .int .i64 D.tk, .int .i64 D.pw, .bool D.off] 51 (0, 0)) = w0 := ⟨_, rfl⟩
  have hbx : (boxT (.agg #[.slice a D.st.length c, .slice a' D.ca.length c', .int .i64 D.tk, .int .i64 D.pw, .bool D.off])).run Tryd.prog w = .ok (.pointer (some ⟨w.heap.size, 0, none⟩)) w0 := by rw [← hw0]; exact run_boxT _ w
  have hB0 : Below w.heap.size w w0 := by rw [← hw0]; exact (Below.refl _ _).alloc (Nat.le_refl _) _
  have hblk : w0.heap[w.heap.size]? = some (.cells #[.slice a D.st.length c, .slice a' D.ca.length c', .int .i64 D.tk, .int .i64 D.pw, .bool D.off] 51 (0, 0)) := by rw [← hw0]; exact heap_alloc_new _ _
  have ok := checkE_ok.1 ho
  have hr : rangeB D = true := by
    have := checkE_range D
    cases hr : rangeB D with
    | true => rfl
    | false => rw [hr, ho] at this; cases this
  have hst := h.below hB0 (Nat.le_refl _)
  obtain ⟨k0, k1, k2, k3, k4⟩ := block_five hblk
  have hgt : w.heap.size < w0.heap.size := (Array.getElem?_eq_some_iff.1 hblk).1
  have HR := Lib.hid (isInRange_any hst hs hc)
  rw [hr] at HR
  have hls0 : LS w.heap.size (.slice a D.st.length c) (.slice a' D.ca.length c') D w0 w0 := ⟨k0, k1, k2, k3, k4, hgt, hst, Below.refl _ _⟩
  have HLS0 := Lib.hid hls0
  have HB0 := Lib.hid hB0
  have hca : ((D.ca.length : Int)) ≤ 400 := by have := ok.ca; omega
  have HOK := Lib.hid ok
  have HH := Lib.hid h
  have haw := run_allocW
  have hsw := run_storeW_new
  have hz := zeroDev
  have hmm := @run_makeMap Tryd.prog
  clear hw0 hB0 hblk h hst hls0 hr ho ok hs hc
  go_enter Tryd.func36, Tryd.ntmps36
  go_wp2_with fail
  refine HR.out.mono ?_
  rintro e w1 ⟨rfl, hb1⟩
  have hl1 := HLS0.out.below hb1 (Nat.le_refl _)
  have m0 := hl1.c0
  have m1 := hl1.c1
  have HL1 := Lib.hid hl1
  have HB1 := Lib.hid (HB0.out.trans (hb1.mono (Nat.le_of_lt hgt)))
  clear hb1 hl1 k0 k1 k2 k3 k4
  go_wp2_with fail
  clear m0 m1
  have HSA := Lib.hid (fun (W : World) (o : Obj) (h : (W.cell? ⟨w.heap.size, 0, none⟩ = some (.slice a D.st.length c) ∧ W.cell? ⟨w.heap.size, 2, none⟩ = some (.int .i64 D.tk) ∧ W.cell? ⟨w.heap.size, 3, none⟩ = some (.int .i64 D.pw) ∧ W.cell? ⟨w.heap.size, 4, none⟩ = some (.bool D.off) ∧ Hid (LS w.heap.size (.slice a D.st.length c) (.slice a' D.ca.length c') D w0 W))) => (h.2.2.2.2.out.alloc o).conj)
  have HSD := Lib.hid (fun (W : World) (h : (W.cell? ⟨w.heap.size, 0, none⟩ = some (.slice a D.st.length c) ∧ W.cell? ⟨w.heap.size, 2, none⟩ = some (.int .i64 D.tk) ∧ W.cell? ⟨w.heap.size, 3, none⟩ = some (.int .i64 D.pw) ∧ W.cell? ⟨w.heap.size, 4, none⟩ = some (.bool D.off) ∧ Hid (LS w.heap.size (.slice a D.st.length c) (.slice a' D.ca.length c') D w0 W))) => h.2.2.2.2.out.drew.conj)
  have HCL := Lib.hid (fun (W : World) (h : (W.cell? ⟨w.heap.size, 0, none⟩ = some (.slice a D.st.length c) ∧ W.cell? ⟨w.heap.size, 2, none⟩ = some (.int .i64 D.tk) ∧ W.cell? ⟨w.heap.size, 3, none⟩ = some (.int .i64 D.pw) ∧ W.cell? ⟨w.heap.size, 4, none⟩ = some (.bool D.off) ∧ Hid (LS w.heap.size (.slice a D.st.length c) (.slice a' D.ca.length c') D w0 W))) => cloneS_any (w := W) h.2.2.2.2.out.st.st (by have := HOK.out.s1; omega))
  have HSC := Lib.hid (fun (W W' : World) (h : (W.cell? ⟨w.heap.size, 0, none⟩ = some (.slice a D.st.length c) ∧ W.cell? ⟨w.heap.size, 2, none⟩ = some (.int .i64 D.tk) ∧ W.cell? ⟨w.heap.size, 3, none⟩ = some (.int .i64 D.pw) ∧ W.cell? ⟨w.heap.size, 4, none⟩ = some (.bool D.off) ∧ Hid (LS w.heap.size (.slice a D.st.length c) (.slice a' D.ca.length c') D w0 W))) (hb : Below W.heap.size W W') => (h.2.2.2.2.out.below hb (Nat.le_refl _)).conj)
  have HL2 := Lib.hid HL1.out.conj
  go_region_held3 (fun W => (W.cell? ⟨w.heap.size, 0, none⟩ = some (.slice a D.st.length c) ∧ W.cell? ⟨w.heap.size, 2, none⟩ = some (.int .i64 D.tk) ∧ W.cell? ⟨w.heap.size, 3, none⟩ = some (.int .i64 D.pw) ∧ W.cell? ⟨w.heap.size, 4, none⟩ = some (.bool D.off) ∧ Hid (LS w.heap.size (.slice a D.st.length c) (.slice a' D.ca.length c') D w0 W))) (first | assumption | exact HL2.out | exact HSD.out _ (by assumption) | exact HSD.out _ HL2.out | exact HSA.out _ _ (by assumption) | exact HSA.out _ _ (HSD.out _ HL2.out) | exact HSA.out _ _ (HSA.out _ _ (by assumption))) ((first | (go_at_call 43; (with_reducible refine (HCL.out _ ?hs).mono ?_); (case hs => first | assumption | exact HSD.out _ HL2.out | exact HSA.out _ _ (HSD.out _ HL2.out)); rintro e wz ⟨v', rfl, hoz, hbz⟩; obtain ⟨va, vp, rfl⟩ := row_shape hoz; have hSz := HSC.out _ _ (by first | assumption | exact HSD.out _ HL2.out | exact HSA.out _ _ (HSD.out _ HL2.out)) hbz; have HSZ := Lib.hid hSz.2.2.2.2.out; have HOz := Lib.hid hoz; clear hoz) | fail))
  · clear HL2
    have hbw : Below w.heap.size w (wz.alloc (.map #[] 0)) := (HB1.out.trans ((Mem.drew w1).below _)).trans (hbz.mono (by have := HB1.out.size; exact this)) |>.alloc (Nat.le_trans HB1.out.size hbz.size) _
    have hbn : Below w.heap.size w ((wz.alloc (.map #[] 0)).alloc (.cells #[.pointer (some ⟨wz.heap.size + 1, 0, none⟩), .slice va D.st.length vp, .slice none 0 0, .map (some wz.heap.size), .int .i64 D.tk, .int .i64 D.pw, .bool D.off] 89 (0, 0))) := hbw.alloc hbw.size _
    have hdp := born (W := (wz.alloc (.map #[] 0))) (m := wz.heap.size) HOK.out (HOz.out.alloc _) (mapIs_new wz)
    rw [World.size_alloc] at hdp
    have hsz : w.heap.size ≤ w1.heap.size := HB1.out.size
    have hz1 : w1.heap.size ≤ wz.heap.size := hbz.size
    have HMK : Hid (Making w.heap.size (wz.heap.size + 1) (wz.heap.size) (.slice va D.st.length vp) D 0 ((wz.alloc (.map #[] 0)).alloc (.cells #[.pointer (some ⟨wz.heap.size + 1, 0, none⟩), .slice va D.st.length vp, .slice none 0 0, .map (some wz.heap.size), .int .i64 D.tk, .int .i64 D.pw, .bool D.off] 89 (0, 0)))) := Lib.hid ⟨_, by simpa using hdp, by omega, by omega, fun g e => Nat.le_trans (Nat.le_trans hsz (show w1.heap.size ≤ w1.drew.heap.size from Nat.le_refl _)) (HOz.out.lt g e).1, fun g e => by cases e⟩
    have hc1 : ((wz.alloc (.map #[] 0)).alloc (.cells #[.pointer (some ⟨wz.heap.size + 1, 0, none⟩), .slice va D.st.length vp, .slice none 0 0, .map (some wz.heap.size), .int .i64 D.tk, .int .i64 D.pw, .bool D.off] 89 (0, 0))).cell? ⟨w.heap.size, 1, none⟩ = some (.slice a' D.ca.length c') := (((HSZ.out.alloc (.map #[] 0)).alloc _).c1)
    have HBN := Lib.hid hbn
    clear hdp hbn hbw hbz hSz
    go_wp2
    clear hc1
    go_loopw [33] (fun i wr => ∃ k : Nat, k ≤ D.ca.length ∧ i = .int .i64 k ∧ Hid (Making w.heap.size (wz.heap.size + 1) (wz.heap.size) (.slice va D.st.length vp) D k wr) ∧ Hid (Below w.heap.size w wr)) (fun i _ => D.ca.length - (intOf i).toNat)
    case atStart => exact ⟨0, Nat.zero_le _, rfl, HMK, HBN⟩
    case round =>
      obtain ⟨k, hk, rfl, HM, HB⟩ := hrel
      by_cases hlt : k < D.ca.length
      · obtain ⟨g, o, rfl⟩ := elems_some HH.out.ca (by rw [List.length_map]; omega)
        have hld := run_loadW_elem (HH.out.ca.below HB.out (Nat.le_refl _)) k hlt
        have hnew := run_loadW_block (heap_alloc_new wr (.cells D.ca[k].A 95 (0, 0)))
        obtain ⟨vc, hp, h3, h4, h5, h6⟩ := HM.out
        have hA := (Below.refl wr.heap.size wr).alloc (Nat.le_refl _) (.cells D.ca[k].A 95 (0, 0))
        have HC := Lib.hid (put_any (hp.below hA (Nat.le_refl _)) D.ca[k] (by have := HOK.out.ats D.ca[k] (List.getElem_mem hlt); exact inS_mk this.1 this.2) (by show (D.ca.take k).length < 400; rw [List.length_take]; have := HOK.out.ca; omega))
        have HB2 := Lib.hid (HB.out.alloc HB.out.size (.cells D.ca[k].A 95 (0, 0)))
        have H3 := Lib.hid h3
        have H4 := Lib.hid h4
        have H5 := Lib.hid h5
        have H6 := Lib.hid h6
        have hkl : (k : Int) < (D.ca.length : Int) := by omega
        clear hp h3 h4 h5 h6 hA
        go_wp2_with fail
        refine HC.out.mono ?_
        rintro e w2 ⟨rfl, vc', hp2, hk2, hg2⟩
        have HM2 := Lib.hid (Making.put hlt H3.out H4.out H5.out H6.out HB2.out.size hp2 hg2)
        have HB3 := Lib.hid (HB2.out.trans (hk2.toBelow HB2.out.size (fun k e => by
          rcases e with e | e | e
          · rw [e]; exact H3.out
          · rw [e]; exact H4.out
          · exact H6.out k e)))
        clear hp2 hk2 hg2
        go_wp2_with fail
        go_roundw
        case rel => exact ⟨k + 1, by omega, by go_num, HM2, HB3⟩
        case measure => simp [intOf]; omega
      · obtain ⟨X, hX, hX2⟩ := HM.out.done (w := w) hlt (Nat.le_refl _)
        have HX := Lib.hid hX
        have HX2 := Lib.hid hX2
        have d1 : decide ((k : Int) < D.ca.length) = false := by simp; omega
        clear hX hX2
        go_wp2
        go_ret2
        exact ⟨_, X, rfl, HX.out, HB.out, HX2.out⟩
  · clear HL2
    have hbw : Below w.heap.size w wz := ((HB1.out.trans ((Mem.drew w1).below _)).alloc (by have := HB1.out.size; exact this) _).trans (hbz.mono (by have := HB1.out.size; simp [World.drew]; omega))
    have hbn : Below w.heap.size w (wz.alloc (.cells #[.pointer (some ⟨wz.heap.size, 0, none⟩), .slice va D.st.length vp, .slice none 0 0, .map (some w1.heap.size), .int .i64 D.tk, .int .i64 D.pw, .bool D.off] 89 (0, 0))) := hbw.alloc hbw.size _
    have hdp := born (W := wz) (m := w1.heap.size) HOK.out (HOz.out) (MapIs.block (mapIs_new _) (hbz.block _ (by simp [World.drew])))
    skip
    have hsz : w.heap.size ≤ w1.heap.size := HB1.out.size
    have hz1 : w1.heap.size ≤ wz.heap.size := by have h : (w1.alloc (.map #[] 0)).heap.size ≤ wz.heap.size := hbz.size; rw [World.size_alloc] at h; omega
    have HMK : Hid (Making w.heap.size (wz.heap.size) (w1.heap.size) (.slice va D.st.length vp) D 0 (wz.alloc (.cells #[.pointer (some ⟨wz.heap.size, 0, none⟩), .slice va D.st.length vp, .slice none 0 0, .map (some w1.heap.size), .int .i64 D.tk, .int .i64 D.pw, .bool D.off] 89 (0, 0)))) := Lib.hid ⟨_, by simpa using hdp, by omega, by omega, fun g e => Nat.le_trans (Nat.le_trans hsz (show w1.heap.size ≤ (w1.alloc (.map #[] 0)).heap.size by simp)) (HOz.out.lt g e).1, fun g e => by cases e⟩
    have hc1 : (wz.alloc (.cells #[.pointer (some ⟨wz.heap.size, 0, none⟩), .slice va D.st.length vp, .slice none 0 0, .map (some w1.heap.size), .int .i64 D.tk, .int .i64 D.pw, .bool D.off] 89 (0, 0))).cell? ⟨w.heap.size, 1, none⟩ = some (.slice a' D.ca.length c') := ((HSZ.out.alloc _).c1)
    have HBN := Lib.hid hbn
    clear hdp hbn hbw hbz hSz
    go_wp2
    clear hc1
    go_loopw [33] (fun i wr => ∃ k : Nat, k ≤ D.ca.length ∧ i = .int .i64 k ∧ Hid (Making w.heap.size (wz.heap.size) (w1.heap.size) (.slice va D.st.length vp) D k wr) ∧ Hid (Below w.heap.size w wr)) (fun i _ => D.ca.length - (intOf i).toNat)
    case atStart => exact ⟨0, Nat.zero_le _, rfl, HMK, HBN⟩
    case round =>
      obtain ⟨k, hk, rfl, HM, HB⟩ := hrel
      by_cases hlt : k < D.ca.length
      · obtain ⟨g, o, rfl⟩ := elems_some HH.out.ca (by rw [List.length_map]; omega)
        have hld := run_loadW_elem (HH.out.ca.below HB.out (Nat.le_refl _)) k hlt
        have hnew := run_loadW_block (heap_alloc_new wr (.cells D.ca[k].A 95 (0, 0)))
        obtain ⟨vc, hp, h3, h4, h5, h6⟩ := HM.out
        have hA := (Below.refl wr.heap.size wr).alloc (Nat.le_refl _) (.cells D.ca[k].A 95 (0, 0))
        have HC := Lib.hid (put_any (hp.below hA (Nat.le_refl _)) D.ca[k] (by have := HOK.out.ats D.ca[k] (List.getElem_mem hlt); exact inS_mk this.1 this.2) (by show (D.ca.take k).length < 400; rw [List.length_take]; have := HOK.out.ca; omega))
        have HB2 := Lib.hid (HB.out.alloc HB.out.size (.cells D.ca[k].A 95 (0, 0)))
        have H3 := Lib.hid h3
        have H4 := Lib.hid h4
        have H5 := Lib.hid h5
        have H6 := Lib.hid h6
        have hkl : (k : Int) < (D.ca.length : Int) := by omega
        clear hp h3 h4 h5 h6 hA
        go_wp2_with fail
        refine HC.out.mono ?_
        rintro e w2 ⟨rfl, vc', hp2, hk2, hg2⟩
        have HM2 := Lib.hid (Making.put hlt H3.out H4.out H5.out H6.out HB2.out.size hp2 hg2)
        have HB3 := Lib.hid (HB2.out.trans (hk2.toBelow HB2.out.size (fun k e => by
          rcases e with e | e | e
          · rw [e]; exact H3.out
          · rw [e]; exact H4.out
          · exact H6.out k e)))
        clear hp2 hk2 hg2
        go_wp2_with fail
        go_roundw
        case rel => exact ⟨k + 1, by omega, by go_num, HM2, HB3⟩
        case measure => simp [intOf]; omega
      · obtain ⟨X, hX, hX2⟩ := HM.out.done (w := w) hlt (Nat.le_refl _)
        have HX := Lib.hid hX
        have HX2 := Lib.hid hX2
        have d1 : decide ((k : Int) < D.ca.length) = false := by simp; omega
        clear hX hX2
        go_wp2
        go_ret2
        exact ⟨_, X, rfl, HX.out, HB.out, HX2.out⟩
end Go.Proofs.YtbaibmndmcdfdaaDoor.D
