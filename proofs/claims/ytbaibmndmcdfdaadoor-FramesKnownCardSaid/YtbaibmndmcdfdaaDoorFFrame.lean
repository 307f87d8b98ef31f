/- Frames in memory; frameOf. -/
import Derived.Test.YtbaibmndmcdfdaaDoorFRef
namespace Go.Proofs.YtbaibmndmcdfdaaDoor.F
open Go.RowKit
open D (Sec Kept loadS storeS allocS loadS_eq storeS_eq allocS_eq neqS neqS_eq eqlS eqlS_eq)
set_option maxRecDepth 100000

def frA (f : Fr) : Array Value := #[.int .i64 f.kind, .int .u32 f.seq, .string f.data]
theorem szFr : (Tryd.prog.info? 24).map (·.size) = some 3 := by kernel_rfl
theorem infoFr : (Tryd.prog.info? 24).map (fun i => (i.zero, i.size)) = some (some (.agg (frA Fr.zero)), 3) := by kernel_rfl
def FAt (W : World) (z : Nat) (f : Fr) : Prop := W.heap[z]? = some (.cells (frA f) 24 (0, 0))
theorem FAt.lt {W : World} {z : Nat} {f : Fr} (h : FAt W z f) : z < W.heap.size := (Array.getElem?_eq_some_iff.1 h).1
theorem FAt.cell {W : World} {z : Nat} {f : Fr} (h : FAt W z f) (i : Nat) (v : Value) (hv : (frA f)[i]? = some v) : W.cell? ⟨z, i, none⟩ = some v := by
  unfold World.cell?
  rw [show W.heap[z]? = _ from h]; simpa using hv
theorem FAt.below {A B : World} {z n : Nat} {f : Fr} (h : FAt A z f) (hb : Below n A B) (hn : z < n) : FAt B z f := (hb.block z hn).trans h
theorem FAt.kept {X : Nat → Prop} {A B : World} {z : Nat} {f : Fr} (h : FAt A z f) (hk : Kept X A B) (hx : ¬ X z) : FAt B z f := (hk.block z h.lt hx).trans h
noncomputable def allocF : Sem Value := Instr.alloc 24 true (.tuple #[])
theorem allocF_eq : Instr.alloc 24 true (.tuple #[]) = allocF := rfl
noncomputable def storeF (x v : Value) : Sem Unit := Instr.storeAt 24 x v
theorem storeF_eq (x v : Value) : Instr.storeAt 24 x v = storeF x v := rfl
noncomputable def loadF (x : Value) : Sem Value := Instr.loadAt 24 x
theorem loadF_eq (x : Value) : Instr.loadAt 24 x = loadF x := rfl
noncomputable def buildZ : Sem Value := Instr.build 24 #[]
theorem buildZ_eq : Instr.build 24 #[] = buildZ := rfl
theorem run_buildZ (w : World) : buildZ.run Tryd.prog w = .ok (.agg (frA Fr.zero)) w := by
  unfold buildZ; kernel_rfl
theorem run_allocF (w : World) : allocF.run Tryd.prog w = .ok (.pointer (some ⟨w.heap.size, 0, none⟩)) (w.alloc (.cells (frA Fr.zero) 24 (0, 0))) := by
  cases hi : Tryd.prog.info? 24 with
  | none => have := infoFr; rw [hi] at this; simp at this
  | some i =>
    have h := infoFr
    rw [hi] at h
    simp only [Option.map_some, Option.some.injEq, Prod.mk.injEq] at h
    simp [allocF, Instr.alloc, zeroValue, typeInfo, hi, h.1, newVar, newRow, Value.cells]
theorem aggFr (w : World) : (isAgg 24).run Tryd.prog w = .ok true w := by
  unfold isAgg; rw [Sem.run_bind, run_underlying Tryd.underlying24 w]; simp
theorem run_storeF {w : World} {z : Nat} {f : Fr} (hg : FAt w z f) (k : Int) (q : Nat) (d : ByteArray) :
    (storeF (.pointer (some ⟨z, 0, none⟩)) (.agg #[.int .i64 k, .int .u32 q, .string d])).run Tryd.prog w = .ok () (w.setRow z (frA ⟨k, q, d⟩)) := by
  have h := D.store_at (T := 24) (w := w) szFr (g := z) (o := 0) (cs := (frA ⟨k, q, d⟩).toList) rfl hg (by show 0 + 3 ≤ 3; omega) (by
    intro v hv
    simp only [frA, List.mem_cons, List.not_mem_nil, or_false] at hv
    rcases hv with rfl | rfl | rfl <;> rfl)
  exact h
theorem run_storeZ {w : World} {z : Nat} {f : Fr} (hg : FAt w z f) :
    (storeF (.pointer (some ⟨z, 0, none⟩)) (.agg #[.int .i64 0, .int .u32 0, .string ⟨#[]⟩])).run Tryd.prog w = .ok () (w.setRow z (frA Fr.zero)) := run_storeF hg 0 0 ⟨#[]⟩
theorem run_storeFr {w : World} {z : Nat} {f : Fr} (hg : FAt w z f) (g : Fr) : (storeF (.pointer (some ⟨z, 0, none⟩)) (.agg (frA g))).run Tryd.prog w = .ok () (w.setRow z (frA g)) := run_storeF hg g.kind g.seq g.data
theorem FAt.row {w : World} {z : Nat} {f : Fr} (hg : FAt w z f) (g : Fr) : FAt (w.setRow z (frA g)) z g := setRow_heap _ _ _ _ _ _ hg
theorem run_loadF {w : World} {z : Nat} {f : Fr} (hg : FAt w z f) : (loadF (.pointer (some ⟨z, 0, none⟩))).run Tryd.prog w = .ok (.agg (frA f)) w :=
  D.load_at (cs := (frA f).toList) (aggFr w) szFr rfl (fun j u hj => by rw [Nat.zero_add]; exact hg.cell j u (by simpa using hj))
theorem bodyRet_fr2 {fn : Func} {p q : Tmp} (h : fn.results = #[.cell p 24, .tmp q]) {tmps : Array Value} {w : World} {g : Nat} {f : Fr} {v : Value} (hp : tmps.getD p undef = .pointer (some ⟨g, 0, none⟩)) (hq : tmps.getD q undef = v) (hg : FAt w g f) :
    (results fn tmps).run Tryd.prog w = .ok (.tuple #[.agg (frA f), v]) w := by
  have hl : (loadVar 24 ⟨g, 0, none⟩).run Tryd.prog w = .ok (.agg (frA f)) w := run_loadVar_row (P := Tryd.prog) w g 24 24 (frA f) (0, 0) _ hg Tryd.underlying24 rfl (by rw [szFr]; rfl)
  subst hq
  have hp' : tmps[p]?.getD undef = .pointer (some ⟨g, 0, none⟩) := by simpa using hp
  simp [results, h, hp', asAddr, hl]
theorem bodyRet_fr3 {fn : Func} {p q r : Tmp} (h : fn.results = #[.cell p 24, .tmp q, .tmp r]) {tmps : Array Value} {w : World} {g : Nat} {f : Fr} {v u : Value} (hp : tmps.getD p undef = .pointer (some ⟨g, 0, none⟩)) (hq : tmps.getD q undef = v) (hr : tmps.getD r undef = u) (hg : FAt w g f) :
    (results fn tmps).run Tryd.prog w = .ok (.tuple #[.agg (frA f), v, u]) w := by
  have hl : (loadVar 24 ⟨g, 0, none⟩).run Tryd.prog w = .ok (.agg (frA f)) w := run_loadVar_row (P := Tryd.prog) w g 24 24 (frA f) (0, 0) _ hg Tryd.underlying24 rfl (by rw [szFr]; rfl)
  subst hq; subst hr
  have hp' : tmps[p]?.getD undef = .pointer (some ⟨g, 0, none⟩) := by simpa using hp
  simp [results, h, hp', asAddr, hl]
/-- A part of a sector as a string. -/
noncomputable def convB (v : Value) : Sem Value := convert 65 9 v
theorem convB_eq (v : Value) : convert 65 9 v = convB v := rfl
theorem run_convB {W : World} {b : Nat} {l : List UInt8} (h : BAt W b l) (o n c : Nat) (hn : o + n ≤ l.length) : (convB (.slice (some ⟨b, o, none⟩) n c)).run Tryd.prog W = .ok (.string ⟨((l.drop o).take n).toArray⟩) W := by
  have hl : ((l.drop o).take n).length = n := by simp; omega
  have := run_convert_bytes_back (P := Tryd.prog) W 65 9 5 ⟨b, o, none⟩ c ((l.drop o).take n) Tryd.underlying65 Tryd.underlying5 Tryd.underlying9 (fun j hj => by
    rw [addr_add, h.cell (o + j) (by omega)]; simp)
  rw [hl] at this
  exact this
attribute [local go_sem ↓] loadS_eq storeS_eq allocS_eq boxS_eq allocN_eq storeN_eq allocF_eq storeF_eq loadF_eq buildZ_eq convB_eq neqS_eq eqlS_eq

theorem rd_one (l : List UInt8) (o : Nat) (h : o < l.length) : rd l o 1 = byteAt l o := by
  have := rd_succ l o 0 h
  rw [this]
  unfold rd byteAt
  simp [numL, h]
/-- The state of frameOf: b the sector, z the frame, g the numbers. -/
structure FS (w : World) (b z g p0 p1 p2 p3 p4 p5 : Nat) (l : List UInt8) (f : Fr) (W : World) : Prop where
  at_ : BAt W b l
  fr : FAt W z f
  nums : NumsAt W b p0 p1 p2 p3 p4 p5
  blk : NB W g p0 p1 p2 p3 p4 p5
  below : Below w.heap.size w W
  wz : w.heap.size ≤ z
theorem FS.more {w : World} {b z g p0 p1 p2 p3 p4 p5 : Nat} {l : List UInt8} {f : Fr} {W W' : World} (h : FS w b z g p0 p1 p2 p3 p4 p5 l f W) (k : Below W.heap.size W W') : FS w b z g p0 p1 p2 p3 p4 p5 l f W' :=
  ⟨h.at_.below k h.at_.lt, h.fr.below k h.fr.lt, h.nums.below k (Nat.le_refl _), (k.block g (Array.getElem?_eq_some_iff.1 h.blk).1).trans h.blk, h.below.trans (k.mono h.below.size), h.wz⟩
theorem FS.drew {w : World} {b z g p0 p1 p2 p3 p4 p5 : Nat} {l : List UInt8} {f : Fr} {W : World} (h : FS w b z g p0 p1 p2 p3 p4 p5 l f W) : FS w b z g p0 p1 p2 p3 p4 p5 l f W.drew := h.more (Below.refl _ _).drew
theorem FAt.ne_b {W : World} {b z : Nat} {l : List UInt8} {f : Fr} (h : FAt W z f) (hb : BAt W b l) : b ≠ z := by
  rintro rfl
  have h1 : W.heap[b]? = _ := h
  have h2 : W.heap[b]? = _ := hb
  rw [h1] at h2
  injection h2 with h2
  injection h2 with h2 h3 h4
  exact absurd h3 (by decide)
theorem FAt.ne_s {W : World} {p z : Nat} {v : Value} {f : Fr} (h : FAt W z f) (hb : SlAt W p v) : p ≠ z := by
  rintro rfl
  have h1 : W.heap[p]? = _ := h
  have h2 : W.heap[p]? = _ := hb
  rw [h1] at h2
  injection h2 with h2
  injection h2 with h2 h3 h4
  exact absurd h3 (by decide)
theorem FAt.ne_n {W : World} {g z p0 p1 p2 p3 p4 p5 : Nat} {f : Fr} (h : FAt W z f) (hb : NB W g p0 p1 p2 p3 p4 p5) : g ≠ z := by
  rintro rfl
  have h1 : W.heap[g]? = _ := h
  have h2 : W.heap[g]? = _ := hb
  rw [h1] at h2
  injection h2 with h2
  injection h2 with h2 h3 h4
  exact absurd h3 (by decide)
theorem FS.row {w : World} {b z g p0 p1 p2 p3 p4 p5 : Nat} {l : List UInt8} {f : Fr} {W : World} (h : FS w b z g p0 p1 p2 p3 p4 p5 l f W) (f' : Fr) : FS w b z g p0 p1 p2 p3 p4 p5 l f' (W.setRow z (frA f')) := by
  have k := Kept.setRow (X := fun k => k = z) (Kept.refl _ W) z rfl (frA f')
  exact ⟨h.at_.kept k (h.fr.ne_b h.at_), h.fr.row f', ⟨h.nums.s0.kept k (h.fr.ne_s h.nums.s0), h.nums.s1.kept k (h.fr.ne_s h.nums.s1), h.nums.s2.kept k (h.fr.ne_s h.nums.s2), h.nums.s3.kept k (h.fr.ne_s h.nums.s3), h.nums.s4.kept k (h.fr.ne_s h.nums.s4), h.nums.s5.kept k (h.fr.ne_s h.nums.s5)⟩,
    (k.block g (Array.getElem?_eq_some_iff.1 h.blk).1 (h.fr.ne_n h.blk)).trans h.blk, h.below.trans (k.toBelow h.below.size (fun k e => by have := h.wz; omega)), h.wz⟩
theorem FS.rd1 {w : World} {b z g p0 p1 p2 p3 p4 p5 : Nat} {l : List UInt8} {f : Fr} {W : World} (h : FS w b z g p0 p1 p2 p3 p4 p5 l f W) {p o m : Nat} (hp : SlAt W p (.slice (some ⟨b, o, none⟩) m m)) (hm : m ≤ 4) (ho : o + m ≤ l.length) {n : Nat} (hn : rd l o m = n) :
    Calls Tryd.prog 56 #[.pointer (some ⟨p, 0, none⟩)] W fun e w' => e = .returned (.int .u32 (n : Nat)) ∧ W = w' := by
  subst hn
  exact read_any b o m m l p W hm h.at_ ho hp
/-- What frameOf leaves. -/
def foE (s : Sec) : Int := if formOK s then 0 else 6
def foF (s : Sec) : Fr := if formOK s then frOf s.l else Fr.zero
def foP (s : Sec) : Int := if formOK s then (rd s.l 120 4 : Nat) else 0
def FoP (s : Sec) (w : World) (e : Ending) (w' : World) : Prop := e = .returned (.tuple #[.agg (frA (foF s)), .int .i64 (foP s), .int .i64 (foE s)]) ∧ Below w.heap.size w w'
theorem fo_no {s : Sec} (h : ¬ formOK s) : foE s = 6 ∧ foF s = Fr.zero ∧ foP s = 0 := by unfold foE foF foP; rw [if_neg h, if_neg h, if_neg h]; exact ⟨rfl, rfl, rfl⟩
theorem fo_ok {s : Sec} (h : formOK s) : foE s = 0 ∧ foF s = frOf s.l ∧ foP s = (rd s.l 120 4 : Nat) := by unfold foE foF foP; rw [if_pos h, if_pos h, if_pos h]; exact ⟨rfl, rfl, rfl⟩

theorem byteAt_lt (l : List UInt8) (i : Nat) : byteAt l i < 256 := by unfold byteAt; exact UInt8.toNat_lt _
def cvOp : Op := Op.convert 65 9 (Operand.tmp 27)
set_option maxHeartbeats 2000000 in
theorem frameOf_any (s : Sec) (w : World) (hE : Env w) (hw : 1 ≤ w.heap.size) :
    Calls Tryd.prog 33 #[.agg s.A] w (FoP s w) := by
  obtain ⟨w1, hw1⟩ : ∃ w1, w.alloc (.cells s.A 27 (0, 0)) = w1 := ⟨_, rfl⟩
  obtain ⟨w2, hw2⟩ : ∃ w2, w1.alloc (.cells (frA Fr.zero) 24 (0, 0)) = w2 := ⟨_, rfl⟩
  have hbx : (boxS (.agg s.A)).run Tryd.prog w = .ok (.pointer (some ⟨w.heap.size, 0, none⟩)) w1 := by rw [← hw1]; exact run_boxS s w
  have haf : allocF.run Tryd.prog w1 = .ok (.pointer (some ⟨w1.heap.size, 0, none⟩)) w2 := by rw [← hw2]; exact run_allocF w1
  have hb1 : Below w.heap.size w w1 := by rw [← hw1]; exact (Below.refl _ _).alloc (Nat.le_refl _) _
  have hb2 : Below w1.heap.size w1 w2 := by rw [← hw2]; exact (Below.refl _ _).alloc (Nat.le_refl _) _
  have hB1 : BAt w1 w.heap.size s.l := by rw [← hw1]; exact BAt.new w s
  have HB2 := Lib.hid (hB1.below hb2 hB1.lt)
  have HF2 : Hid (FAt w2 w1.heap.size Fr.zero) := Lib.hid (by unfold FAt; rw [← hw2]; exact heap_alloc_new w1 _)
  have HBL := Lib.hid (hb1.trans (hb2.mono hb1.size))
  have HSZ := Lib.hid hb1.size
  have HN := Lib.hid (numbersOf_any w.heap.size w2)
  have HAN := Lib.hid run_allocN
  have HSN := Lib.hid run_storeN_new
  have HLEN := Lib.hid s.len
  clear hw1 hw2 hb1 hb2 hB1
  go_enter Tryd.func33, Tryd.ntmps33
  go_wp2_with fail
  refine HN.out.mono ?_
  rintro e w3 ⟨p0, p1, p2, p3, p4, p5, rfl, hn, hb3⟩
  have han := HAN.out w3
  have hsn := HSN.out w3 p0 p1 p2 p3 p4 p5
  obtain ⟨w4, hw4⟩ : ∃ w4, w3.alloc (.cells (numsA p0 p1 p2 p3 p4 p5) 72 (0, 0)) = w4 := ⟨_, rfl⟩
  have hb4 : Below w3.heap.size w3 w4 := by rw [← hw4]; exact (Below.refl _ _).alloc (Nat.le_refl _) _
  rw [hw4] at hsn
  have HS4 : Hid (FS w w.heap.size w1.heap.size w3.heap.size p0 p1 p2 p3 p4 p5 s.l Fr.zero w4) := Lib.hid
    ⟨(HB2.out.below hb3 HB2.out.lt).below hb4 (Nat.lt_of_lt_of_le HB2.out.lt hb3.size), (HF2.out.below hb3 HF2.out.lt).below hb4 (Nat.lt_of_lt_of_le HF2.out.lt hb3.size), hn.below hb4 (Nat.le_refl _), by unfold NB; rw [← hw4]; exact heap_alloc_new w3 _,
     (HBL.out.trans (hb3.mono HBL.out.size)).trans (hb4.mono (Nat.le_trans HBL.out.size hb3.size)), HSZ.out⟩
  have hc := HS4.out.blk.cell 5 (.func (.func 56) #[] #[.pointer (some ⟨p2, 0, none⟩)]) rfl
  have HR2 := Lib.hid (HS4.out.rd1 HS4.out.nums.s2 (by omega) (by rw [HLEN.out]; omega) (rd_one s.l 2 (by rw [HLEN.out]; omega)))
  clear hw4 hb4 hb3 hn
  go_wp2_with fail
  refine HR2.out.mono ?_
  rintro e w5 ⟨rfl, rfl⟩
  clear hc han hsn haf hbx
  by_cases hm : 112 < byteAt s.l 2
  · have HFO := Lib.hid (fo_no (s := s) (fun h => by have := h.1; omega))
    have d1 : decide ((112 : Int) < (byteAt s.l 2 : Nat)) = true := decide_eq_true (by omega)
    have hst := run_storeZ HS4.out.fr
    have HD := Lib.hid (HS4.out.row Fr.zero)
    clear hm
    go_wp2
    exact bodyPost_ret (bodyRet_fr3 rfl rfl rfl rfl HD.out.fr) rfl ⟨by rw [HFO.out.1, HFO.out.2.1, HFO.out.2.2]; rfl, HD.out.below⟩
  · have d1 : decide ((112 : Int) < (byteAt s.l 2 : Nat)) = false := decide_eq_false (by omega)
    have HM := Lib.hid hm
    clear hm
    go_wp2_with fail
    obtain ⟨m, hmm⟩ : ∃ m, byteAt s.l 2 = m := ⟨_, rfl⟩
    have HMM := Lib.hid hmm
    rw [hmm] at HM
    simp only [hmm] at d1 ⊢
    clear hmm HR2
    have HR1 := Lib.hid (fun (W : World) (h : FS w w.heap.size w1.heap.size w3.heap.size p0 p1 p2 p3 p4 p5 s.l Fr.zero W) => h.rd1 h.nums.s1 (by omega) (by rw [HLEN.out]; omega) (rd_one s.l 1 (by rw [HLEN.out]; omega)))
    have HR3 := Lib.hid (fun (W : World) (h : FS w w.heap.size w1.heap.size w3.heap.size p0 p1 p2 p3 p4 p5 s.l Fr.zero W) => h.rd1 h.nums.s3 (by omega) (by rw [HLEN.out]; omega) rfl)
    have HDA := Lib.hid (fun (W : World) => dataOf_any w.heap.size m W (by have := HM.out; omega))
    have hcv1 := run_convB HS4.out.at_ 8 m 112 (by rw [HLEN.out]; have := HM.out; omega)
    have hcv2 := run_convB HS4.out.drew.at_ 8 m 112 (by rw [HLEN.out]; have := HM.out; omega)
    have hst1 := run_storeF HS4.out.fr
    have hst2 := run_storeF HS4.out.drew.fr
    have HSS := Lib.hid (fun (W : World) (f : Fr) (h : FS w w.heap.size w1.heap.size w3.heap.size p0 p1 p2 p3 p4 p5 s.l f W) => (show W.cell? ⟨w3.heap.size, 3, none⟩ = some (.func (.func 56) #[] #[.pointer (some ⟨p1, 0, none⟩)]) ∧ W.cell? ⟨w3.heap.size, 7, none⟩ = some (.func (.func 56) #[] #[.pointer (some ⟨p3, 0, none⟩)]) ∧ Hid (∃ f, FS w w.heap.size w1.heap.size w3.heap.size p0 p1 p2 p3 p4 p5 s.l f W) from ⟨h.blk.cell 3 _ rfl, h.blk.cell 7 _ rfl, Lib.hid ⟨f, h⟩⟩))
    have HS0 := Lib.hid (HSS.out _ _ HS4.out)
    have HS1 := Lib.hid (HSS.out _ _ HS4.out.drew)
    have HS2 := Lib.hid (fun f => HSS.out _ _ (HS4.out.row f))
    have HS3 := Lib.hid (fun f => HSS.out _ _ (HS4.out.drew.row f))
    have HFN := Lib.hid (fun f => HS4.out.row f)
    have HFN2 := Lib.hid (fun f => HS4.out.drew.row f)
    have hwr : IntKind.i64.wrap ((byteAt s.l 1 : Nat) : Int) = ((byteAt s.l 1 : Nat) : Int) := by
      have := byteAt_lt s.l 1
      rw [IntKind.wrap_i64]; omega
    rw [show Op.convert 65 9 (Operand.tmp 27) = cvOp from rfl]
    have hcvo : cvOp = Op.convert 65 9 (Operand.tmp 27) := rfl
    go_region_held3 (fun W => W.cell? ⟨w3.heap.size, 3, none⟩ = some (.func (.func 56) #[] #[.pointer (some ⟨p1, 0, none⟩)]) ∧ W.cell? ⟨w3.heap.size, 7, none⟩ = some (.func (.func 56) #[] #[.pointer (some ⟨p3, 0, none⟩)]) ∧ Hid (∃ f, FS w w.heap.size w1.heap.size w3.heap.size p0 p1 p2 p3 p4 p5 s.l f W)) (first | assumption | exact HS0.out | exact HS1.out | exact HS2.out _ | exact HS3.out _) ((first | (go_at_call 28; (with_reducible refine (HDA.out _).mono ?_); rintro e wz ⟨rfl, rfl⟩) | ((with_reducible refine (HR1.out _ ?hs).mono ?_); (case hs => first | exact HS4.out | exact HS4.out.drew); rintro e wz ⟨rfl, rfl⟩) | ((with_reducible refine (HR3.out _ ?hs).mono ?_); (case hs => first | exact HS4.out | exact HS4.out.drew); rintro e wz ⟨rfl, rfl⟩) | fail))
    have hfe : (⟨((byteAt s.l 1 : Nat) : Int), rd s.l 4 4, ⟨((s.l.drop 8).take m).toArray⟩⟩ : Fr) = frOf s.l := by unfold frOf; rw [HMM.out]
    obtain ⟨w5, hw5⟩ : ∃ w5, w4.drew.setRow w1.heap.size (frA (frOf s.l)) = w5 := ⟨_, rfl⟩
    have HS5 : Hid (FS w w.heap.size w1.heap.size w3.heap.size p0 p1 p2 p3 p4 p5 s.l (frOf s.l) w5) := Lib.hid (by rw [← hw5]; exact HFN2.out _)
    rw [hfe, hw5]
    have HM2 := Lib.hid (show byteAt s.l 2 ≤ 112 by have := HM.out; rw [HMM.out]; omega)
    clear hcv1 hcv2 hst1 hst2 HSS HS0 HS1 HS2 HS3 HFN HFN2 hwr hcvo hfe hw5 HR1 HR3 HDA HS4 HM HMM d1
    have hc := HS5.out.blk.cell 9 (.func (.func 56) #[] #[.pointer (some ⟨p4, 0, none⟩)]) rfl
    have HR4 := Lib.hid (HS5.out.rd1 HS5.out.nums.s4 (by omega) (by rw [HLEN.out]; omega) (n := rd s.l 120 4) rfl)
    go_wp2_with fail
    refine HR4.out.mono ?_
    rintro e w6 ⟨rfl, rfl⟩
    have hplt := Lib.hid (show rd s.l 120 4 < 4294967296 from rd_lt s.l 120 4)
    have hslt := Lib.hid (show (frOf s.l).seq < 4294967296 from rd_lt s.l 4 4)
    have HP : Hid (rd s.l 120 4 = rd s.l 120 4) := Lib.hid rfl
    obtain ⟨pl, hpl⟩ : ∃ pl, rd s.l 120 4 = pl := ⟨_, rfl⟩
    have HPL := Lib.hid hpl
    rw [hpl] at hplt
    simp only [hpl]
    have hwr : IntKind.i64.wrap ((pl : Nat) : Int) = ((pl : Nat) : Int) := by
      have := hplt.out
      rw [IntKind.wrap_i64]; omega
    have c0 := HS5.out.fr.cell 0 (.int .i64 (frOf s.l).kind) rfl
    have c1 := HS5.out.fr.cell 1 (.int .u32 (frOf s.l).seq) rfl
    have c2 := HS5.out.fr.cell 2 (.string (frOf s.l).data) rfl
    have HSE := Lib.hid (seal_any pl (frOf s.l).kind (frOf s.l).seq (frOf s.l).data w5 (hE.below HS5.out.below hw) (Nat.le_trans hw HS5.out.below.size) hslt.out)
    clear hc hpl HR4 HP
    go_wp2_with fail
    refine HSE.out.mono ?_
    rintro e w6 ⟨rfl, hb6⟩
    have HS6 := Lib.hid (HS5.out.more hb6)
    obtain ⟨w7, hw7⟩ : ∃ w7, w6.alloc (.cells (sealV pl (frOf s.l).kind (frOf s.l).seq (frOf s.l).data.data.toList).A 27 (0, 0)) = w7 := ⟨_, rfl⟩
    have has := D.run_allocS w6
    have hss := D.run_storeS_new w6 Sec.zero 27 (sealV pl (frOf s.l).kind (frOf s.l).seq (frOf s.l).data.data.toList)
    rw [hw7] at hss
    have h7 := HS6.out.more (W' := w7) (by rw [← hw7]; exact (Below.refl _ _).alloc (Nat.le_refl _) _)
    have hl7 := D.run_loadS_block (w := w7) (g := w6.heap.size) (T := 27) (s := sealV pl (frOf s.l).kind (frOf s.l).seq (frOf s.l).data.data.toList) (by rw [← hw7]; exact heap_alloc_new w6 _)
    have hl1 := D.run_loadS_block (w := w7) (g := w.heap.size) (T := 27) (s := s) h7.at_
    have HS7 := Lib.hid h7
    have hstz := run_storeZ h7.fr
    have hstf := run_storeFr h7.fr (frOf s.l)
    have hldf := run_loadF h7.fr
    have HDZ := Lib.hid (h7.row Fr.zero)
    have HDF := Lib.hid (h7.row (frOf s.l))
    have hform : formOK s ↔ sealE pl (frOf s.l).kind (frOf s.l).data.data.toList.length = 0 ∧ sealV pl (frOf s.l).kind (frOf s.l).seq (frOf s.l).data.data.toList = s := by
      unfold formOK
      rw [HPL.out]
      exact ⟨fun h => h.2, fun h => ⟨HM2.out, h⟩⟩
    have HFORM := Lib.hid hform
    have hnq := D.run_neqS w7 (sealV pl (frOf s.l).kind (frOf s.l).seq (frOf s.l).data.data.toList) s
    clear hw7 h7 hb6 hform c0 c1 c2 hwr
    generalize sealV pl (frOf s.l).kind (frOf s.l).seq (frOf s.l).data.data.toList = q at *
    generalize sealE pl (frOf s.l).kind (frOf s.l).data.data.toList.length = ee at *
    by_cases h0 : ee = 0
    · subst h0
      by_cases hq : q = s
      · have HFO := Lib.hid (fo_ok (HFORM.out.2 ⟨rfl, hq⟩))
        rw [decide_eq_true hq] at hnq
        clear hq HFORM
        go_wp2
        exact bodyPost_ret (bodyRet_fr3 rfl rfl rfl rfl HDF.out.fr) rfl ⟨by rw [HFO.out.1, HFO.out.2.1, HFO.out.2.2, HPL.out]; rfl, HDF.out.below⟩
      · have HFO := Lib.hid (fo_no (fun h => hq (HFORM.out.1 h).2))
        rw [decide_eq_false hq] at hnq
        clear hq HFORM
        go_wp2
        exact bodyPost_ret (bodyRet_fr3 rfl rfl rfl rfl HDZ.out.fr) rfl ⟨by rw [HFO.out.1, HFO.out.2.1, HFO.out.2.2]; rfl, HDZ.out.below⟩
    · have HFO := Lib.hid (fo_no (fun h => h0 (HFORM.out.1 h).1))
      clear HFORM hnq
      go_wp2
      exact bodyPost_ret (bodyRet_fr3 rfl rfl rfl rfl HDZ.out.fr) rfl ⟨by rw [HFO.out.1, HFO.out.2.1, HFO.out.2.2]; rfl, HDZ.out.below⟩
end Go.Proofs.YtbaibmndmcdfdaaDoor.F
