/- Seal. -/
import Derived.Test.YtbaibmndmcdfdaaDoorFNum
import Derived.Lib.BufferWrite
namespace Go.Proofs.YtbaibmndmcdfdaaDoor.F
open Go.RowKit
open D (Sec Kept loadS storeS allocS loadS_eq storeS_eq allocS_eq)
set_option maxRecDepth 100000

/-! ### the numbers in a block -/
noncomputable def allocN : Sem Value := Instr.alloc 72 true (.tuple #[])
theorem allocN_eq : Instr.alloc 72 true (.tuple #[]) = allocN := rfl
theorem infoNums : (Tryd.prog.info? 72).map (fun i => (i.zero, i.size)) = some (some (.agg nums0), 12) := by kernel_rfl
theorem run_allocN (w : World) : allocN.run Tryd.prog w = .ok (.pointer (some ⟨w.heap.size, 0, none⟩)) (w.alloc (.cells nums0 72 (0, 0))) := by
  cases hi : Tryd.prog.info? 72 with
  | none => have := infoNums; rw [hi] at this; simp at this
  | some i =>
    have h := infoNums
    rw [hi] at h
    simp only [Option.map_some, Option.some.injEq, Prod.mk.injEq] at h
    simp [allocN, Instr.alloc, zeroValue, typeInfo, hi, h.1, newVar, newRow, Value.cells]
theorem run_storeN_new (w : World) (p0 p1 p2 p3 p4 p5 : Nat) :
    (storeN (.pointer (some ⟨w.heap.size, 0, none⟩)) (.agg (numsA p0 p1 p2 p3 p4 p5))).run Tryd.prog (w.alloc (.cells nums0 72 (0, 0))) = .ok () (w.alloc (.cells (numsA p0 p1 p2 p3 p4 p5) 72 (0, 0))) := by
  have h := run_storeN (Z := nums0) rfl (heap_alloc_new w _) p0 p1 p2 p3 p4 p5
  rw [D.setRow_alloc] at h
  exact h
def NB (W : World) (g p0 p1 p2 p3 p4 p5 : Nat) : Prop := W.heap[g]? = some (.cells (numsA p0 p1 p2 p3 p4 p5) 72 (0, 0))
theorem NB.cell {W : World} {g p0 p1 p2 p3 p4 p5 : Nat} (h : NB W g p0 p1 p2 p3 p4 p5) (i : Nat) (v : Value) (hv : (numsA p0 p1 p2 p3 p4 p5)[i]? = some v) : W.cell? ⟨g, i, none⟩ = some v := by
  unfold World.cell?
  rw [show W.heap[g]? = _ from h]; simpa using hv
theorem NumsAt.below {A B : World} {n b p0 p1 p2 p3 p4 p5 : Nat} (h : NumsAt A b p0 p1 p2 p3 p4 p5) (hb : Below n A B) (hn : A.heap.size ≤ n) : NumsAt B b p0 p1 p2 p3 p4 p5 :=
  ⟨h.s0.below hb (Nat.lt_of_lt_of_le h.s0.lt hn), h.s1.below hb (Nat.lt_of_lt_of_le h.s1.lt hn), h.s2.below hb (Nat.lt_of_lt_of_le h.s2.lt hn), h.s3.below hb (Nat.lt_of_lt_of_le h.s3.lt hn), h.s4.below hb (Nat.lt_of_lt_of_le h.s4.lt hn), h.s5.below hb (Nat.lt_of_lt_of_le h.s5.lt hn)⟩
theorem BAt.ne_sl {W : World} {b p : Nat} {l : List UInt8} {v : Value} (h : BAt W b l) (hp : SlAt W p v) : p ≠ b := by
  rintro rfl
  have h1 : W.heap[p]? = _ := h
  have h2 : W.heap[p]? = _ := hp
  rw [h1] at h2
  injection h2 with h2
  injection h2 with h2 h3 h4
  exact absurd h3 (by decide)
theorem BAt.ne_nb {W : World} {b g p0 p1 p2 p3 p4 p5 : Nat} {l : List UInt8} (h : BAt W b l) (hp : NB W g p0 p1 p2 p3 p4 p5) : g ≠ b := by
  rintro rfl
  have h1 : W.heap[g]? = _ := h
  have h2 : W.heap[g]? = _ := hp
  rw [h1] at h2
  injection h2 with h2
  injection h2 with h2 h3 h4
  exact absurd h3 (by decide)
/-- The state between the writes: b the sector's block, z the result's, g the numbers'. -/
structure SS (w : World) (z b g p0 p1 p2 p3 p4 p5 : Nat) (l : List UInt8) (W : World) : Prop where
  at_ : BAt W b l
  nums : NumsAt W b p0 p1 p2 p3 p4 p5
  blk : NB W g p0 p1 p2 p3 p4 p5
  res : W.heap[z]? = some (.cells Sec.zero.A 27 (0, 0))
  below : Below w.heap.size w W
  zb : z < b
  wz : w.heap.size ≤ z
theorem SS.wrote {w : World} {z b g p0 p1 p2 p3 p4 p5 : Nat} {l m : List UInt8} {W W' : World} (h : SS w z b g p0 p1 p2 p3 p4 p5 l W) (k : Wrote b m W W') : SS w z b g p0 p1 p2 p3 p4 p5 m W' :=
  ⟨k.at_, ⟨h.nums.s0.kept k.kept (h.at_.ne_sl h.nums.s0), h.nums.s1.kept k.kept (h.at_.ne_sl h.nums.s1), h.nums.s2.kept k.kept (h.at_.ne_sl h.nums.s2), h.nums.s3.kept k.kept (h.at_.ne_sl h.nums.s3), h.nums.s4.kept k.kept (h.at_.ne_sl h.nums.s4), h.nums.s5.kept k.kept (h.at_.ne_sl h.nums.s5)⟩,
    (k.kept.block g (Array.getElem?_eq_some_iff.1 h.blk).1 (h.at_.ne_nb h.blk)).trans h.blk, (k.kept.block z (Array.getElem?_eq_some_iff.1 h.res).1 (by have := h.zb; omega)).trans h.res,
    h.below.trans (k.kept.toBelow h.below.size (fun k e => by have := h.zb; have := h.wz; omega)), h.zb, h.wz⟩
theorem SS.more {w : World} {z b g p0 p1 p2 p3 p4 p5 : Nat} {l : List UInt8} {W W' : World} (h : SS w z b g p0 p1 p2 p3 p4 p5 l W) (k : Below W.heap.size W W') : SS w z b g p0 p1 p2 p3 p4 p5 l W' :=
  ⟨h.at_.below k h.at_.lt, h.nums.below k (Nat.le_refl _), (k.block g (Array.getElem?_eq_some_iff.1 h.blk).1).trans h.blk, (k.block z (Array.getElem?_eq_some_iff.1 h.res).1).trans h.res,
    h.below.trans (k.mono h.below.size), h.zb, h.wz⟩

theorem SS.write {w : World} {z b g p0 p1 p2 p3 p4 p5 : Nat} {l : List UInt8} {W : World} (h : SS w z b g p0 p1 p2 p3 p4 p5 l W) {p o m : Nat} (hp : SlAt W p (.slice (some ⟨b, o, none⟩) m m)) (n : Nat) (hn : n < 4294967296) (hm : m ≤ 4) (ho : o + m ≤ l.length) :
    Calls Tryd.prog 55 #[.int .u32 n, .pointer (some ⟨p, 0, none⟩)] W fun e w' => e = .returned (.tuple #[]) ∧ SS w z b g p0 p1 p2 p3 p4 p5 (putN l o n m) w' :=
  (write_any b o m m l p n W hn hm h.at_ ho hp).mono fun _ _ hq => ⟨hq.1, h.wrote hq.2⟩
theorem SS.drew {w : World} {z b g p0 p1 p2 p3 p4 p5 : Nat} {l : List UInt8} {W : World} (h : SS w z b g p0 p1 p2 p3 p4 p5 l W) : SS w z b g p0 p1 p2 p3 p4 p5 l W.drew := h.more (Below.refl _ _).drew
/-- Some bytes. -/
def SSx (w : World) (z b g p0 p1 p2 p3 p4 p5 : Nat) (W : World) : Prop := ∃ l, SS w z b g p0 p1 p2 p3 p4 p5 l W
theorem putN_one (l : List UInt8) (o n : Nat) (h : 1 ≤ 4 := by omega) : (putN l o n 1).length = l.length := putN_len l o n 1
theorem bodyRet_sec2 {fn : Func} {p q : Tmp} (h : fn.results = #[.cell p 27, .tmp q]) {tmps : Array Value} {w : World} {g : Nat} {s : Sec} {v : Value} (hp : tmps.getD p undef = .pointer (some ⟨g, 0, none⟩)) (hq : tmps.getD q undef = v) (hg : w.heap[g]? = some (.cells s.A 27 (0, 0))) :
    (results fn tmps).run Tryd.prog w = .ok (.tuple #[.agg s.A, v]) w := by
  have hl : (loadVar 27 ⟨g, 0, none⟩).run Tryd.prog w = .ok (.agg s.A) w := run_loadVar_row (P := Tryd.prog) w g 27 27 s.A (0, 0) _ hg Tryd.underlying27 rfl (by rw [D.szSec, s.A_size])
  subst hq
  have hp' : tmps[p]?.getD undef = .pointer (some ⟨g, 0, none⟩) := by simpa using hp
  simp [results, h, hp', asAddr, hl]
theorem zeroC : Tryd.zeroCells27 = Sec.zero.A := by kernel_rfl

noncomputable def copyX (ty : TypeId) (xs : Array Value) : Sem Value := Builtin.copy_ #[65, 9] ty xs
theorem copyX_eq (ty : TypeId) (xs : Array Value) : Builtin.copy_ #[65, 9] ty xs = copyX ty xs := rfl
theorem szByte : (Tryd.prog.info? 5).map (·.size) = some 1 := by kernel_rfl
/-- Copy of a string into the place of Data. -/
theorem run_copyX {W : World} {b c : Nat} {l : List UInt8} (h : BAt W b l) (hl : l.length = 128) (s : ByteArray) (hs : s.size ≤ 112) (ty : TypeId) :
    ∃ W', (copyX ty #[.slice (some ⟨b, 8, none⟩) 112 c, .string s]).run Tryd.prog W = .ok (goInt s.size) W' ∧ Wrote b (copyL l 8 s.data.toList) W W' := by
  have hsz : (Lib.byteCells l).toArray.size = 128 := by simp [Lib.byteCells, hl]
  have hr := Lib.run_copy_row_string (P := Tryd.prog) W 65 9 ty 5 b 8 112 c s _ _ Tryd.underlying65 szByte h hs (by rw [hsz]; omega)
  refine ⟨_, hr, ?_, (Kept.refl (fun k => k = b) W).setRow b rfl _, by simp⟩
  have hd : s.size = s.data.toList.length := Lib.size_eq s
  have e : (Lib.byteCells l).toArray.toList.take 8 ++ Lib.byteCells s.data.toList ++ (Lib.byteCells l).toArray.toList.drop (8 + s.size) = Lib.byteCells (copyL l 8 s.data.toList) := by
    show (Lib.byteCells l).take 8 ++ Lib.byteCells s.data.toList ++ (Lib.byteCells l).drop (8 + s.size) = _
    rw [hd]; unfold copyL Lib.byteCells
    rw [List.map_append, List.map_append, List.map_take, List.map_drop]
  rw [e]
  exact setRow_heap W b _ _ _ _ h

attribute [local go_sem ↓] loadS_eq storeS_eq allocS_eq allocN_eq storeN_eq copyX_eq

/-- What Seal leaves. -/
def SealP (at_ kind : Int) (seq : Nat) (d : List UInt8) (w : World) (e : Ending) (w' : World) : Prop := e = .returned (.tuple #[.agg (sealV at_ kind seq d).A, .int .i64 (sealE at_ kind d.length)]) ∧ Below w.heap.size w w'
theorem seal_zero {at_ kind : Int} {seq : Nat} {d : List UInt8} {q : Int} (h : sealE at_ kind d.length = q) (hq : q ≠ 0) : sealV at_ kind seq d = Sec.zero := sealV_no (by rw [h]; exact hq)

set_option maxHeartbeats 1000000 in
theorem seal_bad1 (at_ kind : Int) (seq : Nat) (s : ByteArray) (w : World) (ha0 : at_ < 0 ∨ 255 < at_) :
    Calls Tryd.prog 11 #[.int .i64 at_, .int .i64 kind, .int .u32 seq, .string s] w (SealP at_ kind seq s.data.toList w) := by
  have HE := Lib.hid (sealE_bad (at_ := at_) (kind := kind) s.data.toList.length (by unfold badS; omega))
  have HP := Lib.hid (isPlace_no at_ (w.alloc (.cells Sec.zero.A 27 (0, 0))) ha0)
  have ha := D.run_allocS w
  obtain ⟨h1, h2, h3⟩ := D.cell_block (w := w) (Below.refl _ _) Sec.zero
  have hz := zeroC
  clear ha0
  have H2 := Lib.hid h2
  have H3 := Lib.hid h3
  clear h2 h3
  generalize w.alloc (.cells Sec.zero.A 27 (0, 0)) = w1 at *
  go_enter Tryd.func11, Tryd.ntmps11
  go_wp2_with fail
  refine HP.out.mono ?_
  rintro e w2 ⟨rfl, rfl⟩
  go_wp2
  exact bodyPost_ret (bodyRet_sec2 rfl rfl rfl H2.out) rfl ⟨by rw [seal_zero HE.out (by omega), HE.out]; rfl, H3.out⟩
set_option maxHeartbeats 1000000 in
theorem seal_bad2 (at_ kind : Int) (seq : Nat) (s : ByteArray) (w : World) (ha0 : 0 ≤ at_ ∧ at_ ≤ 255) (hk : kind < 1) :
    Calls Tryd.prog 11 #[.int .i64 at_, .int .i64 kind, .int .u32 seq, .string s] w (SealP at_ kind seq s.data.toList w) := by
  have HE := Lib.hid (sealE_bad (at_ := at_) (kind := kind) s.data.toList.length (by unfold badS; omega))
  have HP := Lib.hid (isPlace_yes at_ (w.alloc (.cells Sec.zero.A 27 (0, 0))) ha0.1 ha0.2)
  have ha := D.run_allocS w
  obtain ⟨h1, h2, h3⟩ := D.cell_block (w := w) (Below.refl _ _) Sec.zero
  have hz := zeroC
  have d1 : decide (kind < 1) = true := decide_eq_true hk
  clear ha0 hk
  have H2 := Lib.hid h2
  have H3 := Lib.hid h3
  clear h2 h3
  generalize w.alloc (.cells Sec.zero.A 27 (0, 0)) = w1 at *
  go_enter Tryd.func11, Tryd.ntmps11
  go_wp2_with fail
  refine HP.out.mono ?_
  rintro e w2 ⟨rfl, rfl⟩
  go_wp2
  exact bodyPost_ret (bodyRet_sec2 rfl rfl rfl H2.out) rfl ⟨by rw [seal_zero HE.out (by omega), HE.out]; rfl, H3.out⟩
set_option maxHeartbeats 1000000 in
theorem seal_bad3 (at_ kind : Int) (seq : Nat) (s : ByteArray) (w : World) (ha0 : 0 ≤ at_ ∧ at_ ≤ 255) (hk : 255 < kind) :
    Calls Tryd.prog 11 #[.int .i64 at_, .int .i64 kind, .int .u32 seq, .string s] w (SealP at_ kind seq s.data.toList w) := by
  have HE := Lib.hid (sealE_bad (at_ := at_) (kind := kind) s.data.toList.length (by unfold badS; omega))
  have HP := Lib.hid (isPlace_yes at_ (w.alloc (.cells Sec.zero.A 27 (0, 0))) ha0.1 ha0.2)
  have ha := D.run_allocS w
  obtain ⟨h1, h2, h3⟩ := D.cell_block (w := w) (Below.refl _ _) Sec.zero
  have hz := zeroC
  have d1 : decide (kind < 1) = false := decide_eq_false (by omega)
  have d2 : decide ((255 : Int) < kind) = true := decide_eq_true hk
  clear ha0 hk
  have H2 := Lib.hid h2
  have H3 := Lib.hid h3
  clear h2 h3
  generalize w.alloc (.cells Sec.zero.A 27 (0, 0)) = w1 at *
  go_enter Tryd.func11, Tryd.ntmps11
  go_wp2_with fail
  refine HP.out.mono ?_
  rintro e w2 ⟨rfl, rfl⟩
  go_wp2
  exact bodyPost_ret (bodyRet_sec2 rfl rfl rfl H2.out) rfl ⟨by rw [seal_zero HE.out (by omega), HE.out]; rfl, H3.out⟩
set_option maxHeartbeats 1000000 in
theorem seal_bad4 (at_ kind : Int) (seq : Nat) (s : ByteArray) (w : World) (ha0 : 0 ≤ at_ ∧ at_ ≤ 255) (hk : 1 ≤ kind ∧ kind ≤ 255) (hs : 112 < s.size) :
    Calls Tryd.prog 11 #[.int .i64 at_, .int .i64 kind, .int .u32 seq, .string s] w (SealP at_ kind seq s.data.toList w) := by
  have HE := Lib.hid (sealE_long (at_ := at_) (kind := kind) (n := s.data.toList.length) (by unfold badS; omega) (by rw [← Lib.size_eq]; exact hs))
  have HP := Lib.hid (isPlace_yes at_ (w.alloc (.cells Sec.zero.A 27 (0, 0))) ha0.1 ha0.2)
  have ha := D.run_allocS w
  obtain ⟨h1, h2, h3⟩ := D.cell_block (w := w) (Below.refl _ _) Sec.zero
  have hz := zeroC
  have d1 : decide (kind < 1) = false := decide_eq_false (by omega)
  have d2 : decide ((255 : Int) < kind) = false := decide_eq_false (by omega)
  have d3 : decide ((112 : Int) < s.size) = true := decide_eq_true (by omega)
  clear ha0 hk hs
  have H2 := Lib.hid h2
  have H3 := Lib.hid h3
  clear h2 h3
  generalize w.alloc (.cells Sec.zero.A 27 (0, 0)) = w1 at *
  go_enter Tryd.func11, Tryd.ntmps11
  go_wp2_with fail
  refine HP.out.mono ?_
  rintro e w2 ⟨rfl, rfl⟩
  go_wp2
  exact bodyPost_ret (bodyRet_sec2 rfl rfl rfl H2.out) rfl ⟨by rw [seal_zero HE.out (by omega), HE.out]; rfl, H3.out⟩

set_option maxHeartbeats 2000000 in
theorem seal_good (at_ kind : Int) (seq : Nat) (s : ByteArray) (w : World) (hE : Env w) (hw : 1 ≤ w.heap.size) (ha0 : 0 ≤ at_ ∧ at_ ≤ 255) (hk : 1 ≤ kind ∧ kind ≤ 255) (hq : seq < 4294967296) (hs : s.size ≤ 112) :
    Calls Tryd.prog 11 #[.int .i64 at_, .int .i64 kind, .int .u32 seq, .string s] w (SealP at_ kind seq s.data.toList w) := by
  have hd : s.size = s.data.toList.length := Lib.size_eq s
  have HE := Lib.hid (sealE_ok (at_ := at_) (kind := kind) (n := s.data.toList.length) (by unfold badS; omega) (by omega))
  obtain ⟨w1, hw1⟩ : ∃ w1, w.alloc (.cells Sec.zero.A 27 (0, 0)) = w1 := ⟨_, rfl⟩
  obtain ⟨w2, hw2⟩ : ∃ w2, w1.alloc (.cells Sec.zero.A 27 (0, 0)) = w2 := ⟨_, rfl⟩
  have ha1 : allocS.run Tryd.prog w = .ok (.pointer (some ⟨w.heap.size, 0, none⟩)) w1 := by rw [← hw1]; exact D.run_allocS w
  have ha2 : allocS.run Tryd.prog w1 = .ok (.pointer (some ⟨w1.heap.size, 0, none⟩)) w2 := by rw [← hw2]; exact D.run_allocS w1
  have HZ1 : Hid (w1.heap.size = w.heap.size + 1) := Lib.hid (by rw [← hw1]; simp)
  have HZ2 : Hid (w2.heap.size = w1.heap.size + 1) := Lib.hid (by rw [← hw2]; simp)
  have hb1 : Below w.heap.size w w1 := by rw [← hw1]; exact (Below.refl _ _).alloc (Nat.le_refl _) _
  have hb2 : Below w1.heap.size w1 w2 := by rw [← hw2]; exact (Below.refl _ _).alloc (Nat.le_refl _) _
  have HB2 := Lib.hid (hb1.trans (hb2.mono hb1.size))
  have HR1 : Hid (w2.heap[w.heap.size]? = some (.cells Sec.zero.A 27 (0, 0))) := Lib.hid ((hb2.block _ (by rw [HZ1.out]; omega)).trans (by rw [← hw1]; exact heap_alloc_new w _))
  have HR2 : Hid (BAt w2 w1.heap.size row0) := Lib.hid (by unfold BAt; rw [← hw2]; exact heap_alloc_new w1 _)
  have HP := Lib.hid (isPlace_yes at_ w1 ha0.1 ha0.2)
  have HN := Lib.hid (numbersOf_any w1.heap.size w2)
  have HAN := Lib.hid run_allocN
  have HSN := Lib.hid run_storeN_new
  have d1 : decide (kind < 1) = false := decide_eq_false (by omega)
  have d2 : decide ((255 : Int) < kind) = false := decide_eq_false (by omega)
  have d3 : decide ((112 : Int) < s.size) = false := decide_eq_false (by omega)
  clear hw1 hw2 hb1 hb2
  have HD := Lib.hid hd
  have HS := Lib.hid hs
  have HK := Lib.hid hk
  have HA := Lib.hid ha0
  clear hd hs hk ha0
  go_enter Tryd.func11, Tryd.ntmps11
  go_wp2_with fail
  refine HP.out.mono ?_
  rintro e w3 ⟨rfl, rfl⟩
  go_wp2_with fail
  refine HN.out.mono ?_
  rintro e w3 ⟨p0, p1, p2, p3, p4, p5, rfl, hn, hb3⟩
  have han := HAN.out w3
  have hsn := HSN.out w3 p0 p1 p2 p3 p4 p5
  obtain ⟨w4, hw4⟩ : ∃ w4, w3.alloc (.cells (numsA p0 p1 p2 p3 p4 p5) 72 (0, 0)) = w4 := ⟨_, rfl⟩
  have hb4 : Below w3.heap.size w3 w4 := by rw [← hw4]; exact (Below.refl _ _).alloc (Nat.le_refl _) _
  rw [hw4] at hsn
  have HS4 : Hid (SS w w.heap.size w1.heap.size w3.heap.size p0 p1 p2 p3 p4 p5 row0 w4) := Lib.hid
    ⟨(HR2.out.below hb3 HR2.out.lt).below hb4 (Nat.lt_of_lt_of_le HR2.out.lt hb3.size), hn.below hb4 (Nat.le_refl _), by unfold NB; rw [← hw4]; exact heap_alloc_new w3 _,
     (hb4.block _ (by have := hb3.size; rw [HZ2.out, HZ1.out] at this; omega)).trans ((hb3.block _ (by rw [HZ2.out, HZ1.out]; omega)).trans HR1.out),
     (HB2.out.trans (hb3.mono HB2.out.size)).trans (hb4.mono (Nat.le_trans HB2.out.size hb3.size)), by rw [HZ1.out]; omega, Nat.le_refl _⟩
  have hc := HS4.out.blk.cell 0 (.func (.func 55) #[] #[.pointer (some ⟨p0, 0, none⟩)]) rfl
  clear hw4 hb4 hb3 hn
  go_wp2_with fail
  clear hc
  have hk32 : kind % 4294967296 = kind := by have := HK.out; omega
  have hkn : ((kind.toNat : Nat) : Int) = kind := by have := HK.out; omega
  have HKN := Lib.hid hkn
  clear hkn
  refine ((HS4.out.write HS4.out.nums.s0 76 (by omega) (by omega) (by rw [show row0.length = 128 from rfl]; omega)).mono ?_)
  rintro e w5 ⟨rfl, hs5⟩
  have HS5 := Lib.hid hs5
  have hc := HS5.out.blk.cell 2 (.func (.func 55) #[] #[.pointer (some ⟨p1, 0, none⟩)]) rfl
  have HW5 := Lib.hid (HS5.out.write HS5.out.nums.s1 kind.toNat (by have := HK.out; omega) (by omega) (by rw [putN_len, show row0.length = 128 from rfl]; omega))
  rw [HKN.out] at HW5
  clear hs5
  go_wp2_with fail
  clear hc hk32
  refine HW5.out.mono ?_
  rintro e w6 ⟨rfl, hs6⟩
  have HS6 := Lib.hid hs6
  have hc := HS6.out.blk.cell 4 (.func (.func 55) #[] #[.pointer (some ⟨p2, 0, none⟩)]) rfl
  have hsz : (s.size : Int) % 4294967296 = s.size := by have := HS.out; omega
  have HW6 := Lib.hid (HS6.out.write HS6.out.nums.s2 s.size (by have := HS.out; omega) (by omega) (by rw [putN_len, putN_len, show row0.length = 128 from rfl]; omega))
  clear hs6 HW5
  go_wp2_with fail
  clear hc hsz
  refine HW6.out.mono ?_
  rintro e w7 ⟨rfl, hs7⟩
  have HS7 : Hid (SS w w.heap.size w1.heap.size w3.heap.size p0 p1 p2 p3 p4 p5 (row3 kind.toNat s.size) w7) := Lib.hid hs7
  have hc := HS7.out.blk.cell 6 (.func (.func 55) #[] #[.pointer (some ⟨p3, 0, none⟩)]) rfl
  have HW7 := Lib.hid (HS7.out.write HS7.out.nums.s3 seq hq (by omega) (by rw [row3_len]; omega))
  clear hs7 HW6
  go_wp2_with fail
  clear hc
  refine HW7.out.mono ?_
  rintro e w8 ⟨rfl, hs8⟩
  have HS8 : Hid (SS w w.heap.size w1.heap.size w3.heap.size p0 p1 p2 p3 p4 p5 (row4 kind.toNat s.size seq) w8) := Lib.hid hs8
  have HD8 := Lib.hid (dataOf_any w1.heap.size 112 w8 (by omega))
  obtain ⟨w9, hcp, hw9⟩ := run_copyX HS8.out.at_ (row4_len _ _ _) s HS.out 3 (c := 112)
  have HS9 : Hid (SS w w.heap.size w1.heap.size w3.heap.size p0 p1 p2 p3 p4 p5 (row5 kind.toNat seq s.data.toList) w9) := Lib.hid (by have := HS8.out.wrote hw9; rw [HD.out] at this; exact this)
  have hc := HS9.out.blk.cell 8 (.func (.func 55) #[] #[.pointer (some ⟨p4, 0, none⟩)]) rfl
  clear hs8 HW7 hw9
  go_wp2_with fail
  refine HD8.out.mono ?_
  rintro e w8 ⟨rfl, rfl⟩
  have ha32 : at_ % 4294967296 = at_ := by have := HA.out; omega
  have HAT := Lib.hid (show ((at_.toNat : Nat) : Int) = at_ by have := HA.out; omega)
  have HW9 := Lib.hid (HS9.out.write HS9.out.nums.s4 at_.toNat (by have := HA.out; omega) (by omega) (by rw [row5_len _ _ _ (by rw [← HD.out]; exact HS.out)]; omega))
  rw [HAT.out] at HW9
  go_wp2_with fail
  clear hc ha32
  refine HW9.out.mono ?_
  rintro e w10 ⟨rfl, hs10⟩
  have HA0 : Hid (SS w w.heap.size w1.heap.size w3.heap.size p0 p1 p2 p3 p4 p5 (row6 at_.toNat kind.toNat seq s.data.toList) w10) := Lib.hid hs10
  have HL6 := Lib.hid (row6_len at_.toNat kind.toNat seq s.data.toList (by rw [← HD.out]; exact HS.out))
  clear hs10 HW9
  go_wp2_with fail
  have HSm := Lib.hid (fun (W : World) (h : SS w w.heap.size w1.heap.size w3.heap.size p0 p1 p2 p3 p4 p5 (row6 at_.toNat kind.toNat seq s.data.toList) W) => sumOf_any w1.heap.size _ W (hE.below h.below hw) h.at_ HL6.out)
  have HWr := Lib.hid (fun (W : World) (h : SS w w.heap.size w1.heap.size w3.heap.size p0 p1 p2 p3 p4 p5 (row6 at_.toNat kind.toNat seq s.data.toList) W) => h.write h.nums.s5 (crcV ((row6 at_.toNat kind.toNat seq s.data.toList).take 124)) (crcV_lt _) (by omega) (by rw [HL6.out]; omega))
  have HSD := Lib.hid (fun (W : World) (h : W.cell? ⟨w3.heap.size, 10, none⟩ = some (.func (.func 55) #[] #[.pointer (some ⟨p5, 0, none⟩)]) ∧ Hid (SSx w w.heap.size w1.heap.size w3.heap.size p0 p1 p2 p3 p4 p5 W)) => (show W.drew.cell? ⟨w3.heap.size, 10, none⟩ = some (.func (.func 55) #[] #[.pointer (some ⟨p5, 0, none⟩)]) ∧ Hid (SSx w w.heap.size w1.heap.size w3.heap.size p0 p1 p2 p3 p4 p5 W.drew) from ⟨h.1, Lib.hid (h.2.out.elim fun l q => ⟨l, q.drew⟩)⟩))
  have HSS := Lib.hid (fun (W : World) (l : List UInt8) (h : SS w w.heap.size w1.heap.size w3.heap.size p0 p1 p2 p3 p4 p5 l W) => (show W.cell? ⟨w3.heap.size, 10, none⟩ = some (.func (.func 55) #[] #[.pointer (some ⟨p5, 0, none⟩)]) ∧ Hid (SSx w w.heap.size w1.heap.size w3.heap.size p0 p1 p2 p3 p4 p5 W) from ⟨h.blk.cell 10 _ rfl, Lib.hid ⟨l, h⟩⟩))
  have HS0 := Lib.hid (HSS.out _ _ HA0.out)
  go_region_held3 (fun W => W.cell? ⟨w3.heap.size, 10, none⟩ = some (.func (.func 55) #[] #[.pointer (some ⟨p5, 0, none⟩)]) ∧ Hid (SSx w w.heap.size w1.heap.size w3.heap.size p0 p1 p2 p3 p4 p5 W)) (first | assumption | exact HS0.out | exact HSD.out _ (by assumption) | exact HSD.out _ HS0.out) ((first | (go_at_call 29; (with_reducible refine (HSm.out _ ?hs).mono ?_); (case hs => first | exact HA0.out | exact HA0.out.drew); rintro e wz ⟨rfl, hbz⟩; replace HA0 := (by first | exact Lib.hid (HA0.out.more hbz) | exact Lib.hid (HA0.out.drew.more hbz)); have hSz := HSS.out _ _ HA0.out; clear hbz) | ((with_reducible refine (HWr.out _ ?hs).mono ?_); (case hs => first | exact HA0.out | exact HA0.out.drew); rintro e wy ⟨rfl, hs11⟩; have HS11 : Hid (SS w w.heap.size w1.heap.size w3.heap.size p0 p1 p2 p3 p4 p5 (row7 at_.toNat kind.toNat seq s.data.toList) wy) := Lib.hid hs11; have hSy := HSS.out _ _ HS11.out; clear hs11) | fail))
  have HL7 := Lib.hid (row7_len at_.toNat kind.toNat seq s.data.toList (by rw [← HD.out]; exact HS.out))
  have hld := D.run_loadS_block (s := mkS (row7 at_.toNat kind.toNat seq s.data.toList)) (show wy.heap[w1.heap.size]? = some (.cells (mkS (row7 at_.toNat kind.toNat seq s.data.toList)).A 27 (0, 0)) by
    have := HS11.out.at_
    unfold BAt at this
    rw [this]; unfold D.Sec.A D.Sec.cs; rw [mkS_l HL7.out]; rfl)
  have hst := D.run_storeS_block HS11.out.res (mkS (row7 at_.toNat kind.toNat seq s.data.toList))
  have HFR := Lib.hid (setRow_heap wy w.heap.size _ (mkS (row7 at_.toNat kind.toNat seq s.data.toList)).A _ _ HS11.out.res)
  go_wp2
  have hv : sealV at_ kind seq s.data.toList = mkS (row7 at_.toNat kind.toNat seq s.data.toList) := by unfold sealV; rw [if_pos HE.out]
  exact bodyPost_ret (bodyRet_sec2 rfl rfl rfl HFR.out) rfl ⟨by rw [hv, HE.out]; rfl, HS11.out.below.trans ((Kept.setRow (X := fun k => k = w.heap.size) (Kept.refl _ wy) w.heap.size rfl _).toBelow HS11.out.below.size (fun k e => by omega))⟩

theorem seal_any (at_ kind : Int) (seq : Nat) (s : ByteArray) (w : World) (hE : Env w) (hw : 1 ≤ w.heap.size) (hq : seq < 4294967296) :
    Calls Tryd.prog 11 #[.int .i64 at_, .int .i64 kind, .int .u32 seq, .string s] w (SealP at_ kind seq s.data.toList w) := by
  by_cases h1 : at_ < 0 ∨ 255 < at_
  · exact seal_bad1 _ _ _ _ _ h1
  by_cases h2 : kind < 1
  · exact seal_bad2 _ _ _ _ _ (by omega) h2
  by_cases h3 : 255 < kind
  · exact seal_bad3 _ _ _ _ _ (by omega) h3
  by_cases h4 : 112 < s.size
  · exact seal_bad4 _ _ _ _ _ (by omega) (by omega) h4
  exact seal_good _ _ _ _ _ hE hw (by omega) (by omega) hq (by omega)
end Go.Proofs.YtbaibmndmcdfdaaDoor.F
