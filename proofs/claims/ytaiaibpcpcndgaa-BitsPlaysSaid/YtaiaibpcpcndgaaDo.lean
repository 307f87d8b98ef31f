/- The law's do; BitsPlays. -/
import Derived.Test.YtaiaibpcpcndgaaRef4
import Derived.Test.YtaiaibpcpcndgaaRef3
import Derived.Test.YtaiaibpcpcndgaaRunM
import Derived.Test.YtaiaibpcpcndgaaAwake
import Derived.Test.YtaiaibpcpcndgaaPairs
namespace Go.Proofs.Ytaiaibpcpcndgaa
open Go.RowKit

theorem setL_len (L : List Bool) (i : Int) (x : Bool) : (setL L i x).length = L.length := by unfold setL; split <;> simp
theorem fillL_len (L : List Bool) (a m : Int) (x : Bool) : (fillL L a m x).length = L.length := by unfold fillL; split <;> simp [fillTo_len]
theorem notLen (L : List Bool) : (notL L).length = L.length := partK_len _ _ _

/-- A map and the list of its bits, in blocks of their own from B on. -/
structure St (B : Nat) (w : World) (b : Nat) (v : Value) (L : List Bool) : Prop where
  map : MapAt w b L
  list : BoolsAt w v L
  sep : ∀ g o n c, v = .slice (some ⟨g, o, none⟩) n c → g ≠ b
  base : B ≤ b
theorem St.below {B : Nat} {w w' : World} {b : Nat} {v : Value} {L : List Bool} (h : St B w b v L) (hb : Below w.heap.size w w') : St B w' b v L :=
  ⟨h.map.below hb h.map.lt, h.list.below hb, h.sep, h.base⟩
def DoTo (B n : Nat) (w : World) (e : Ending) (w' : World) : Prop :=
  ∃ b v L, e = .returned (.tuple #[.pointer (some ⟨b, 0, none⟩), v, .bool true]) ∧ St B w' b v L ∧ L.length = n ∧ Below B w w'
theorem doTo_same {B n : Nat} {w w' : World} {b : Nat} {v : Value} {L : List Bool} (hn : L.length = n) (h : St B w' b v L) (hb : Below B w w') : DoTo B n w (.returned (.tuple #[.pointer (some ⟨b, 0, none⟩), v, .bool true])) w' := ⟨b, v, L, rfl, h, hn, hb⟩
/-- A map was changed, and a list was made of the old one. -/
theorem doTo_upd {B n : Nat} {w w0 w1 w2 : World} {b : Nat} {v t : Value} {L M : List Bool} (hn : M.length = n) (h : St B w0 b v L) (hb0 : Below B w w0) (hB : B ≤ w0.heap.size) (hb1 : Below w0.heap.size w0 w1) (ht : BoolsAt w1 t M) (hf : t = v ∨ ∀ g o n c, t = .slice (some ⟨g, o, none⟩) n c → w0.heap.size ≤ g) (hu : Upd b M w1 w2) :
    DoTo B n w (.returned (.tuple #[.pointer (some ⟨b, 0, none⟩), t, .bool true])) w2 := by
  have hsep : ∀ g o n c, t = .slice (some ⟨g, o, none⟩) n c → g ≠ b := by
    rcases hf with rfl | hf
    · exact h.sep
    · intro g o n c e
      have := hf g o n c e
      have := h.map.lt
      omega
  refine ⟨b, t, M, rfl, ⟨hu.map, ht.kept hu.kept (fun g o ⟨m, c, e⟩ => hsep g o m c e), hsep, h.base⟩, hn, ?_⟩
  have hb := h.base
  exact (hb0.trans (hb1.mono hB)).trans (hu.kept.toBelow (by have := hb1.size; omega) (fun k e => by omega))

/-- The struct that do is given, in memory. -/
def CallAt (w : World) (p : Nat) (wh : Nat) (i n : Int) (x : Bool) : Prop := w.heap[p]? = some (.cells #[.int .u8 wh, .int .i64 i, .int .i64 n, .bool x] 33 (0, 0))
theorem CallAt.cells {w : World} {p wh : Nat} {i n : Int} {x : Bool} (h : CallAt w p wh i n x) : w.cell? ⟨p, 0, none⟩ = some (.int .u8 wh) ∧ w.cell? ⟨p, 1, none⟩ = some (.int .i64 i) ∧ w.cell? ⟨p, 2, none⟩ = some (.int .i64 n) ∧ w.cell? ⟨p, 3, none⟩ = some (.bool x) := by
  unfold CallAt at h
  simp [World.cell?, h]
theorem CallAt.lt {w : World} {p wh : Nat} {i n : Int} {x : Bool} (h : CallAt w p wh i n x) : p < w.heap.size := (Array.getElem?_eq_some_iff.1 h).1
theorem CallAt.below {w w' : World} {p wh : Nat} {i n : Int} {x : Bool} (h : CallAt w p wh i n x) (hb : Below w.heap.size w w') : CallAt w' p wh i n x := (hb.block p h.lt).trans h

set_option maxHeartbeats 2000000 in
set_option maxRecDepth 100000 in
theorem do_0 (B b : Nat) (v : Value) (L : List Bool) (wh : Nat) (i n : Int) (x : Bool) (w : World) (h : St B w b v L) (hL : L.length ≤ 4096) (hB : B ≤ w.heap.size) (hwh : wh ≤ 255) (hk : wh % 9 = 0)
    (i0 : -9223372036854775808 ≤ i) (i1 : i ≤ 9223372036854775807) (n0 : -9223372036854775808 ≤ n) (n1 : n ≤ 9223372036854775807) :
    Calls Try.prog 13 #[.pointer (some ⟨b, 0, none⟩), v, .agg #[.int .u8 wh, .int .i64 i, .int .i64 n, .bool x]] w (DoTo B L.length w) := by
  have hkI : (wh : Int) % 9 = 0 := by omega
  have hkT : (wh : Int).tmod 9 = 0 := by rw [Int.tmod_eq_emod_of_nonneg (by omega)]; exact hkI
  obtain ⟨w0, hw0⟩ : ∃ w0, w.alloc (.cells #[.int .u8 wh, .int .i64 i, .int .i64 n, .bool x] 33) = w0 := ⟨_, rfl⟩
  have HB0 : Hid (Below w.heap.size w w0) := Lib.hid (by rw [← hw0]; exact (Below.refl _ _).alloc (Nat.le_refl _) _)
  have HCA : Hid (CallAt w0 w.heap.size wh i n x) := Lib.hid (by rw [← hw0]; exact heap_alloc_new w _)
  have HS := Lib.hid (h.below HB0.out)
  have HBB : Hid (Below B w w0) := Lib.hid (HB0.out.mono hB)
  have hB0 : B ≤ w0.heap.size := Nat.le_trans hB HB0.out.size
  obtain ⟨c0, c1, c2, c3⟩ := HCA.out.cells
  clear h hk HB0
  go_enter Try.func13, Try.ntmps13
  go_wp2_with fail
  (try rw [hw0])
  clear hw0
  refine (refSet_any v L i x w0 HS.out.list hL).mono ?_
  rintro e w1 ⟨t, rfl, ht, hB1, hf⟩
  obtain ⟨e0, e1, e2, e3⟩ := (HCA.out.below hB1).cells
  have HT := Lib.hid ht
  have HF := Lib.hid hf
  have HB1 := Lib.hid hB1
  clear c0 c1 c2 c3 ht hf hB1
  go_wp2_with fail
  refine (set_any b L i x w1 (HS.out.map.below HB1.out HS.out.map.lt) i0 i1).mono ?_
  rintro e w2 ⟨rfl, hu⟩
  go_wp2_with fail
  go_ret3
  exact doTo_upd (setL_len _ _ _) HS.out HBB.out hB0 HB1.out HT.out HF.out hu

set_option maxHeartbeats 2000000 in
set_option maxRecDepth 100000 in
theorem do_1 (B b : Nat) (v : Value) (L : List Bool) (wh : Nat) (i n : Int) (x : Bool) (w : World) (h : St B w b v L) (hL : L.length ≤ 4096) (hB : B ≤ w.heap.size) (hwh : wh ≤ 255) (hk : wh % 9 = 1)
    (i0 : -9223372036854775808 ≤ i) (i1 : i ≤ 9223372036854775807) (n0 : -9223372036854775808 ≤ n) (n1 : n ≤ 9223372036854775807) :
    Calls Try.prog 13 #[.pointer (some ⟨b, 0, none⟩), v, .agg #[.int .u8 wh, .int .i64 i, .int .i64 n, .bool x]] w (DoTo B L.length w) := by
  have hkI : (wh : Int) % 9 = 1 := by omega
  have hkT : (wh : Int).tmod 9 = 1 := by rw [Int.tmod_eq_emod_of_nonneg (by omega)]; exact hkI
  obtain ⟨w0, hw0⟩ : ∃ w0, w.alloc (.cells #[.int .u8 wh, .int .i64 i, .int .i64 n, .bool x] 33) = w0 := ⟨_, rfl⟩
  have HB0 : Hid (Below w.heap.size w w0) := Lib.hid (by rw [← hw0]; exact (Below.refl _ _).alloc (Nat.le_refl _) _)
  have HCA : Hid (CallAt w0 w.heap.size wh i n x) := Lib.hid (by rw [← hw0]; exact heap_alloc_new w _)
  have HS := Lib.hid (h.below HB0.out)
  have HBB : Hid (Below B w w0) := Lib.hid (HB0.out.mono hB)
  have hB0 : B ≤ w0.heap.size := Nat.le_trans hB HB0.out.size
  obtain ⟨c0, c1, c2, c3⟩ := HCA.out.cells
  clear h hk HB0
  go_enter Try.func13, Try.ntmps13
  go_wp2_with fail
  (try rw [hw0])
  clear hw0
  refine (refGet_any v L i w0 HS.out.list hL).mono ?_
  rintro e w' ⟨rfl, rfl⟩
  go_wp2_with fail
  refine (refSet_any v L i _ w0 HS.out.list hL).mono ?_
  rintro e w1 ⟨t, rfl, ht, hB1, hf⟩
  obtain ⟨e0, e1, e2, e3⟩ := (HCA.out.below hB1).cells
  have HT := Lib.hid ht
  have HF := Lib.hid hf
  have HB1 := Lib.hid hB1
  clear c0 c1 c2 c3 ht hf hB1
  go_wp2_with fail
  refine (turn_any b L i w1 (HS.out.map.below HB1.out HS.out.map.lt) i0 i1).mono ?_
  rintro e w2 ⟨rfl, hu⟩
  go_wp2_with fail
  go_ret3
  exact doTo_upd (setL_len _ _ _) HS.out HBB.out hB0 HB1.out HT.out HF.out hu

set_option maxHeartbeats 2000000 in
set_option maxRecDepth 100000 in
theorem do_2 (B b : Nat) (v : Value) (L : List Bool) (wh : Nat) (i n : Int) (x : Bool) (w : World) (h : St B w b v L) (hL : L.length ≤ 4096) (hB : B ≤ w.heap.size) (hwh : wh ≤ 255) (hk : wh % 9 = 2)
    (i0 : -9223372036854775808 ≤ i) (i1 : i ≤ 9223372036854775807) (n0 : -9223372036854775808 ≤ n) (n1 : n ≤ 9223372036854775807) :
    Calls Try.prog 13 #[.pointer (some ⟨b, 0, none⟩), v, .agg #[.int .u8 wh, .int .i64 i, .int .i64 n, .bool x]] w (DoTo B L.length w) := by
  have hkI : (wh : Int) % 9 = 2 := by omega
  have hkT : (wh : Int).tmod 9 = 2 := by rw [Int.tmod_eq_emod_of_nonneg (by omega)]; exact hkI
  obtain ⟨w0, hw0⟩ : ∃ w0, w.alloc (.cells #[.int .u8 wh, .int .i64 i, .int .i64 n, .bool x] 33) = w0 := ⟨_, rfl⟩
  have HB0 : Hid (Below w.heap.size w w0) := Lib.hid (by rw [← hw0]; exact (Below.refl _ _).alloc (Nat.le_refl _) _)
  have HCA : Hid (CallAt w0 w.heap.size wh i n x) := Lib.hid (by rw [← hw0]; exact heap_alloc_new w _)
  have HS := Lib.hid (h.below HB0.out)
  have HBB : Hid (Below B w w0) := Lib.hid (HB0.out.mono hB)
  have hB0 : B ≤ w0.heap.size := Nat.le_trans hB HB0.out.size
  obtain ⟨c0, c1, c2, c3⟩ := HCA.out.cells
  clear h hk HB0
  go_enter Try.func13, Try.ntmps13
  go_wp2_with fail
  (try rw [hw0])
  clear hw0
  refine (refFill_any v L i n x w0 HS.out.list hL i0 i1 n0 n1).mono ?_
  rintro e w1 ⟨t, rfl, ht, hB1, hf⟩
  obtain ⟨e0, e1, e2, e3⟩ := (HCA.out.below hB1).cells
  have HT := Lib.hid ht
  have HF := Lib.hid hf
  have HB1 := Lib.hid hB1
  clear c0 c1 c2 c3 ht hf hB1
  go_wp2_with fail
  refine (fill_any b L i n x w1 (HS.out.map.below HB1.out HS.out.map.lt) i0 i1 n0 n1).mono ?_
  rintro e w2 ⟨rfl, hu⟩
  go_wp2_with fail
  go_ret3
  exact doTo_upd (fillL_len _ _ _ _) HS.out HBB.out hB0 HB1.out HT.out HF.out hu

set_option maxHeartbeats 2000000 in
set_option maxRecDepth 100000 in
theorem do_3 (B b : Nat) (v : Value) (L : List Bool) (wh : Nat) (i n : Int) (x : Bool) (w : World) (h : St B w b v L) (hL : L.length ≤ 4096) (hB : B ≤ w.heap.size) (hwh : wh ≤ 255) (hk : wh % 9 = 3)
    (i0 : -9223372036854775808 ≤ i) (i1 : i ≤ 9223372036854775807) (n0 : -9223372036854775808 ≤ n) (n1 : n ≤ 9223372036854775807) :
    Calls Try.prog 13 #[.pointer (some ⟨b, 0, none⟩), v, .agg #[.int .u8 wh, .int .i64 i, .int .i64 n, .bool x]] w (DoTo B L.length w) := by
  have hkI : (wh : Int) % 9 = 3 := by omega
  have hkT : (wh : Int).tmod 9 = 3 := by rw [Int.tmod_eq_emod_of_nonneg (by omega)]; exact hkI
  obtain ⟨w0, hw0⟩ : ∃ w0, w.alloc (.cells #[.int .u8 wh, .int .i64 i, .int .i64 n, .bool x] 33) = w0 := ⟨_, rfl⟩
  have HB0 : Hid (Below w.heap.size w w0) := Lib.hid (by rw [← hw0]; exact (Below.refl _ _).alloc (Nat.le_refl _) _)
  have HCA : Hid (CallAt w0 w.heap.size wh i n x) := Lib.hid (by rw [← hw0]; exact heap_alloc_new w _)
  have HS := Lib.hid (h.below HB0.out)
  have HBB : Hid (Below B w w0) := Lib.hid (HB0.out.mono hB)
  have hB0 : B ≤ w0.heap.size := Nat.le_trans hB HB0.out.size
  obtain ⟨c0, c1, c2, c3⟩ := HCA.out.cells
  clear h hk HB0
  go_enter Try.func13, Try.ntmps13
  go_wp2_with fail
  (try rw [hw0])
  clear hw0
  refine (count_any b L i n w0 HS.out.map i0 i1 n0 n1).mono ?_
  rintro e w' ⟨rfl, rfl⟩
  go_wp2_with fail
  refine (refCount_any v L i n w0 HS.out.list hL i0 i1 n0 n1).mono ?_
  rintro e w' ⟨rfl, rfl⟩
  go_wp2_with fail
  go_ret3
  exact doTo_same rfl HS.out HBB.out

set_option maxHeartbeats 2000000 in
set_option maxRecDepth 100000 in
theorem do_4 (B b : Nat) (v : Value) (L : List Bool) (wh : Nat) (i n : Int) (x : Bool) (w : World) (h : St B w b v L) (hL : L.length ≤ 4096) (hB : B ≤ w.heap.size) (hwh : wh ≤ 255) (hk : wh % 9 = 4)
    (i0 : -9223372036854775808 ≤ i) (i1 : i ≤ 9223372036854775807) (n0 : -9223372036854775808 ≤ n) (n1 : n ≤ 9223372036854775807) :
    Calls Try.prog 13 #[.pointer (some ⟨b, 0, none⟩), v, .agg #[.int .u8 wh, .int .i64 i, .int .i64 n, .bool x]] w (DoTo B L.length w) := by
  have hkI : (wh : Int) % 9 = 4 := by omega
  have hkT : (wh : Int).tmod 9 = 4 := by rw [Int.tmod_eq_emod_of_nonneg (by omega)]; exact hkI
  obtain ⟨w0, hw0⟩ : ∃ w0, w.alloc (.cells #[.int .u8 wh, .int .i64 i, .int .i64 n, .bool x] 33) = w0 := ⟨_, rfl⟩
  have HB0 : Hid (Below w.heap.size w w0) := Lib.hid (by rw [← hw0]; exact (Below.refl _ _).alloc (Nat.le_refl _) _)
  have HCA : Hid (CallAt w0 w.heap.size wh i n x) := Lib.hid (by rw [← hw0]; exact heap_alloc_new w _)
  have HS := Lib.hid (h.below HB0.out)
  have HBB : Hid (Below B w w0) := Lib.hid (HB0.out.mono hB)
  have hB0 : B ≤ w0.heap.size := Nat.le_trans hB HB0.out.size
  obtain ⟨c0, c1, c2, c3⟩ := HCA.out.cells
  clear h hk HB0
  go_enter Try.func13, Try.ntmps13
  go_wp2_with fail
  (try rw [hw0])
  clear hw0
  refine (next_any b L i x w0 HS.out.map i0 i1).mono ?_
  rintro e w' ⟨rfl, rfl⟩
  go_wp2_with fail
  refine (refNext_any v L i x w0 HS.out.list hL).mono ?_
  rintro e w' ⟨rfl, rfl⟩
  go_wp2_with fail
  go_ret3
  exact doTo_same rfl HS.out HBB.out

set_option maxHeartbeats 2000000 in
set_option maxRecDepth 100000 in
theorem do_5 (B b : Nat) (v : Value) (L : List Bool) (wh : Nat) (i n : Int) (x : Bool) (w : World) (h : St B w b v L) (hL : L.length ≤ 4096) (hB : B ≤ w.heap.size) (hwh : wh ≤ 255) (hk : wh % 9 = 5)
    (i0 : -9223372036854775808 ≤ i) (i1 : i ≤ 9223372036854775807) (n0 : -9223372036854775808 ≤ n) (n1 : n ≤ 9223372036854775807) :
    Calls Try.prog 13 #[.pointer (some ⟨b, 0, none⟩), v, .agg #[.int .u8 wh, .int .i64 i, .int .i64 n, .bool x]] w (DoTo B L.length w) := by
  have hkI : (wh : Int) % 9 = 5 := by omega
  have hkT : (wh : Int).tmod 9 = 5 := by rw [Int.tmod_eq_emod_of_nonneg (by omega)]; exact hkI
  obtain ⟨w0, hw0⟩ : ∃ w0, w.alloc (.cells #[.int .u8 wh, .int .i64 i, .int .i64 n, .bool x] 33) = w0 := ⟨_, rfl⟩
  have HB0 : Hid (Below w.heap.size w w0) := Lib.hid (by rw [← hw0]; exact (Below.refl _ _).alloc (Nat.le_refl _) _)
  have HCA : Hid (CallAt w0 w.heap.size wh i n x) := Lib.hid (by rw [← hw0]; exact heap_alloc_new w _)
  have HS := Lib.hid (h.below HB0.out)
  have HBB : Hid (Below B w w0) := Lib.hid (HB0.out.mono hB)
  have hB0 : B ≤ w0.heap.size := Nat.le_trans hB HB0.out.size
  obtain ⟨c0, c1, c2, c3⟩ := HCA.out.cells
  clear h hk HB0
  go_enter Try.func13, Try.ntmps13
  go_wp2_with fail
  (try rw [hw0])
  clear hw0
  refine (last_any b L i x w0 HS.out.map i0 i1).mono ?_
  rintro e w' ⟨rfl, rfl⟩
  go_wp2_with fail
  refine (refLast_any v L i x w0 HS.out.list hL).mono ?_
  rintro e w' ⟨rfl, rfl⟩
  go_wp2_with fail
  go_ret3
  exact doTo_same rfl HS.out HBB.out

set_option maxHeartbeats 2000000 in
set_option maxRecDepth 100000 in
theorem do_6 (B b : Nat) (v : Value) (L : List Bool) (wh : Nat) (i n : Int) (x : Bool) (w : World) (h : St B w b v L) (hL : L.length ≤ 4096) (hB : B ≤ w.heap.size) (hwh : wh ≤ 255) (hk : wh % 9 = 6)
    (i0 : -9223372036854775808 ≤ i) (i1 : i ≤ 9223372036854775807) (n0 : -9223372036854775808 ≤ n) (n1 : n ≤ 9223372036854775807) :
    Calls Try.prog 13 #[.pointer (some ⟨b, 0, none⟩), v, .agg #[.int .u8 wh, .int .i64 i, .int .i64 n, .bool x]] w (DoTo B L.length w) := by
  have hkI : (wh : Int) % 9 = 6 := by omega
  have hkT : (wh : Int).tmod 9 = 6 := by rw [Int.tmod_eq_emod_of_nonneg (by omega)]; exact hkI
  obtain ⟨w0, hw0⟩ : ∃ w0, w.alloc (.cells #[.int .u8 wh, .int .i64 i, .int .i64 n, .bool x] 33) = w0 := ⟨_, rfl⟩
  have HB0 : Hid (Below w.heap.size w w0) := Lib.hid (by rw [← hw0]; exact (Below.refl _ _).alloc (Nat.le_refl _) _)
  have HCA : Hid (CallAt w0 w.heap.size wh i n x) := Lib.hid (by rw [← hw0]; exact heap_alloc_new w _)
  have HS := Lib.hid (h.below HB0.out)
  have HBB : Hid (Below B w w0) := Lib.hid (HB0.out.mono hB)
  have hB0 : B ≤ w0.heap.size := Nat.le_trans hB HB0.out.size
  obtain ⟨c0, c1, c2, c3⟩ := HCA.out.cells
  clear h hk HB0
  go_enter Try.func13, Try.ntmps13
  go_wp2_with fail
  (try rw [hw0])
  clear hw0
  refine (run_any b L i n x w0 HS.out.map i0 i1 n0 n1).mono ?_
  rintro e w' ⟨rfl, rfl⟩
  go_wp2_with fail
  refine (refRun_any v L i n x w0 HS.out.list hL n0 n1).mono ?_
  rintro e w' ⟨rfl, rfl⟩
  go_wp2_with fail
  go_ret3
  exact doTo_same rfl HS.out HBB.out

set_option maxHeartbeats 2000000 in
set_option maxRecDepth 100000 in
theorem do_7 (B b : Nat) (v : Value) (L : List Bool) (wh : Nat) (i n : Int) (x : Bool) (w : World) (h : St B w b v L) (hL : L.length ≤ 4096) (hB : B ≤ w.heap.size) (hwh : wh ≤ 255) (hk : wh % 9 = 7)
    (i0 : -9223372036854775808 ≤ i) (i1 : i ≤ 9223372036854775807) (n0 : -9223372036854775808 ≤ n) (n1 : n ≤ 9223372036854775807) :
    Calls Try.prog 13 #[.pointer (some ⟨b, 0, none⟩), v, .agg #[.int .u8 wh, .int .i64 i, .int .i64 n, .bool x]] w (DoTo B L.length w) := by
  have hkI : (wh : Int) % 9 = 7 := by omega
  have hkT : (wh : Int).tmod 9 = 7 := by rw [Int.tmod_eq_emod_of_nonneg (by omega)]; exact hkI
  obtain ⟨w0, hw0⟩ : ∃ w0, w.alloc (.cells #[.int .u8 wh, .int .i64 i, .int .i64 n, .bool x] 33) = w0 := ⟨_, rfl⟩
  have HB0 : Hid (Below w.heap.size w w0) := Lib.hid (by rw [← hw0]; exact (Below.refl _ _).alloc (Nat.le_refl _) _)
  have HCA : Hid (CallAt w0 w.heap.size wh i n x) := Lib.hid (by rw [← hw0]; exact heap_alloc_new w _)
  have HS := Lib.hid (h.below HB0.out)
  have HBB : Hid (Below B w w0) := Lib.hid (HB0.out.mono hB)
  have hB0 : B ≤ w0.heap.size := Nat.le_trans hB HB0.out.size
  obtain ⟨c0, c1, c2, c3⟩ := HCA.out.cells
  clear h hk HB0
  go_enter Try.func13, Try.ntmps13
  go_wp2_with fail
  (try rw [hw0])
  clear hw0
  refine (get_any b L i w0 HS.out.map i0 i1).mono ?_
  rintro e w' ⟨rfl, rfl⟩
  go_wp2_with fail
  refine (refGet_any v L i w0 HS.out.list hL).mono ?_
  rintro e w' ⟨rfl, rfl⟩
  go_wp2_with fail
  go_ret3
  exact doTo_same rfl HS.out HBB.out

set_option maxHeartbeats 2000000 in
set_option maxRecDepth 100000 in
theorem do_8 (B b : Nat) (v : Value) (L : List Bool) (wh : Nat) (i n : Int) (x : Bool) (w : World) (h : St B w b v L) (hL : L.length ≤ 4096) (hB : B ≤ w.heap.size) (hwh : wh ≤ 255) (hk : wh % 9 = 8)
    (i0 : -9223372036854775808 ≤ i) (i1 : i ≤ 9223372036854775807) (n0 : -9223372036854775808 ≤ n) (n1 : n ≤ 9223372036854775807) :
    Calls Try.prog 13 #[.pointer (some ⟨b, 0, none⟩), v, .agg #[.int .u8 wh, .int .i64 i, .int .i64 n, .bool x]] w (DoTo B L.length w) := by
  have hkI : (wh : Int) % 9 = 8 := by omega
  have hkT : (wh : Int).tmod 9 = 8 := by rw [Int.tmod_eq_emod_of_nonneg (by omega)]; exact hkI
  obtain ⟨w0, hw0⟩ : ∃ w0, w.alloc (.cells #[.int .u8 wh, .int .i64 i, .int .i64 n, .bool x] 33) = w0 := ⟨_, rfl⟩
  have HB0 : Hid (Below w.heap.size w w0) := Lib.hid (by rw [← hw0]; exact (Below.refl _ _).alloc (Nat.le_refl _) _)
  have HCA : Hid (CallAt w0 w.heap.size wh i n x) := Lib.hid (by rw [← hw0]; exact heap_alloc_new w _)
  have HS := Lib.hid (h.below HB0.out)
  have HBB : Hid (Below B w w0) := Lib.hid (HB0.out.mono hB)
  have hB0 : B ≤ w0.heap.size := Nat.le_trans hB HB0.out.size
  obtain ⟨c0, c1, c2, c3⟩ := HCA.out.cells
  clear h hk HB0
  go_enter Try.func13, Try.ntmps13
  go_wp2_with fail
  (try rw [hw0])
  clear hw0
  refine (not_any b L w0 HS.out.map).mono ?_
  rintro e w1 ⟨r, rfl, hr, hm, hB1⟩
  have HM := Lib.hid hm
  have HB1 := Lib.hid hB1
  have HS1 := Lib.hid (HS.out.below hB1)
  clear c0 c1 c2 c3 hm hB1
  go_wp2_with fail
  refine (refNot_any v L w1 HS1.out.list hL).mono ?_
  rintro e w2 ⟨t, rfl, hrow, hB2⟩
  have HM2 := Lib.hid (HM.out.below hB2 HM.out.lt)
  have HS2 := Lib.hid (HS1.out.below hB2)
  have HT := Lib.hid (boolsAt_of_row hrow)
  have HG := Lib.hid (show ∀ g o n c, t = .slice (some ⟨g, o, none⟩) n c → w1.heap.size ≤ g from fun g o n c e => by
    subst e
    rcases hrow.2 with ⟨h1, _⟩ | ⟨g', cap, cur, h1, hg, _⟩
    · cases h1
    · cases h1; exact hg)
  have HB2 := Lib.hid hB2
  clear hrow hB2
  have Q1 := Lib.hid (same_any r _ _ t w2 HM2.out HT.out (by rw [notLen]; exact hL))
  rw [beq_self_eq_true] at Q1
  go_wp2_with fail
  refine Q1.out.mono ?_
  rintro e w3 ⟨rfl, hB3⟩
  have HB3 := Lib.hid hB3
  have HS3 := Lib.hid (HS2.out.below hB3)
  have HM3 := Lib.hid (HM2.out.below hB3 HM2.out.lt)
  have HT3 := Lib.hid (HT.out.below hB3)
  clear hB3
  have Q2 := Lib.hid (same_any b _ _ v w3 HS3.out.map HS3.out.list hL)
  rw [beq_self_eq_true] at Q2
  go_wp2_with fail
  refine Q2.out.mono ?_
  rintro e w4 ⟨rfl, hB4⟩
  go_wp2_with fail
  go_ret3
  have s1 := HB1.out.size; have s2 := HB2.out.size; have s3 := HB3.out.size; have lr := HM.out.lt
  exact doTo_same (notLen L) ⟨HM3.out.below hB4 HM3.out.lt, HT3.out.below hB4, fun g o m c e => by have := HG.out g o m c e; omega, by omega⟩
    (HBB.out.trans ((HB1.out.mono hB0).trans ((HB2.out.mono (by omega)).trans ((HB3.out.mono (by omega)).trans (hB4.mono (by omega))))))

theorem do_any (B b : Nat) (v : Value) (L : List Bool) (wh : Nat) (i n : Int) (x : Bool) (w : World) (h : St B w b v L) (hL : L.length ≤ 4096) (hB : B ≤ w.heap.size) (hwh : wh ≤ 255)
    (i0 : -9223372036854775808 ≤ i) (i1 : i ≤ 9223372036854775807) (n0 : -9223372036854775808 ≤ n) (n1 : n ≤ 9223372036854775807) :
    Calls Try.prog 13 #[.pointer (some ⟨b, 0, none⟩), v, .agg #[.int .u8 wh, .int .i64 i, .int .i64 n, .bool x]] w (DoTo B L.length w) := by
  have hc : wh % 9 = 0 ∨ wh % 9 = 1 ∨ wh % 9 = 2 ∨ wh % 9 = 3 ∨ wh % 9 = 4 ∨ wh % 9 = 5 ∨ wh % 9 = 6 ∨ wh % 9 = 7 ∨ wh % 9 = 8 := by omega
  rcases hc with hk | hk | hk | hk | hk | hk | hk | hk | hk
  · exact do_0 B b v L wh i n x w h hL hB hwh hk i0 i1 n0 n1
  · exact do_1 B b v L wh i n x w h hL hB hwh hk i0 i1 n0 n1
  · exact do_2 B b v L wh i n x w h hL hB hwh hk i0 i1 n0 n1
  · exact do_3 B b v L wh i n x w h hL hB hwh hk i0 i1 n0 n1
  · exact do_4 B b v L wh i n x w h hL hB hwh hk i0 i1 n0 n1
  · exact do_5 B b v L wh i n x w h hL hB hwh hk i0 i1 n0 n1
  · exact do_6 B b v L wh i n x w h hL hB hwh hk i0 i1 n0 n1
  · exact do_7 B b v L wh i n x w h hL hB hwh hk i0 i1 n0 n1
  · exact do_8 B b v L wh i n x w h hL hB hwh hk i0 i1 n0 n1
end Go.Proofs.Ytaiaibpcpcndgaa
