/- Blocks that hold a sector; numbers at a place: numberIn, write, read. -/
import Derived.Test.YtbaibmndmcdfdaaDoorCrc
import Derived.Test.YtbaibmndmcdfdaaDoorDFill
import Derived.Test.YtbaibmndmcdfdaaDoorFVal
import Derived.Deep.RegionHeld3
import Derived.Deep.DrawnRows
import Derived.StillTailTactics
namespace Go.Proofs.YtbaibmndmcdfdaaDoor.F
open Go.RowKit
open D (Sec Kept)

/-! ### a block that holds bytes -/
def BAt (W : World) (b : Nat) (l : List UInt8) : Prop := W.heap[b]? = some (.cells (Lib.byteCells l).toArray 27 (0, 0))
theorem BAt.lt {W : World} {b : Nat} {l : List UInt8} (h : BAt W b l) : b < W.heap.size := (Array.getElem?_eq_some_iff.1 h).1
theorem BAt.cell {W : World} {b : Nat} {l : List UInt8} (h : BAt W b l) (k : Nat) (hk : k < l.length) : W.cell? ⟨b, k, none⟩ = some (.int .u8 l[k].toNat) := by
  unfold World.cell?
  rw [show W.heap[b]? = _ from h]
  simp [Lib.byteCells, hk]
theorem BAt.frozen {W : World} {b : Nat} {l : List UInt8} (h : BAt W b l) (k : Nat) : W.frozen? ⟨b, k, none⟩ = false := by
  unfold World.frozen?
  rw [show W.heap[b]? = _ from h]
  simp
theorem BAt.set {W : World} {b : Nat} {l : List UInt8} (h : BAt W b l) (k : Nat) (c : UInt8) : BAt (W.setCell ⟨b, k, none⟩ (.int .u8 c.toNat)) b (l.set k c) := by
  have := (Put.one b k (.int .u8 c.toNat) W).block h
  unfold BAt
  rw [this]
  simp [Lib.byteCells, List.map_set]
theorem BAt.below {A B : World} {b n : Nat} {l : List UInt8} (h : BAt A b l) (hb : Below n A B) (hn : b < n) : BAt B b l := (hb.block b hn).trans h
theorem BAt.alloc {W : World} {b : Nat} {l : List UInt8} (h : BAt W b l) (ob : Obj) : BAt (W.alloc ob) b l := (((Below.refl W.heap.size W).alloc (Nat.le_refl _) ob).block b h.lt).trans h
theorem BAt.heap' {A B : World} {b : Nat} {l : List UInt8} (h : BAt A b l) (e : B.heap = A.heap) : BAt B b l := by unfold BAt; rw [e]; exact h
theorem BAt.kept {X : Nat → Prop} {A B : World} {b : Nat} {l : List UInt8} (h : BAt A b l) (hk : Kept X A B) (hx : ¬ X b) : BAt B b l := (hk.block b h.lt hx).trans h
theorem BAt.other {W : World} {b g o : Nat} {v : Value} {l : List UInt8} (h : BAt W b l) (hne : b ≠ g) : BAt (W.setCell ⟨g, o, none⟩ v) b l := ((Put.one g o v W).other b hne).trans h
/-- A part of it as a slice. -/
theorem BAt.part {W : World} {b : Nat} {l : List UInt8} (h : BAt W b l) (o n c : Nat) (hn : o + n ≤ l.length) : BytesAt W (.slice (some ⟨b, o, none⟩) n c) ((l.drop o).take n) := by
  have hl : ((l.drop o).take n).length = n := by simp; omega
  refine .inr ⟨b, o, c, by rw [hl], h.lt, fun k hk => ?_⟩
  rw [h.cell (o + k) (by omega)]
  simp

/-- A block of one cell that holds a slice. -/
def SlAt (W : World) (p : Nat) (v : Value) : Prop := W.heap[p]? = some (.cells #[v] 65 (0, 0))
theorem SlAt.lt {W : World} {p : Nat} {v : Value} (h : SlAt W p v) : p < W.heap.size := (Array.getElem?_eq_some_iff.1 h).1
theorem SlAt.cell {W : World} {p : Nat} {v : Value} (h : SlAt W p v) : W.cell? ⟨p, 0, none⟩ = some v := by
  unfold World.cell?
  rw [show W.heap[p]? = _ from h]; simp
theorem SlAt.kept {X : Nat → Prop} {A B : World} {p : Nat} {v : Value} (h : SlAt A p v) (hk : Kept X A B) (hx : ¬ X p) : SlAt B p v := (hk.block p h.lt hx).trans h
theorem SlAt.below {A B : World} {p n : Nat} {v : Value} (h : SlAt A p v) (hb : Below n A B) (hn : p < n) : SlAt B p v := (hb.block p hn).trans h

/-- A number: its two functions, over the cell of its slice. -/
def wrF (p : Nat) : Value := .func (.func 55) #[] #[.pointer (some ⟨p, 0, none⟩)]
def rdF (p : Nat) : Value := .func (.func 56) #[] #[.pointer (some ⟨p, 0, none⟩)]

theorem run_store_func (P : Program) (w : World) (a : Addr) (m : Mode) (f : Fn) (x y : Array Value) : (store a (.func f x y) m).run P w = stored P w a (.func f x y) m := run_store P w a _ m rfl
theorem run_store_nilFunc (P : Program) (w : World) (a : Addr) (m : Mode) : (store a .nilFunc m).run P w = stored P w a .nilFunc m := run_store P w a _ m rfl
attribute [local go_sem] run_store_func run_store_nilFunc
theorem szNum : (Tryd.prog.info? 70).map (·.size) = some 2 := by kernel_rfl
theorem bodyRet_num {fn : Func} {p : Tmp} (h : fn.results = #[.cell p 70]) {tmps : Array Value} {w : World} {g : Nat} {u v : Value} {T : TypeId} (hp : tmps.getD p undef = .pointer (some ⟨g, 0, none⟩)) (hg : w.heap[g]? = some (.cells #[u, v] T (0, 0))) :
    (results fn tmps).run Tryd.prog w = .ok (.agg #[u, v]) w :=
  results_cell_row (P := Tryd.prog) h tmps w g T #[u, v] (0, 0) _ hp hg Tryd.underlying70 rfl (by rw [szNum]; rfl)

set_option maxHeartbeats 400000 in
theorem numberIn_any (s : Option Addr) (n c : Nat) (w : World) :
    Calls Tryd.prog 45 #[.slice s n c] w fun e w' => ∃ p, e = .returned (.agg #[wrF p, rdF p]) ∧ w.heap.size ≤ p ∧ SlAt w' p (.slice s n c) ∧ Below w.heap.size w w' := by
  have HG := Lib.hid (heap_alloc2_new w (.cells #[.slice s n c] 65) (.cells #[wrF w.heap.size, rdF w.heap.size] 70))
  have HB := Lib.hid (((Below.refl w.heap.size w).alloc (Nat.le_refl _) (.cells #[.slice s n c] 65)).alloc (by simp) (.cells #[wrF w.heap.size, rdF w.heap.size] 70))
  have HS : Hid (SlAt (w.alloc (.cells #[.slice s n c] 65)) w.heap.size (.slice s n c)) := Lib.hid (heap_alloc_new w _)
  have HS3 := Lib.hid (HS.out.below ((Below.refl (w.alloc (.cells #[.slice s n c] 65)).heap.size _).alloc (Nat.le_refl _) (.cells #[wrF w.heap.size, rdF w.heap.size] 70)) (by simp))
  go_enter Tryd.func45, Tryd.ntmps45
  go_wp2
  exact bodyPost_ret (bodyRet_num rfl rfl HG.out) rfl ⟨w.heap.size, rfl, Nat.le_refl _, HS3.out, HB.out⟩

/-! ### write -/
theorem byteK_int (n i : Nat) : ((byteK n i).toNat : Int) = (n : Int) / 2 ^ (8 * i) % 256 := by
  rw [byteK_nat, show (256 : Nat) ^ i = 2 ^ (8 * i) from by rw [show (256 : Nat) = 2 ^ 8 from rfl, ← Nat.pow_mul]]
  simp
/-- What a call leaves that writes into the block b alone. -/
structure Wrote (b : Nat) (l : List UInt8) (w w' : World) : Prop where
  at_ : BAt w' b l
  kept : Kept (fun k => k = b) w w'
  size : w'.heap.size = w.heap.size
theorem Wrote.refl {b : Nat} {l : List UInt8} {w : World} (h : BAt w b l) : Wrote b l w w := ⟨h, Kept.refl _ _, rfl⟩
theorem Wrote.step {b o : Nat} {l : List UInt8} {w w' : World} (h : Wrote b l w w') (c : UInt8) (q : Nat) : Wrote b (l.set o c) w ((w'.setCell ⟨b, o, none⟩ (.int .u8 (c.toNat : Int))).drewN q) :=
  ⟨(h.at_.set o c).heap' rfl, (h.kept.setCell ⟨b, o, none⟩ rfl _).drewN q, by show (w'.setCell _ _).heap.size = _; simp only [World.setCell, Array.size_modify]; exact h.size⟩
theorem Wrote.trans {b : Nat} {l m : List UInt8} {w w1 w2 : World} (h : Wrote b l w w1) (k : Wrote b m w1 w2) : Wrote b m w w2 := ⟨k.at_, h.kept.trans k.kept, k.size.trans h.size⟩
set_option maxHeartbeats 1000000 in
theorem write_any (b o m c : Nat) (l : List UInt8) (p n : Nat) (w : World) (hn : n < 4294967296) (hm : m ≤ 4) (hb : BAt w b l) (ho : o + m ≤ l.length) (hp : SlAt w p (.slice (some ⟨b, o, none⟩) m c)) :
    Calls Tryd.prog 55 #[.int .u32 n, .pointer (some ⟨p, 0, none⟩)] w fun e w' => e = .returned (.tuple #[]) ∧ Wrote b (putN l o n m) w w' := by
  have hpb : p ≠ b := by
    rintro rfl
    have h1 : w.heap[p]? = _ := hb
    have h2 : w.heap[p]? = _ := hp
    rw [h1] at h2
    injection h2 with h2
    injection h2 with h2 h3 h4
    exact absurd h3 (by decide)
  have hc0 := hp.cell
  have H0 : Hid (Wrote b (putN l o n 0) w w) := Lib.hid (Wrote.refl hb)
  have HP := Lib.hid hp
  clear hb hp
  go_enter Tryd.func55, Tryd.ntmps55
  go_wp2
  go_loopw [6] (fun i wr => ∃ k : Nat, k ≤ m ∧ i = .int .i64 k ∧ Hid (Wrote b (putN l o n k) w wr)) (fun i _ => m - (intOf i).toNat)
  case atStart => exact ⟨0, by omega, rfl, H0⟩
  case round =>
    clear hc0
    obtain ⟨k, hk, rfl, hP⟩ := hrel
    by_cases hlt : k < m
    · have hc0 := (HP.out.kept hP.out.kept hpb).cell
      have hl : o + k < (putN l o n k).length := by rw [putN_len]; omega
      have hc1 := hP.out.at_.cell (o + k) hl
      have hf := hP.out.at_.frozen (o + k)
      have hz := fun q => hP.out.step (o := o + k) (byteK n k) q
      rw [byteK_int] at hz
      have HZ := Lib.hid hz
      generalize (putN l o n k)[o + k].toNat = z at hc1
      clear hP hl hz
      go_wp2
      go_region
      go_wp2
      go_roundw
      case rel => exact ⟨k + 1, by omega, by go_num, Lib.hid (HZ.out 1)⟩
      case measure => simp [intOf]; omega
    · obtain rfl : k = m := by omega
      go_wp2
      go_end0
      exact ⟨rfl, hP.out⟩

/-! ### read -/
theorem numL_snoc (l : List UInt8) (c : UInt8) : numL (l ++ [c]) = numL l + 256 ^ l.length * c.toNat := by
  induction l with
  | nil => simp [numL]
  | cons a l ih => simp only [List.cons_append, numL, ih, List.length_cons, Nat.pow_succ]; rw [Nat.mul_add, Nat.add_assoc, Nat.mul_comm (256 ^ l.length) 256, Nat.mul_assoc]
theorem rd_succ (l : List UInt8) (o k : Nat) (h : o + k < l.length) : rd l o (k + 1) = rd l o k + 256 ^ k * l[o + k].toNat := by
  unfold rd
  have hk : k < (l.drop o).length := by rw [List.length_drop]; omega
  rw [List.take_succ_eq_append_getElem hk, numL_snoc, List.length_take, List.getElem_drop, Nat.min_eq_left (by omega)]
theorem rd_lt (l : List UInt8) (o k : Nat) : rd l o k < 256 ^ k := by
  have h := numL_lt ((l.drop o).take k)
  have : ((l.drop o).take k).length ≤ k := by rw [List.length_take]; omega
  exact Nat.lt_of_lt_of_le h (Nat.pow_le_pow_right (by omega) this)
theorem pow8 (k : Nat) : (256 : Nat) ^ k = 2 ^ (8 * k) := by rw [show (256 : Nat) = 2 ^ 8 from rfl, ← Nat.pow_mul]
theorem or32 (a b : Nat) (ha : a < 4294967296) (hb : b < 4294967296) : bits .or .u32 (a : Int) (b : Int) = ((a ||| b : Nat) : Int) := by
  have hx : a ||| b < 4294967296 := Nat.or_lt_two_pow (n := 32) ha hb
  show IntKind.u32.wrap ((BitVec.ofInt 32 (a : Int) ||| BitVec.ofInt 32 (b : Int)).toNat : Int) = _
  rw [BitVec.toNat_or, u32_of_nat a ha, u32_of_nat b hb, IntKind.wrap_u32]
  omega
theorem or_part (x c k : Nat) (hx : x < 256 ^ k) (hk : k < 4) (hc : c < 256) : bits .or .u32 (x : Int) ((c : Int) * 2 ^ (8 * k) % 4294967296) = ((x + 256 ^ k * c : Nat) : Int) ∧ x + 256 ^ k * c < 4294967296 := by
  rw [pow8] at hx ⊢
  have h3 : x ||| 2 ^ (8 * k) * c = 2 ^ (8 * k) * c + x := by rw [Nat.or_comm, Nat.two_pow_add_eq_or_of_lt hx]
  have h5 : k = 0 ∨ k = 1 ∨ k = 2 ∨ k = 3 := by omega
  have h1 : 2 ^ (8 * k) * c + x < 4294967296 := by rcases h5 with rfl | rfl | rfl | rfl <;> simp at hx ⊢ <;> omega
  have e : ((c : Int) * 2 ^ (8 * k) % 4294967296) = ((2 ^ (8 * k) * c : Nat) : Int) := by rcases h5 with rfl | rfl | rfl | rfl <;> simp <;> omega
  rw [e, or32 x _ (by omega) (by omega), h3]
  omega
set_option maxHeartbeats 1000000 in
theorem read_any (b o m c : Nat) (l : List UInt8) (p : Nat) (w : World) (hm : m ≤ 4) (hb : BAt w b l) (ho : o + m ≤ l.length) (hp : SlAt w p (.slice (some ⟨b, o, none⟩) m c)) :
    Calls Tryd.prog 56 #[.pointer (some ⟨p, 0, none⟩)] w fun e w' => e = .returned (.int .u32 (rd l o m : Nat)) ∧ w = w' := by
  have hc0 := hp.cell
  clear hp
  go_enter Tryd.func56, Tryd.ntmps56
  go_wp2
  go_loop [2, 7] (fun n' i => ∃ k : Nat, k ≤ m ∧ i = .int .i64 k ∧ n' = .int .u32 (rd l o k : Nat)) (fun _ i => m - (intOf i).toNat)
  case atStart => exact ⟨0, by omega, rfl, rfl⟩
  case round =>
    clear hc0
    obtain ⟨k, hk, rfl, rfl⟩ := hrel
    by_cases hlt : k < m
    · have hl : o + k < l.length := by omega
      have hc1 := hb.cell (o + k) hl
      have HS := Lib.hid (rd_succ l o k hl)
      have hc := byte_lt l (o + k) hl
      have hx := rd_lt l o k
      generalize l[o + k].toNat = z at hc1 HS hc
      obtain ⟨hor, hlt32⟩ := or_part (rd l o k) z k hx (by omega) hc
      have hx32 : rd l o k < 4294967296 := by omega
      have HB := Lib.hid hb
      generalize rd l o k = x at *
      clear hx hb hl
      go_wp2
      go_round
      case rel => exact ⟨k + 1, by omega, by go_num, by rw [HS.out]; simp⟩
      case measure => simp [intOf]; omega
    · obtain rfl : k = m := by omega
      go_wp2
      go_ret
      exact ⟨rfl, rfl⟩
end Go.Proofs.YtbaibmndmcdfdaaDoor.F
