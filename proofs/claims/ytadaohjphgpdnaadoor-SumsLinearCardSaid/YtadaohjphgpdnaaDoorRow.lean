/- Blocks of bytes that are known whole; the lists that SumsLinear makes. -/
import Derived.Test.YtadaohjphgpdnaaDoorApp
import Derived.Test.YtadaohjphgpdnaaDoorMixP
import Derived.Test.YtadaohjphgpdnaaDoorPatch
import Derived.Test.YtadaohjphgpdnaaDoorValB
import Derived.Deep.RegionHeld3
import Derived.Deep.DrawnRows
import Derived.StillTailTactics
import Derived.Laws.MakeOwn
import Derived.Laws.OwnMore
namespace Go.Proofs.YtadaohjphgpdnaaDoor
open Go.RowKit

def RowAt (W : World) (g : Nat) (l : List UInt8) : Prop := W.heap[g]? = some (.cells (Lib.byteCells l).toArray 5 (0, 0))
theorem RowAt.lt {W : World} {g : Nat} {l : List UInt8} (h : RowAt W g l) : g < W.heap.size := (Array.getElem?_eq_some_iff.1 h).1
theorem RowAt.cell {W : World} {g : Nat} {l : List UInt8} (h : RowAt W g l) (k : Nat) (hk : k < l.length) : W.cell? ⟨g, k, none⟩ = some (.int .u8 l[k].toNat) := by
  unfold World.cell?
  rw [show W.heap[g]? = _ from h]
  simp [Lib.byteCells, hk]
theorem RowAt.at_ {W : World} {g : Nat} {l : List UInt8} (h : RowAt W g l) (n d : Nat) (hn : l.length = n) : BytesAt W (.slice (some ⟨g, 0, none⟩) n d) l := by
  subst hn
  exact .inr ⟨g, 0, d, rfl, h.lt, fun k hk => by rw [Nat.zero_add]; exact h.cell k hk⟩
theorem RowAt.frozen {W : World} {g : Nat} {l : List UInt8} (h : RowAt W g l) (k : Nat) : W.frozen? ⟨g, k, none⟩ = false := by
  unfold World.frozen?
  rw [show W.heap[g]? = _ from h]
  simp
theorem RowAt.set {W : World} {g : Nat} {l : List UInt8} (h : RowAt W g l) (k : Nat) (c : UInt8) : RowAt (W.setCell ⟨g, k, none⟩ (.int .u8 c.toNat)) g (l.set k c) := by
  have := (Put.one g k (.int .u8 c.toNat) W).block h
  unfold RowAt
  rw [this]
  simp [Lib.byteCells, List.map_set]
theorem RowAt.other {W : World} {g b o : Nat} {v : Value} {l : List UInt8} (h : RowAt W g l) (hne : g ≠ b) : RowAt (W.setCell ⟨b, o, none⟩ v) g l := ((Put.one b o v W).other g hne).trans h
theorem RowAt.alloc {W : World} {g : Nat} {l : List UInt8} (h : RowAt W g l) (ob : Obj) : RowAt (W.alloc ob) g l := (((Below.refl W.heap.size W).alloc (Nat.le_refl _) ob).block g h.lt).trans h
theorem RowAt.heap' {A B : World} {g : Nat} {l : List UInt8} (h : RowAt A g l) (e : B.heap = A.heap) : RowAt B g l := by unfold RowAt; rw [e]; exact h
theorem RowAt.below {A B : World} {g n : Nat} {l : List UInt8} (h : RowAt A g l) (hb : Below n A B) (hn : g < n) : RowAt B g l := (hb.block g hn).trans h
theorem RowAt.new (W : World) (l : List UInt8) (Z : Array Value) (hZ : Z = (Lib.byteCells l).toArray) : RowAt (W.alloc (.cells Z 5)) W.heap.size l := by
  subst hZ; exact heap_alloc_new W _

theorem make_zeros (n : Nat) (hn : n ≤ 1000) : ∃ Z : Array Value, Z = (Lib.byteCells (List.replicate n 0)).toArray ∧ ∀ W, (Instr.makeSlice 23 (.int .i64 (n : Int)) (.int .i64 (n : Int))).run Tryd.prog W = .ok (.slice (some ⟨W.heap.size, 0, none⟩) n n) (W.alloc (.cells Z 5)) := by
  obtain ⟨i0, hi, hz0, hz1, hz2⟩ := info_parts Tryd.infoByte
  refine ⟨_, rfl, fun W => ?_⟩
  have h := run_make (P := Tryd.prog) (w := W) 23 5 i0 (.int .u8 0) Tryd.underlying23 hi hz0 .i64 .i64 (n : Int) (n : Int) (by omega) (by omega) (by rw [hz2]; omega) (by omega)
  rw [h, Int.toNat_natCast, hz1, Nat.mul_one]
  have e : madeCells (Value.int .u8 0).cells n = (Lib.byteCells (List.replicate n 0)).toArray := by
    apply Array.ext'
    show (madeCells #[.int .u8 0] n).toList = _
    rw [toList_madeCells_one]
    simp [Lib.byteCells]
  rw [e]

def rowF (f : Nat → UInt8) (n j : Nat) : List UInt8 := (List.range n).map fun i => if i < j then f i else 0
theorem rowF_len (f : Nat → UInt8) (n j : Nat) : (rowF f n j).length = n := by simp [rowF]
theorem rowF_zero (f : Nat → UInt8) (n : Nat) : rowF f n 0 = List.replicate n 0 := by
  apply List.ext_getElem
  · simp [rowF]
  · intro i h1 h2; simp [rowF]
theorem rowF_set (f : Nat → UInt8) (n j : Nat) : (rowF f n j).set j (f j) = rowF f n (j + 1) := by
  apply List.ext_getElem
  · simp [rowF]
  · intro i h1 h2
    rw [List.getElem_set]
    by_cases e : j = i
    · subst e; simp [rowF]
    · rw [if_neg e]
      simp only [rowF, List.getElem_map, List.getElem_range]
      by_cases h : i < j
      · rw [if_pos h, if_pos (by omega)]
      · rw [if_neg h, if_neg (by omega)]
theorem rowF_get (f : Nat → UInt8) (n j i : Nat) (hj : i < j) (h : i < (rowF f n j).length) : (rowF f n j)[i] = f i := by
  simp only [rowF, List.getElem_map, List.getElem_range]; rw [if_pos hj]

def atF (b : List UInt8) (i : Nat) : UInt8 := b.getD (i % b.length) 0
def threeF (a b c : List UInt8) (i : Nat) : UInt8 := a.getD i 0 ^^^ atF b i ^^^ atF c i
theorem threeF_nat (a b c : List UInt8) (i : Nat) (h : i < a.length) : (threeF a b c i).toNat = a[i].toNat ^^^ (atF b i).toNat ^^^ (atF c i).toNat := by
  unfold threeF
  rw [UInt8.toNat_xor, UInt8.toNat_xor, List.getD_eq_getElem?_getD, List.getElem?_eq_getElem h]; rfl
theorem atF_nat (b : List UInt8) (i : Nat) (h : i % b.length < b.length) : b[i % b.length].toNat = (atF b i).toNat := by
  unfold atF
  rw [List.getD_eq_getElem?_getD, List.getElem?_eq_getElem h]; rfl
theorem linear_crc (a b c : List UInt8) : crcV (rowF (threeF a b c) a.length a.length) = crcV a ^^^ crcV (rowF (atF b) a.length a.length) ^^^ crcV (rowF (atF c) a.length a.length) := by
  refine crc_three a _ _ _ a.length rfl (rowF_len _ _ _) (rowF_len _ _ _) (rowF_len _ _ _) (numV_three _ _ _ _ ?_ ?_ ?_ ?_)
  · rw [rowF_len]
  · rw [rowF_len, rowF_len]
  · rw [rowF_len, rowF_len]
  · intro i h ha hx hy
    rw [rowF_get _ _ _ _ ha, rowF_get _ _ _ _ ha, rowF_get _ _ _ _ ha]
    exact threeF_nat a b c i ha

theorem RowAt.grown {A B : World} {g : Nat} {l : List UInt8} {row : Option Nat} (h : RowAt A g l) (hg : A.grownBy B row) (hne : some g ≠ row) : RowAt B g l := (hg.block g h.lt hne).trans h
/-- An append of bytes as a step of a region that draws its order; the world stays what it was below w0's size. -/
theorem step_append_bytes {ops : Array Oper} {o : Oper} {a : Act} {w : World} {K : Act → World → Prop} {Q : Exit → Act → World → Prop} {E : Prop} (hgd : o.guard = none) (s x : Operand)
    (ho : o.op = .call { callee := .builtin .append, args := #[s, x], argTypes := #[23, 23] })
    (w0 : World) (v xv : Value) (n : Nat) (xs : List Value) (l : List UInt8) (hs : a.eval s = v) (hx : a.eval x = xv)
    (hown : w.ownsRow w0.heap.size 5 1 v n xs) (hv : ∃ g cap, v = .slice (some ⟨g, 0, none⟩) n cap) (hxs : BytesAt w xv l) (hl : n + l.length ≤ 100000) (hb : Below w0.heap.size w0 w)
    (h : ∀ g cap w', w'.ownsRow w0.heap.size 5 1 (.slice (some ⟨g, 0, none⟩) (n + l.length) cap) (n + l.length) (xs ++ Lib.byteCells l) → w.grownBy w' v.ownBlock → Below w0.heap.size w0 w' → K (a.put o.dst (.slice (some ⟨g, 0, none⟩) (n + l.length) cap)) w') :
    if Region.wanted o (yielded ops a.tmps) = true then Oper.wp Tryd.prog o a w K Q else E := by
  have hw : Region.wanted o (yielded ops a.tmps) = true := by simp [Region.wanted, hgd]
  rw [if_pos hw]
  obtain ⟨g, cap, w', hr, h1, h2⟩ := run_append_bytes (ty := o.type) hown hv hxs hl hb.size
  unfold Oper.wp
  simp [execOp, ho, resolve, invoke, builtin, hs, hx, hr, Result.andThen]
  exact h _ _ _ h1 h2 (hb.grown h2 hb.size (fun k e => (hown.lt k e).1))
theorem byteCells_append (l0 l : List UInt8) : Lib.byteCells (l0 ++ l) = Lib.byteCells l0 ++ Lib.byteCells l := by simp [Lib.byteCells]
theorem step_append_own {ops : Array Oper} {o : Oper} {a : Act} {w : World} {K : Act → World → Prop} {Q : Exit → Act → World → Prop} {E : Prop} (hgd : o.guard = none) (s x : Operand)
    (ho : o.op = .call { callee := .builtin .append, args := #[s, x], argTypes := #[23, 23] })
    (w0 : World) (g0 cap0 n m : Nat) (l0 l : List UInt8) (xv : Value) (hs : a.eval s = .slice (some ⟨g0, 0, none⟩) n cap0) (hx : a.eval x = xv) (hn : l0.length = n) (hm : n + l.length = m)
    (hown : OwnBytes w w0.heap.size g0 cap0 l0) (hxs : BytesAt w xv l) (hl : m ≤ 100000) (hb : Below w0.heap.size w0 w)
    (h : ∀ g cap w', OwnBytes w' w0.heap.size g cap (l0 ++ l) → w.grownBy w' (some g0) → Below w0.heap.size w0 w' → K (a.put o.dst (.slice (some ⟨g, 0, none⟩) m cap)) w') :
    if Region.wanted o (yielded ops a.tmps) = true then Oper.wp Tryd.prog o a w K Q else E := by
  subst hn hm
  refine step_append_bytes hgd s x ho w0 _ xv l0.length (Lib.byteCells l0) l hs hx hown ⟨_, _, rfl⟩ hxs hl hb (fun g cap w' h1 h2 h3 => h g cap w' ?_ h2 h3)
  unfold OwnBytes
  rw [List.length_append, byteCells_append]
  exact h1
theorem OwnBytes.drew {w : World} {base g cap : Nat} {l : List UInt8} (h : OwnBytes w base g cap l) : OwnBytes w.drew base g cap l := h.below ⟨rfl, rfl, rfl, Nat.le_refl _, fun _ _ => rfl⟩
end Go.Proofs.YtadaohjphgpdnaaDoor
