/- What the package-level variables hold, as the walks use it; the table of escapes; small facts on memory. -/
import Derived.Test.YtnmkcohfhomenaaDoorBase
import Derived.WalkSmall
import Derived.Maps.AppendAt
import Derived.RangeFuncBox
import Derived.Lib.UnsafeStr
import Derived.OwnWalk
import Derived.Laws.Rows
import Derived.Laws.OwnMore
import Derived.ShapedOpen
namespace Go.Proofs.YtnmkcohfhomenaaDoor
open Go.RowKit

def escCells : Array Value := #[.int .u8 34, .int .u8 34, .int .u8 92, .int .u8 92, .int .u8 10, .int .u8 110, .int .u8 13, .int .u8 114, .int .u8 9, .int .u8 116]

/-- The variables that the walks read. -/
structure Env (w : World) : Prop where
  esc : w.var? Tryd.prog "limewash/words.escapes" = some escCells
  syn : ∃ tp p, w.var? Tryd.prog "strconv.ErrSyntax" = some #[.iface tp p]
  rng : ∃ tp p, w.var? Tryd.prog "strconv.ErrRange" = some #[.iface tp p]
  nine : 9 ≤ w.heap.size

theorem gEsc : Tryd.prog.globalNamed "limewash/words.escapes" = some 0 := by kernel_rfl
theorem gSyn : Tryd.prog.globalNamed "strconv.ErrSyntax" = some 1 := by kernel_rfl
theorem gRng : Tryd.prog.globalNamed "strconv.ErrRange" = some 2 := by kernel_rfl

theorem Env.below {B : Nat} {w w' : World} (h : Env w) (hb : Below B w w') (hB : 9 ≤ B) : Env w' :=
  ⟨var?_below hb gEsc (by omega) h.esc,
   by obtain ⟨a, b, e⟩ := h.syn; exact ⟨a, b, var?_below hb gSyn (by omega) e⟩,
   by obtain ⟨a, b, e⟩ := h.rng; exact ⟨a, b, var?_below hb gRng (by omega) e⟩,
   Nat.le_trans h.nine hb.size⟩

theorem Env.escBlock {w : World} (h : Env w) : ∃ t fr, w.heap[0]? = some (.cells escCells t fr) := by
  have e := h.esc
  unfold World.var? at e
  rw [gEsc] at e
  simp only [Option.bind_some] at e
  revert e
  cases w.heap[(0 : Nat)]? with
  | none => intro e; simp at e
  | some o =>
    cases o with
    | cells cs t fr => intro e; simp at e; subst e; exact ⟨t, fr, rfl⟩
    | _ => intro e; simp at e

theorem var_cell {n : String} {g : Nat} {w : World} {v : Value} (hg : Tryd.prog.globalNamed n = some g) (h : w.var? Tryd.prog n = some #[v]) : w.cell? ⟨g, 0, none⟩ = some v := by
  unfold World.var? at h
  rw [hg] at h
  simp only [Option.bind_some] at h
  unfold World.cell?
  revert h
  cases w.heap[g]? with
  | none => intro h; simp at h
  | some o =>
    cases o with
    | cells cs t fr => intro h; simp at h; subst h; rfl
    | _ => intro h; simp at h

theorem Tryd.infoByte : (Tryd.prog.info? 5).map (fun i => (i.zero, i.size, i.bytes)) = some (some (.int .u8 0), 1, 1) := by kernel_rfl

/-- The two bytes that a written-out slice of new bytes holds. -/
theorem cell_two (w : World) (a b : Value) (t : TypeId) : ∀ j u, [a, b][j]? = some u → (w.alloc (.cells #[a, b] t)).cell? ((⟨w.heap.size, 0, none⟩ : Addr).add j) = some u := cell_two_new w a b t
theorem cell_four (w : World) (a b c d : Value) (t : TypeId) : ∀ j u, [a, b, c, d][j]? = some u → (w.alloc (.cells #[a, b, c, d] t)).cell? ((⟨w.heap.size, 0, none⟩ : Addr).add j) = some u := by
  intro j u hj
  match j, hj with
  | 0, hj => simp at hj; subst hj; simp [Addr.add]
  | 1, hj => simp at hj; subst hj; simp [Addr.add]
  | 2, hj => simp at hj; subst hj; simp [Addr.add]
  | 3, hj => simp at hj; subst hj; simp [Addr.add]
  | j + 4, hj => simp at hj

/-! ### What stands for a byte inside quotes -/
def hexC (n : Nat) : UInt8 := if n < 10 then (48 + n).toUInt8 else (87 + n).toUInt8
def encB (c : UInt8) : List UInt8 :=
  if plainB c.toNat then [c] else
  if c.toNat = 34 then [92, 34] else if c.toNat = 92 then [92, 92] else if c.toNat = 10 then [92, 110] else if c.toNat = 13 then [92, 114] else if c.toNat = 9 then [92, 116]
  else [92, 120, hexC (c.toNat / 16), hexC (c.toNat % 16)]
def encS (l : List UInt8) : List UInt8 := l.flatMap encB
theorem encB_len (c : UInt8) : (encB c).length ≤ 4 ∧ 1 ≤ (encB c).length := by unfold encB; (repeat' split) <;> simp

theorem byteCells_append (a b : List UInt8) : Lib.byteCells (a ++ b) = Lib.byteCells a ++ Lib.byteCells b := by simp [Lib.byteCells]
end Go.Proofs.YtnmkcohfhomenaaDoor
