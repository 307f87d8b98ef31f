/- BitsLogic: the walk. -/
import Derived.Test.YtaiaibpcpcndgaaLogicM
import Derived.Test.YtaiaibpcpcndgaaRef3
import Derived.Test.YtaiaibpcpcndgaaAwake
import Derived.Deep.RegionHeld3
import Derived.Deep.DrawnRows
namespace Go.Proofs.Ytaiaibpcpcndgaa
open Go.RowKit

theorem same_bits {M L : List Bool} : (bytesL M == bytesL L && decide (M.length = L.length)) = (M == L) := by
  by_cases h : M.length = L.length
  · rw [decide_eq_true h, Bool.and_true, bytesL_inj h]
  · rw [decide_eq_false h, Bool.and_false]; symm; rw [beq_eq_false_iff_ne]; rintro rfl; exact h rfl

/-- What stays through the law's last test. -/
structure LgS (bx by_ : Nat) (vx vy : Value) (Lx Ly : List Bool) (W w' : World) : Prop where
  mx : MapAt w' bx Lx
  my : MapAt w' by_ Ly
  lx : BoolsAt w' vx Lx
  ly : BoolsAt w' vy Ly
  bel : Below W.heap.size W w'
theorem LgS.below {bx by_ : Nat} {vx vy : Value} {Lx Ly : List Bool} {W w' w'' : World} (h : LgS bx by_ vx vy Lx Ly W w') (hb : Below w'.heap.size w' w'') : LgS bx by_ vx vy Lx Ly W w'' :=
  ⟨h.mx.below hb h.mx.lt, h.my.below hb h.my.lt, h.lx.below hb, h.ly.below hb, h.bel.trans (hb.mono h.bel.size)⟩
theorem LgS.drew {bx by_ : Nat} {vx vy : Value} {Lx Ly : List Bool} {W w' : World} (h : LgS bx by_ vx vy Lx Ly W w') : LgS bx by_ vx vy Lx Ly W w'.drew :=
  ⟨h.mx, h.my, h.lx, h.ly, h.bel.drew⟩
def cv98 : Op := Op.convert 23 9 (Operand.tmp 97)
def cv101 : Op := Op.convert 23 9 (Operand.tmp 100)
def mv8 : Op := Op.move (Operand.tmp 8)
def mv10 : Op := Op.move (Operand.tmp 10)
def ln105 : Op := Op.call { callee := Callee.builtin Builtin.len, args := #[Operand.tmp 104], argTypes := #[27] }
def ln107 : Op := Op.call { callee := Callee.builtin Builtin.len, args := #[Operand.tmp 106], argTypes := #[27] }
def eq108 : Op := Op.binOp BinOp.eql 3 (Operand.tmp 105) (Operand.tmp 107) 3
structure Kp (p : Prop) : Prop where
  out : p
/-- One proof for all the ways that end alike. -/
theorem cutG {T G : Prop} (r : Kp T → G) (m : T) : G := r ⟨m⟩
theorem lenLe (b : Nat) (L : List Bool) {w : World} (h : MapAt w b L) : L.length ≤ 4096 := h.2
end Go.Proofs.Ytaiaibpcpcndgaa
