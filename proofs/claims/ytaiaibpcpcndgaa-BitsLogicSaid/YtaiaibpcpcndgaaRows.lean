/-
  No cell of these rows narrows 'for every input' (looked for: loops, veiled, ifaces, maps, wideKeys, modest, calm, conditions, laid).
  DERIVED. THE GIVEN ROWS OF THIS SEAT. 8 by the template 'for every input the law returns true; each argument reads behind the call as it read before'; 0 by the template 'total and deterministic' (their statements: YtaiaibpcpcndgaaTotals.lean).
  GIVEN WITH THE SEED: the statements are not yours to turn. If you find one false, say at which input.
  Laid BY PROGRAM, IN A SANDBOX (cutbox-rows.mjs): the forced cells as the released guide's own fill.sh prints them over the translation 520d4713f4affd1d… (all of the seat's roots in one cut). By AI agents, Wed Nov 11 2026. No macro, syntax, notation, axiom, sorry.
-/
import Derived.Test.YtaiaibpcpcndgaaChecked
import GoSem.Claim
import GoSem.ClaimJoined
import GoSem.ClaimMapViews
import Derived.JoinedTies
import Derived.KernelRfl
namespace Go.Proofs.Ytaiaibpcpcndgaa
/- THE CELL 'sum', in the pinned program and in every row, IS THE sha256 OF THE DUMP (.gsa) THAT YtaiaibpcpcndgaaProg.lean LOADS. Nothing in Lean hashes anything: it is a label: what it is worth is what the hold of that sum in a sandbox is worth. -/
noncomputable def Try.pinned : Pinned := { name := "ytaiaibpcpcndgaa", sum := "520d4713f4affd1dd66991e591c42210958b9b290f5fa547c9d73bfb3ec288f3", checked := Try.checked }
namespace Rows
def none {H : Type} : Left H := { results := [], args := [] }

/-- 'limewashlaw02.BitsPlays': WHATEVER THE INPUT: true; the input reads as it did. -/
def bitsPlaysSpec : ChangeSpec := { name := "bitsPlays", fn := fun _ => fun
  | [d1, d2, d3] => { results := [.lit (.bool true)], args := [d1, d2, d3] }
  | _ => none }
def bitsPlaysRow : OpenClaim := { program := "ytaiaibpcpcndgaa", sum := "520d4713f4affd1dd66991e591c42210958b9b290f5fa547c9d73bfb3ec288f3", func := "limewash/limewashlaw02.BitsPlays", spec := "bitsPlays", apart := false }
def BitsPlaysSaid : Prop := bitsPlaysRow.holds Try.pinned (OpenSpec.ofChange bitsPlaysSpec)

/-- ITS FALSE NEIGHBOUR: 'it returns false'. Refute it at one input. -/
def bitsPlaysWrong : ChangeSpec := { name := "bitsPlays", fn := fun _ => fun
  | [d1, d2, d3] => { results := [.lit (.bool false)], args := [d1, d2, d3] }
  | _ => none }
def BitsPlaysWrongFalsely : Prop := bitsPlaysRow.holds Try.pinned (OpenSpec.ofChange bitsPlaysWrong)

/-- 'limewashlaw02.BitsLoads': WHATEVER THE INPUT: true; the input reads as it did. -/
def bitsLoadsSpec : ChangeSpec := { name := "bitsLoads", fn := fun _ => fun
  | [d1, d2] => { results := [.lit (.bool true)], args := [d1, d2] }
  | _ => none }
def bitsLoadsRow : OpenClaim := { program := "ytaiaibpcpcndgaa", sum := "520d4713f4affd1dd66991e591c42210958b9b290f5fa547c9d73bfb3ec288f3", func := "limewash/limewashlaw02.BitsLoads", spec := "bitsLoads", apart := false }
def BitsLoadsSaid : Prop := bitsLoadsRow.holds Try.pinned (OpenSpec.ofChange bitsLoadsSpec)

/-- ITS FALSE NEIGHBOUR: 'it returns false'. Refute it at one input. -/
def bitsLoadsWrong : ChangeSpec := { name := "bitsLoads", fn := fun _ => fun
  | [d1, d2] => { results := [.lit (.bool false)], args := [d1, d2] }
  | _ => none }
def BitsLoadsWrongFalsely : Prop := bitsLoadsRow.holds Try.pinned (OpenSpec.ofChange bitsLoadsWrong)

/-- 'limewashlaw02.BitsLogic': WHATEVER THE INPUT: true; the input reads as it did. -/
def bitsLogicSpec : ChangeSpec := { name := "bitsLogic", fn := fun _ => fun
  | [d1, d2, d3] => { results := [.lit (.bool true)], args := [d1, d2, d3] }
  | _ => none }
def bitsLogicRow : OpenClaim := { program := "ytaiaibpcpcndgaa", sum := "520d4713f4affd1dd66991e591c42210958b9b290f5fa547c9d73bfb3ec288f3", func := "limewash/limewashlaw02.BitsLogic", spec := "bitsLogic", unfollowed := true, recurses := true, apart := false }
def BitsLogicSaid : Prop := bitsLogicRow.holds Try.pinned (OpenSpec.ofChange bitsLogicSpec)

/-- ITS FALSE NEIGHBOUR: 'it returns false'. Refute it at one input. -/
def bitsLogicWrong : ChangeSpec := { name := "bitsLogic", fn := fun _ => fun
  | [d1, d2, d3] => { results := [.lit (.bool false)], args := [d1, d2, d3] }
  | _ => none }
def BitsLogicWrongFalsely : Prop := bitsLogicRow.holds Try.pinned (OpenSpec.ofChange bitsLogicWrong)

/-- 'limewashlaw02.BitsMorgan': WHATEVER THE INPUT: true; the input reads as it did. -/
def bitsMorganSpec : ChangeSpec := { name := "bitsMorgan", fn := fun _ => fun
  | [d1, d2, d3] => { results := [.lit (.bool true)], args := [d1, d2, d3] }
  | _ => none }
def bitsMorganRow : OpenClaim := { program := "ytaiaibpcpcndgaa", sum := "520d4713f4affd1dd66991e591c42210958b9b290f5fa547c9d73bfb3ec288f3", func := "limewash/limewashlaw02.BitsMorgan", spec := "bitsMorgan", unfollowed := true, recurses := true, apart := false }
def BitsMorganSaid : Prop := bitsMorganRow.holds Try.pinned (OpenSpec.ofChange bitsMorganSpec)

/-- ITS FALSE NEIGHBOUR: 'it returns false'. Refute it at one input. -/
def bitsMorganWrong : ChangeSpec := { name := "bitsMorgan", fn := fun _ => fun
  | [d1, d2, d3] => { results := [.lit (.bool false)], args := [d1, d2, d3] }
  | _ => none }
def BitsMorganWrongFalsely : Prop := bitsMorganRow.holds Try.pinned (OpenSpec.ofChange bitsMorganWrong)

/-- 'limewashlaw02.BitsSearch': WHATEVER THE INPUT: true; the input reads as it did. -/
def bitsSearchSpec : ChangeSpec := { name := "bitsSearch", fn := fun _ => fun
  | [d1, d2, d3] => { results := [.lit (.bool true)], args := [d1, d2, d3] }
  | _ => none }
def bitsSearchRow : OpenClaim := { program := "ytaiaibpcpcndgaa", sum := "520d4713f4affd1dd66991e591c42210958b9b290f5fa547c9d73bfb3ec288f3", func := "limewash/limewashlaw02.BitsSearch", spec := "bitsSearch", apart := false }
def BitsSearchSaid : Prop := bitsSearchRow.holds Try.pinned (OpenSpec.ofChange bitsSearchSpec)

/-- ITS FALSE NEIGHBOUR: 'it returns false'. Refute it at one input. -/
def bitsSearchWrong : ChangeSpec := { name := "bitsSearch", fn := fun _ => fun
  | [d1, d2, d3] => { results := [.lit (.bool false)], args := [d1, d2, d3] }
  | _ => none }
def BitsSearchWrongFalsely : Prop := bitsSearchRow.holds Try.pinned (OpenSpec.ofChange bitsSearchWrong)

/-- 'limewashlaw02.BitsFirst': WHATEVER THE INPUT: true; the input reads as it did. -/
def bitsFirstSpec : ChangeSpec := { name := "bitsFirst", fn := fun _ => fun
  | [d1, d2, d3] => { results := [.lit (.bool true)], args := [d1, d2, d3] }
  | _ => none }
def bitsFirstRow : OpenClaim := { program := "ytaiaibpcpcndgaa", sum := "520d4713f4affd1dd66991e591c42210958b9b290f5fa547c9d73bfb3ec288f3", func := "limewash/limewashlaw02.BitsFirst", spec := "bitsFirst", apart := false }
def BitsFirstSaid : Prop := bitsFirstRow.holds Try.pinned (OpenSpec.ofChange bitsFirstSpec)

/-- ITS FALSE NEIGHBOUR: 'it returns false'. Refute it at one input. -/
def bitsFirstWrong : ChangeSpec := { name := "bitsFirst", fn := fun _ => fun
  | [d1, d2, d3] => { results := [.lit (.bool false)], args := [d1, d2, d3] }
  | _ => none }
def BitsFirstWrongFalsely : Prop := bitsFirstRow.holds Try.pinned (OpenSpec.ofChange bitsFirstWrong)

/-- 'limewashlaw02.BitsNone': WHATEVER THE INPUT: true; the input reads as it did. -/
def bitsNoneSpec : ChangeSpec := { name := "bitsNone", fn := fun _ => fun
  | [d1, d2, d3] => { results := [.lit (.bool true)], args := [d1, d2, d3] }
  | _ => none }
def bitsNoneRow : OpenClaim := { program := "ytaiaibpcpcndgaa", sum := "520d4713f4affd1dd66991e591c42210958b9b290f5fa547c9d73bfb3ec288f3", func := "limewash/limewashlaw02.BitsNone", spec := "bitsNone", unfollowed := true, recurses := true, apart := false }
def BitsNoneSaid : Prop := bitsNoneRow.holds Try.pinned (OpenSpec.ofChange bitsNoneSpec)

/-- ITS FALSE NEIGHBOUR: 'it returns false'. Refute it at one input. -/
def bitsNoneWrong : ChangeSpec := { name := "bitsNone", fn := fun _ => fun
  | [d1, d2, d3] => { results := [.lit (.bool false)], args := [d1, d2, d3] }
  | _ => none }
def BitsNoneWrongFalsely : Prop := bitsNoneRow.holds Try.pinned (OpenSpec.ofChange bitsNoneWrong)

/-- 'limewashlaw02.BitsKnown': WHATEVER THE INPUT: true; the input reads as it did. -/
def bitsKnownSpec : ChangeSpec := { name := "bitsKnown", fn := fun _ => fun
  | [] => { results := [.lit (.bool true)], args := [] }
  | _ => none }
def bitsKnownRow : OpenClaim := { program := "ytaiaibpcpcndgaa", sum := "520d4713f4affd1dd66991e591c42210958b9b290f5fa547c9d73bfb3ec288f3", func := "limewash/limewashlaw02.BitsKnown", spec := "bitsKnown", apart := false }
def BitsKnownSaid : Prop := bitsKnownRow.holds Try.pinned (OpenSpec.ofChange bitsKnownSpec)

/-- ITS FALSE NEIGHBOUR: 'it returns false'. Refute it at one input. -/
def bitsKnownWrong : ChangeSpec := { name := "bitsKnown", fn := fun _ => fun
  | [] => { results := [.lit (.bool false)], args := [] }
  | _ => none }
def BitsKnownWrongFalsely : Prop := bitsKnownRow.holds Try.pinned (OpenSpec.ofChange bitsKnownWrong)

/- THE SECOND FORM. 'bulk': how many values and letters a reading holds, each counted each time it is reached (what is shared counts as often as it is met; a slice's spare places count too). A statement '..UptoSaid' is the law's where the arguments, and the package variables that the reading takes, are together of bulk at most 1048576: NARROWER than '..Said'. Prove '..Said' where nothing that the law and all that it calls make is longer than what came in: it says more and counts as full. Else prove '..UptoSaid'. A law counts once. -/
mutual
def uptoBulk {H : Type} : DataW H → Nat
  | .lit (.string bytes) => bytes.length + 1
  | .lit _ => 1
  | .nil => 1
  | .ptr d => uptoBulk d + 1
  | .slice elems spare => uptoBulkAll elems + uptoBulkAll spare + 1
  | .agg parts => uptoBulkAll parts + 1
  | .iface _ d => uptoBulk d + 1
  | .map entries => uptoBulkEntries entries + 1
  | .held _ => 1
def uptoBulkAll {H : Type} : List (DataW H) → Nat
  | [] => 0
  | d :: r => uptoBulk d + uptoBulkAll r
def uptoBulkEntries {H : Type} : List (Lit × DataW H) → Nat
  | [] => 0
  | x :: r => uptoBulkEntry x + uptoBulkEntries r
def uptoBulkEntry {H : Type} : Lit × DataW H → Nat
  | (.string bytes, d) => bytes.length + uptoBulk d + 1
  | (_, d) => uptoBulk d + 1
 end
def uptoSmall : (H : Type) → List (DataW H) → Bool := fun _ ds => decide (uptoBulkAll ds ≤ 1048576)
def OpenSpec.upto (s : _root_.Go.ChangeSpec) : _root_.Go.OpenSpec := { _root_.Go.OpenSpec.ofChange s with cond := some uptoSmall }

/-- 'limewashlaw02.BitsPlays', WHERE WHAT IT READS IS OF BULK AT MOST 1048576: true; the input reads as it did. -/
def bitsPlaysUptoRow : OpenClaim := { program := "ytaiaibpcpcndgaa", sum := "520d4713f4affd1dd66991e591c42210958b9b290f5fa547c9d73bfb3ec288f3", func := "limewash/limewashlaw02.BitsPlays", spec := "bitsPlays", apart := false, narrowed := true }
def BitsPlaysUptoSaid : Prop := bitsPlaysUptoRow.holds Try.pinned (OpenSpec.upto bitsPlaysSpec)

/-- 'limewashlaw02.BitsLoads', WHERE WHAT IT READS IS OF BULK AT MOST 1048576: true; the input reads as it did. -/
def bitsLoadsUptoRow : OpenClaim := { program := "ytaiaibpcpcndgaa", sum := "520d4713f4affd1dd66991e591c42210958b9b290f5fa547c9d73bfb3ec288f3", func := "limewash/limewashlaw02.BitsLoads", spec := "bitsLoads", apart := false, narrowed := true }
def BitsLoadsUptoSaid : Prop := bitsLoadsUptoRow.holds Try.pinned (OpenSpec.upto bitsLoadsSpec)

/-- 'limewashlaw02.BitsLogic', WHERE WHAT IT READS IS OF BULK AT MOST 1048576: true; the input reads as it did. -/
def bitsLogicUptoRow : OpenClaim := { program := "ytaiaibpcpcndgaa", sum := "520d4713f4affd1dd66991e591c42210958b9b290f5fa547c9d73bfb3ec288f3", func := "limewash/limewashlaw02.BitsLogic", spec := "bitsLogic", unfollowed := true, recurses := true, apart := false, narrowed := true }
def BitsLogicUptoSaid : Prop := bitsLogicUptoRow.holds Try.pinned (OpenSpec.upto bitsLogicSpec)

/-- 'limewashlaw02.BitsMorgan', WHERE WHAT IT READS IS OF BULK AT MOST 1048576: true; the input reads as it did. -/
def bitsMorganUptoRow : OpenClaim := { program := "ytaiaibpcpcndgaa", sum := "520d4713f4affd1dd66991e591c42210958b9b290f5fa547c9d73bfb3ec288f3", func := "limewash/limewashlaw02.BitsMorgan", spec := "bitsMorgan", unfollowed := true, recurses := true, apart := false, narrowed := true }
def BitsMorganUptoSaid : Prop := bitsMorganUptoRow.holds Try.pinned (OpenSpec.upto bitsMorganSpec)

/-- 'limewashlaw02.BitsSearch', WHERE WHAT IT READS IS OF BULK AT MOST 1048576: true; the input reads as it did. -/
def bitsSearchUptoRow : OpenClaim := { program := "ytaiaibpcpcndgaa", sum := "520d4713f4affd1dd66991e591c42210958b9b290f5fa547c9d73bfb3ec288f3", func := "limewash/limewashlaw02.BitsSearch", spec := "bitsSearch", apart := false, narrowed := true }
def BitsSearchUptoSaid : Prop := bitsSearchUptoRow.holds Try.pinned (OpenSpec.upto bitsSearchSpec)

/-- 'limewashlaw02.BitsFirst', WHERE WHAT IT READS IS OF BULK AT MOST 1048576: true; the input reads as it did. -/
def bitsFirstUptoRow : OpenClaim := { program := "ytaiaibpcpcndgaa", sum := "520d4713f4affd1dd66991e591c42210958b9b290f5fa547c9d73bfb3ec288f3", func := "limewash/limewashlaw02.BitsFirst", spec := "bitsFirst", apart := false, narrowed := true }
def BitsFirstUptoSaid : Prop := bitsFirstUptoRow.holds Try.pinned (OpenSpec.upto bitsFirstSpec)

/-- 'limewashlaw02.BitsNone', WHERE WHAT IT READS IS OF BULK AT MOST 1048576: true; the input reads as it did. -/
def bitsNoneUptoRow : OpenClaim := { program := "ytaiaibpcpcndgaa", sum := "520d4713f4affd1dd66991e591c42210958b9b290f5fa547c9d73bfb3ec288f3", func := "limewash/limewashlaw02.BitsNone", spec := "bitsNone", unfollowed := true, recurses := true, apart := false, narrowed := true }
def BitsNoneUptoSaid : Prop := bitsNoneUptoRow.holds Try.pinned (OpenSpec.upto bitsNoneSpec)

/-- 'limewashlaw02.BitsKnown', WHERE WHAT IT READS IS OF BULK AT MOST 1048576: true; the input reads as it did. -/
def bitsKnownUptoRow : OpenClaim := { program := "ytaiaibpcpcndgaa", sum := "520d4713f4affd1dd66991e591c42210958b9b290f5fa547c9d73bfb3ec288f3", func := "limewash/limewashlaw02.BitsKnown", spec := "bitsKnown", apart := false, narrowed := true }
def BitsKnownUptoSaid : Prop := bitsKnownUptoRow.holds Try.pinned (OpenSpec.upto bitsKnownSpec)

end Rows
end Go.Proofs.Ytaiaibpcpcndgaa
