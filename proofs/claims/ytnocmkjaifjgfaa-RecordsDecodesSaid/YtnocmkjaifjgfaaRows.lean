/-
  No cell of these rows narrows 'for every input' (looked for: loops, veiled, ifaces, maps, wideKeys, modest, calm, conditions, laid).
  DERIVED. THE GIVEN ROWS OF THIS SEAT. 5 by the template 'for every input the law returns true; each argument reads behind the call as it read before'; 0 by the template 'total and deterministic' (their statements: YtnocmkjaifjgfaaTotals.lean).
  GIVEN WITH THE SEED: the statements are not yours to turn. If you find one false, say at which input.
  Laid BY PROGRAM, IN A SANDBOX (cutbox-rows.mjs): the forced cells as the released guide's own fill.sh prints them over the translation 69e626d65771f3c5… (all of the seat's roots in one cut). By AI agents, Wed Nov 11 2026. No macro, syntax, notation, axiom, sorry.
-/
import Derived.Test.YtnocmkjaifjgfaaChecked
import GoSem.Claim
import GoSem.ClaimJoined
import GoSem.ClaimMapViews
import Derived.JoinedTies
import Derived.KernelRfl
namespace Go.Proofs.Ytnocmkjaifjgfaa
/- THE CELL 'sum', in the pinned program and in every row, IS THE sha256 OF THE DUMP (.gsa) THAT YtnocmkjaifjgfaaProg.lean LOADS. Nothing in Lean hashes anything: it is a label: what it is worth is what the hold of that sum in a sandbox is worth. -/
noncomputable def Try.pinned : Pinned := { name := "ytnocmkjaifjgfaa", sum := "69e626d65771f3c5aae3614a51bb4747990bc35e50e635b72cbad3f751cc07f4", checked := Try.checked }
namespace Rows
def none {H : Type} : Left H := { results := [], args := [] }

/-- 'limewashlaw05.RecordsEncodes': WHATEVER THE INPUT: true; the input reads as it did. -/
def recordsEncodesSpec : ChangeSpec := { name := "recordsEncodes", fn := fun _ => fun
  | [d1, d2] => { results := [.lit (.bool true)], args := [d1, d2] }
  | _ => none }
def recordsEncodesRow : OpenClaim := { program := "ytnocmkjaifjgfaa", sum := "69e626d65771f3c5aae3614a51bb4747990bc35e50e635b72cbad3f751cc07f4", func := "limewash/limewashlaw05.RecordsEncodes", spec := "recordsEncodes", unfollowed := true, recurses := true, apart := false }
def RecordsEncodesSaid : Prop := recordsEncodesRow.holds Try.pinned (OpenSpec.ofChange recordsEncodesSpec)

/-- ITS FALSE NEIGHBOUR: 'it returns false'. Refute it at one input. -/
def recordsEncodesWrong : ChangeSpec := { name := "recordsEncodes", fn := fun _ => fun
  | [d1, d2] => { results := [.lit (.bool false)], args := [d1, d2] }
  | _ => none }
def RecordsEncodesWrongFalsely : Prop := recordsEncodesRow.holds Try.pinned (OpenSpec.ofChange recordsEncodesWrong)

/-- 'limewashlaw05.RecordsDecodes': WHATEVER THE INPUT: true; the input reads as it did. -/
def recordsDecodesSpec : ChangeSpec := { name := "recordsDecodes", fn := fun _ => fun
  | [d1, d2] => { results := [.lit (.bool true)], args := [d1, d2] }
  | _ => none }
def recordsDecodesRow : OpenClaim := { program := "ytnocmkjaifjgfaa", sum := "69e626d65771f3c5aae3614a51bb4747990bc35e50e635b72cbad3f751cc07f4", func := "limewash/limewashlaw05.RecordsDecodes", spec := "recordsDecodes", unfollowed := true, recurses := true, apart := false }
def RecordsDecodesSaid : Prop := recordsDecodesRow.holds Try.pinned (OpenSpec.ofChange recordsDecodesSpec)

/-- ITS FALSE NEIGHBOUR: 'it returns false'. Refute it at one input. -/
def recordsDecodesWrong : ChangeSpec := { name := "recordsDecodes", fn := fun _ => fun
  | [d1, d2] => { results := [.lit (.bool false)], args := [d1, d2] }
  | _ => none }
def RecordsDecodesWrongFalsely : Prop := recordsDecodesRow.holds Try.pinned (OpenSpec.ofChange recordsDecodesWrong)

/-- 'limewashlaw05.RecordsRound': WHATEVER THE INPUT: true; the input reads as it did. -/
def recordsRoundSpec : ChangeSpec := { name := "recordsRound", fn := fun _ => fun
  | [d1, d2, d3] => { results := [.lit (.bool true)], args := [d1, d2, d3] }
  | _ => none }
def recordsRoundRow : OpenClaim := { program := "ytnocmkjaifjgfaa", sum := "69e626d65771f3c5aae3614a51bb4747990bc35e50e635b72cbad3f751cc07f4", func := "limewash/limewashlaw05.RecordsRound", spec := "recordsRound", unfollowed := true, recurses := true, apart := false }
def RecordsRoundSaid : Prop := recordsRoundRow.holds Try.pinned (OpenSpec.ofChange recordsRoundSpec)

/-- ITS FALSE NEIGHBOUR: 'it returns false'. Refute it at one input. -/
def recordsRoundWrong : ChangeSpec := { name := "recordsRound", fn := fun _ => fun
  | [d1, d2, d3] => { results := [.lit (.bool false)], args := [d1, d2, d3] }
  | _ => none }
def RecordsRoundWrongFalsely : Prop := recordsRoundRow.holds Try.pinned (OpenSpec.ofChange recordsRoundWrong)

/-- 'limewashlaw05.RecordsOne': WHATEVER THE INPUT: true; the input reads as it did. -/
def recordsOneSpec : ChangeSpec := { name := "recordsOne", fn := fun _ => fun
  | [d1, d2] => { results := [.lit (.bool true)], args := [d1, d2] }
  | _ => none }
def recordsOneRow : OpenClaim := { program := "ytnocmkjaifjgfaa", sum := "69e626d65771f3c5aae3614a51bb4747990bc35e50e635b72cbad3f751cc07f4", func := "limewash/limewashlaw05.RecordsOne", spec := "recordsOne", unfollowed := true, recurses := true, apart := false }
def RecordsOneSaid : Prop := recordsOneRow.holds Try.pinned (OpenSpec.ofChange recordsOneSpec)

/-- ITS FALSE NEIGHBOUR: 'it returns false'. Refute it at one input. -/
def recordsOneWrong : ChangeSpec := { name := "recordsOne", fn := fun _ => fun
  | [d1, d2] => { results := [.lit (.bool false)], args := [d1, d2] }
  | _ => none }
def RecordsOneWrongFalsely : Prop := recordsOneRow.holds Try.pinned (OpenSpec.ofChange recordsOneWrong)

/-- 'limewashlaw05.RecordsBoth': WHATEVER THE INPUT: true; the input reads as it did. -/
def recordsBothSpec : ChangeSpec := { name := "recordsBoth", fn := fun _ => fun
  | [d1, d2, d3] => { results := [.lit (.bool true)], args := [d1, d2, d3] }
  | _ => none }
def recordsBothRow : OpenClaim := { program := "ytnocmkjaifjgfaa", sum := "69e626d65771f3c5aae3614a51bb4747990bc35e50e635b72cbad3f751cc07f4", func := "limewash/limewashlaw05.RecordsBoth", spec := "recordsBoth", unfollowed := true, recurses := true, apart := false }
def RecordsBothSaid : Prop := recordsBothRow.holds Try.pinned (OpenSpec.ofChange recordsBothSpec)

/-- ITS FALSE NEIGHBOUR: 'it returns false'. Refute it at one input. -/
def recordsBothWrong : ChangeSpec := { name := "recordsBoth", fn := fun _ => fun
  | [d1, d2, d3] => { results := [.lit (.bool false)], args := [d1, d2, d3] }
  | _ => none }
def RecordsBothWrongFalsely : Prop := recordsBothRow.holds Try.pinned (OpenSpec.ofChange recordsBothWrong)

/- THE SECOND FORM. 'bulk': how many values and letters a reading holds, each counted each time it is reached (what is shared counts as often as it is met; a slice's spare places count too). A statement '..UptoSaid' is the law's where the arguments, and the package variables that the reading takes, are together of bulk at most 1048576: NARROWER than '..Said'. Prove '..Said' where nothing that the law and all that it calls make is longer than what came in: it says more and counts as full. Else prove '..UptoSaid'. A law counts once. -/
mutual
def uptoBulk {H : Type} : DataW H → Nat
  | .lit (.string bytes) => bytes.length + 1
  | .lit _ => 1
  | .nil => 1
  | .ptr d => uptoBulk d + 1
  | .slice elems spare => uptoBulkAll elems + uptoBulkAll spare + 1
  | .agg parts => uptoBulkAll parts + 1
  | .iface _ d => uptoBulk d + 1
  | .map entries => uptoBulkEntries entries + 1
  | .held _ => 1
def uptoBulkAll {H : Type} : List (DataW H) → Nat
  | [] => 0
  | d :: r => uptoBulk d + uptoBulkAll r
def uptoBulkEntries {H : Type} : List (Lit × DataW H) → Nat
  | [] => 0
  | x :: r => uptoBulkEntry x + uptoBulkEntries r
def uptoBulkEntry {H : Type} : Lit × DataW H → Nat
  | (.string bytes, d) => bytes.length + uptoBulk d + 1
  | (_, d) => uptoBulk d + 1
 end
def uptoSmall : (H : Type) → List (DataW H) → Bool := fun _ ds => decide (uptoBulkAll ds ≤ 1048576)
def OpenSpec.upto (s : _root_.Go.ChangeSpec) : _root_.Go.OpenSpec := { _root_.Go.OpenSpec.ofChange s with cond := some uptoSmall }

/-- 'limewashlaw05.RecordsEncodes', WHERE WHAT IT READS IS OF BULK AT MOST 1048576: true; the input reads as it did. -/
def recordsEncodesUptoRow : OpenClaim := { program := "ytnocmkjaifjgfaa", sum := "69e626d65771f3c5aae3614a51bb4747990bc35e50e635b72cbad3f751cc07f4", func := "limewash/limewashlaw05.RecordsEncodes", spec := "recordsEncodes", unfollowed := true, recurses := true, apart := false, narrowed := true }
def RecordsEncodesUptoSaid : Prop := recordsEncodesUptoRow.holds Try.pinned (OpenSpec.upto recordsEncodesSpec)

/-- 'limewashlaw05.RecordsDecodes', WHERE WHAT IT READS IS OF BULK AT MOST 1048576: true; the input reads as it did. -/
def recordsDecodesUptoRow : OpenClaim := { program := "ytnocmkjaifjgfaa", sum := "69e626d65771f3c5aae3614a51bb4747990bc35e50e635b72cbad3f751cc07f4", func := "limewash/limewashlaw05.RecordsDecodes", spec := "recordsDecodes", unfollowed := true, recurses := true, apart := false, narrowed := true }
def RecordsDecodesUptoSaid : Prop := recordsDecodesUptoRow.holds Try.pinned (OpenSpec.upto recordsDecodesSpec)

/-- 'limewashlaw05.RecordsRound', WHERE WHAT IT READS IS OF BULK AT MOST 1048576: true; the input reads as it did. -/
def recordsRoundUptoRow : OpenClaim := { program := "ytnocmkjaifjgfaa", sum := "69e626d65771f3c5aae3614a51bb4747990bc35e50e635b72cbad3f751cc07f4", func := "limewash/limewashlaw05.RecordsRound", spec := "recordsRound", unfollowed := true, recurses := true, apart := false, narrowed := true }
def RecordsRoundUptoSaid : Prop := recordsRoundUptoRow.holds Try.pinned (OpenSpec.upto recordsRoundSpec)

/-- 'limewashlaw05.RecordsOne', WHERE WHAT IT READS IS OF BULK AT MOST 1048576: true; the input reads as it did. -/
def recordsOneUptoRow : OpenClaim := { program := "ytnocmkjaifjgfaa", sum := "69e626d65771f3c5aae3614a51bb4747990bc35e50e635b72cbad3f751cc07f4", func := "limewash/limewashlaw05.RecordsOne", spec := "recordsOne", unfollowed := true, recurses := true, apart := false, narrowed := true }
def RecordsOneUptoSaid : Prop := recordsOneUptoRow.holds Try.pinned (OpenSpec.upto recordsOneSpec)

/-- 'limewashlaw05.RecordsBoth', WHERE WHAT IT READS IS OF BULK AT MOST 1048576: true; the input reads as it did. -/
def recordsBothUptoRow : OpenClaim := { program := "ytnocmkjaifjgfaa", sum := "69e626d65771f3c5aae3614a51bb4747990bc35e50e635b72cbad3f751cc07f4", func := "limewash/limewashlaw05.RecordsBoth", spec := "recordsBoth", unfollowed := true, recurses := true, apart := false, narrowed := true }
def RecordsBothUptoSaid : Prop := recordsBothUptoRow.holds Try.pinned (OpenSpec.upto recordsBothSpec)

end Rows
end Go.Proofs.Ytnocmkjaifjgfaa
