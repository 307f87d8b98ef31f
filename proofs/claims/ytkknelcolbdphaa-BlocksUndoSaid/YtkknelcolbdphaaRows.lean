/-
  No cell of these rows narrows 'for every input' (looked for: loops, veiled, ifaces, maps, wideKeys, modest, calm, conditions, laid).
  DERIVED. THE GIVEN ROWS OF THIS SEAT. 8 by the template 'for every input the law returns true; each argument reads behind the call as it read before'; 0 by the template 'total and deterministic' (their statements: YtkknelcolbdphaaTotals.lean).
  GIVEN WITH THE SEED: the statements are not yours to turn. If you find one false, say at which input.
  Laid BY PROGRAM, IN A SANDBOX (cutbox-rows.mjs): the forced cells as the released guide's own fill.sh prints them over the translation ab19e5e55520ce9f… (all of the seat's roots in one cut). By AI agents, Wed Nov 11 2026. No macro, syntax, notation, axiom, sorry.
-/
import Derived.Test.YtkknelcolbdphaaChecked
import GoSem.Claim
import GoSem.ClaimJoined
import GoSem.ClaimMapViews
import Derived.JoinedTies
import Derived.KernelRfl
namespace Go.Proofs.Ytkknelcolbdphaa
/- THE CELL 'sum', in the pinned program and in every row, IS THE sha256 OF THE DUMP (.gsa) THAT YtkknelcolbdphaaProg.lean LOADS. Nothing in Lean hashes anything: it is a label: what it is worth is what the hold of that sum in a sandbox is worth. -/
noncomputable def Try.pinned : Pinned := { name := "ytkknelcolbdphaa", sum := "ab19e5e55520ce9fa694bceea0a60a9c035482ef39b23b3ababd81ae105f4814", checked := Try.checked }
namespace Rows
def none {H : Type} : Left H := { results := [], args := [] }

/-- 'limewashlaw08.BlocksLayouts': WHATEVER THE INPUT: true; the input reads as it did. -/
def blocksLayoutsSpec : ChangeSpec := { name := "blocksLayouts", fn := fun _ => fun
  | [d1, d2] => { results := [.lit (.bool true)], args := [d1, d2] }
  | _ => none }
def blocksLayoutsRow : OpenClaim := { program := "ytkknelcolbdphaa", sum := "ab19e5e55520ce9fa694bceea0a60a9c035482ef39b23b3ababd81ae105f4814", func := "limewash/limewashlaw08.BlocksLayouts", spec := "blocksLayouts", unfollowed := true, recurses := true, apart := false }
def BlocksLayoutsSaid : Prop := blocksLayoutsRow.holds Try.pinned (OpenSpec.ofChange blocksLayoutsSpec)

/-- ITS FALSE NEIGHBOUR: 'it returns false'. Refute it at one input. -/
def blocksLayoutsWrong : ChangeSpec := { name := "blocksLayouts", fn := fun _ => fun
  | [d1, d2] => { results := [.lit (.bool false)], args := [d1, d2] }
  | _ => none }
def BlocksLayoutsWrongFalsely : Prop := blocksLayoutsRow.holds Try.pinned (OpenSpec.ofChange blocksLayoutsWrong)

/-- 'limewashlaw08.BlocksAllocs': WHATEVER THE INPUT: true; the input reads as it did. -/
def blocksAllocsSpec : ChangeSpec := { name := "blocksAllocs", fn := fun _ => fun
  | [d1, d2, d3] => { results := [.lit (.bool true)], args := [d1, d2, d3] }
  | _ => none }
def blocksAllocsRow : OpenClaim := { program := "ytkknelcolbdphaa", sum := "ab19e5e55520ce9fa694bceea0a60a9c035482ef39b23b3ababd81ae105f4814", func := "limewash/limewashlaw08.BlocksAllocs", spec := "blocksAllocs", unfollowed := true, recurses := true, apart := false }
def BlocksAllocsSaid : Prop := blocksAllocsRow.holds Try.pinned (OpenSpec.ofChange blocksAllocsSpec)

/-- ITS FALSE NEIGHBOUR: 'it returns false'. Refute it at one input. -/
def blocksAllocsWrong : ChangeSpec := { name := "blocksAllocs", fn := fun _ => fun
  | [d1, d2, d3] => { results := [.lit (.bool false)], args := [d1, d2, d3] }
  | _ => none }
def BlocksAllocsWrongFalsely : Prop := blocksAllocsRow.holds Try.pinned (OpenSpec.ofChange blocksAllocsWrong)

/-- 'limewashlaw08.BlocksTakes': WHATEVER THE INPUT: true; the input reads as it did. -/
def blocksTakesSpec : ChangeSpec := { name := "blocksTakes", fn := fun _ => fun
  | [d1, d2] => { results := [.lit (.bool true)], args := [d1, d2] }
  | _ => none }
def blocksTakesRow : OpenClaim := { program := "ytkknelcolbdphaa", sum := "ab19e5e55520ce9fa694bceea0a60a9c035482ef39b23b3ababd81ae105f4814", func := "limewash/limewashlaw08.BlocksTakes", spec := "blocksTakes", unfollowed := true, recurses := true, apart := false }
def BlocksTakesSaid : Prop := blocksTakesRow.holds Try.pinned (OpenSpec.ofChange blocksTakesSpec)

/-- ITS FALSE NEIGHBOUR: 'it returns false'. Refute it at one input. -/
def blocksTakesWrong : ChangeSpec := { name := "blocksTakes", fn := fun _ => fun
  | [d1, d2] => { results := [.lit (.bool false)], args := [d1, d2] }
  | _ => none }
def BlocksTakesWrongFalsely : Prop := blocksTakesRow.holds Try.pinned (OpenSpec.ofChange blocksTakesWrong)

/-- 'limewashlaw08.BlocksBits': WHATEVER THE INPUT: true; the input reads as it did. -/
def blocksBitsSpec : ChangeSpec := { name := "blocksBits", fn := fun _ => fun
  | [d1, d2] => { results := [.lit (.bool true)], args := [d1, d2] }
  | _ => none }
def blocksBitsRow : OpenClaim := { program := "ytkknelcolbdphaa", sum := "ab19e5e55520ce9fa694bceea0a60a9c035482ef39b23b3ababd81ae105f4814", func := "limewash/limewashlaw08.BlocksBits", spec := "blocksBits", unfollowed := true, recurses := true, apart := false }
def BlocksBitsSaid : Prop := blocksBitsRow.holds Try.pinned (OpenSpec.ofChange blocksBitsSpec)

/-- ITS FALSE NEIGHBOUR: 'it returns false'. Refute it at one input. -/
def blocksBitsWrong : ChangeSpec := { name := "blocksBits", fn := fun _ => fun
  | [d1, d2] => { results := [.lit (.bool false)], args := [d1, d2] }
  | _ => none }
def BlocksBitsWrongFalsely : Prop := blocksBitsRow.holds Try.pinned (OpenSpec.ofChange blocksBitsWrong)

/-- 'limewashlaw08.BlocksRegions': WHATEVER THE INPUT: true; the input reads as it did. -/
def blocksRegionsSpec : ChangeSpec := { name := "blocksRegions", fn := fun _ => fun
  | [d] => { results := [.lit (.bool true)], args := [d] }
  | _ => none }
def blocksRegionsRow : OpenClaim := { program := "ytkknelcolbdphaa", sum := "ab19e5e55520ce9fa694bceea0a60a9c035482ef39b23b3ababd81ae105f4814", func := "limewash/limewashlaw08.BlocksRegions", spec := "blocksRegions", unfollowed := true, recurses := true, apart := false }
def BlocksRegionsSaid : Prop := blocksRegionsRow.holds Try.pinned (OpenSpec.ofChange blocksRegionsSpec)

/-- ITS FALSE NEIGHBOUR: 'it returns false'. Refute it at one input. -/
def blocksRegionsWrong : ChangeSpec := { name := "blocksRegions", fn := fun _ => fun
  | [d] => { results := [.lit (.bool false)], args := [d] }
  | _ => none }
def BlocksRegionsWrongFalsely : Prop := blocksRegionsRow.holds Try.pinned (OpenSpec.ofChange blocksRegionsWrong)

/-- 'limewashlaw08.BlocksFirst': WHATEVER THE INPUT: true; the input reads as it did. -/
def blocksFirstSpec : ChangeSpec := { name := "blocksFirst", fn := fun _ => fun
  | [d1, d2, d3] => { results := [.lit (.bool true)], args := [d1, d2, d3] }
  | _ => none }
def blocksFirstRow : OpenClaim := { program := "ytkknelcolbdphaa", sum := "ab19e5e55520ce9fa694bceea0a60a9c035482ef39b23b3ababd81ae105f4814", func := "limewash/limewashlaw08.BlocksFirst", spec := "blocksFirst", unfollowed := true, recurses := true, apart := false }
def BlocksFirstSaid : Prop := blocksFirstRow.holds Try.pinned (OpenSpec.ofChange blocksFirstSpec)

/-- ITS FALSE NEIGHBOUR: 'it returns false'. Refute it at one input. -/
def blocksFirstWrong : ChangeSpec := { name := "blocksFirst", fn := fun _ => fun
  | [d1, d2, d3] => { results := [.lit (.bool false)], args := [d1, d2, d3] }
  | _ => none }
def BlocksFirstWrongFalsely : Prop := blocksFirstRow.holds Try.pinned (OpenSpec.ofChange blocksFirstWrong)

/-- 'limewashlaw08.BlocksUndo': WHATEVER THE INPUT: true; the input reads as it did. -/
def blocksUndoSpec : ChangeSpec := { name := "blocksUndo", fn := fun _ => fun
  | [d1, d2, d3] => { results := [.lit (.bool true)], args := [d1, d2, d3] }
  | _ => none }
def blocksUndoRow : OpenClaim := { program := "ytkknelcolbdphaa", sum := "ab19e5e55520ce9fa694bceea0a60a9c035482ef39b23b3ababd81ae105f4814", func := "limewash/limewashlaw08.BlocksUndo", spec := "blocksUndo", unfollowed := true, recurses := true, apart := false }
def BlocksUndoSaid : Prop := blocksUndoRow.holds Try.pinned (OpenSpec.ofChange blocksUndoSpec)

/-- ITS FALSE NEIGHBOUR: 'it returns false'. Refute it at one input. -/
def blocksUndoWrong : ChangeSpec := { name := "blocksUndo", fn := fun _ => fun
  | [d1, d2, d3] => { results := [.lit (.bool false)], args := [d1, d2, d3] }
  | _ => none }
def BlocksUndoWrongFalsely : Prop := blocksUndoRow.holds Try.pinned (OpenSpec.ofChange blocksUndoWrong)

/-- 'limewashlaw08.BlocksRound': WHATEVER THE INPUT: true; the input reads as it did. -/
def blocksRoundSpec : ChangeSpec := { name := "blocksRound", fn := fun _ => fun
  | [d1, d2] => { results := [.lit (.bool true)], args := [d1, d2] }
  | _ => none }
def blocksRoundRow : OpenClaim := { program := "ytkknelcolbdphaa", sum := "ab19e5e55520ce9fa694bceea0a60a9c035482ef39b23b3ababd81ae105f4814", func := "limewash/limewashlaw08.BlocksRound", spec := "blocksRound", unfollowed := true, recurses := true, apart := false }
def BlocksRoundSaid : Prop := blocksRoundRow.holds Try.pinned (OpenSpec.ofChange blocksRoundSpec)

/-- ITS FALSE NEIGHBOUR: 'it returns false'. Refute it at one input. -/
def blocksRoundWrong : ChangeSpec := { name := "blocksRound", fn := fun _ => fun
  | [d1, d2] => { results := [.lit (.bool false)], args := [d1, d2] }
  | _ => none }
def BlocksRoundWrongFalsely : Prop := blocksRoundRow.holds Try.pinned (OpenSpec.ofChange blocksRoundWrong)

/- THE SECOND FORM. 'bulk': how many values and letters a reading holds, each counted each time it is reached (what is shared counts as often as it is met; a slice's spare places count too). A statement '..UptoSaid' is the law's where the arguments, and the package variables that the reading takes, are together of bulk at most 1048576: NARROWER than '..Said'. Prove '..Said' where nothing that the law and all that it calls make is longer than what came in: it says more and counts as full. Else prove '..UptoSaid'. A law counts once. -/
mutual
def uptoBulk {H : Type} : DataW H → Nat
  | .lit (.string bytes) => bytes.length + 1
  | .lit _ => 1
  | .nil => 1
  | .ptr d => uptoBulk d + 1
  | .slice elems spare => uptoBulkAll elems + uptoBulkAll spare + 1
  | .agg parts => uptoBulkAll parts + 1
  | .iface _ d => uptoBulk d + 1
  | .map entries => uptoBulkEntries entries + 1
  | .held _ => 1
def uptoBulkAll {H : Type} : List (DataW H) → Nat
  | [] => 0
  | d :: r => uptoBulk d + uptoBulkAll r
def uptoBulkEntries {H : Type} : List (Lit × DataW H) → Nat
  | [] => 0
  | x :: r => uptoBulkEntry x + uptoBulkEntries r
def uptoBulkEntry {H : Type} : Lit × DataW H → Nat
  | (.string bytes, d) => bytes.length + uptoBulk d + 1
  | (_, d) => uptoBulk d + 1
 end
def uptoSmall : (H : Type) → List (DataW H) → Bool := fun _ ds => decide (uptoBulkAll ds ≤ 1048576)
def OpenSpec.upto (s : _root_.Go.ChangeSpec) : _root_.Go.OpenSpec := { _root_.Go.OpenSpec.ofChange s with cond := some uptoSmall }

/-- 'limewashlaw08.BlocksLayouts', WHERE WHAT IT READS IS OF BULK AT MOST 1048576: true; the input reads as it did. -/
def blocksLayoutsUptoRow : OpenClaim := { program := "ytkknelcolbdphaa", sum := "ab19e5e55520ce9fa694bceea0a60a9c035482ef39b23b3ababd81ae105f4814", func := "limewash/limewashlaw08.BlocksLayouts", spec := "blocksLayouts", unfollowed := true, recurses := true, apart := false, narrowed := true }
def BlocksLayoutsUptoSaid : Prop := blocksLayoutsUptoRow.holds Try.pinned (OpenSpec.upto blocksLayoutsSpec)

/-- 'limewashlaw08.BlocksAllocs', WHERE WHAT IT READS IS OF BULK AT MOST 1048576: true; the input reads as it did. -/
def blocksAllocsUptoRow : OpenClaim := { program := "ytkknelcolbdphaa", sum := "ab19e5e55520ce9fa694bceea0a60a9c035482ef39b23b3ababd81ae105f4814", func := "limewash/limewashlaw08.BlocksAllocs", spec := "blocksAllocs", unfollowed := true, recurses := true, apart := false, narrowed := true }
def BlocksAllocsUptoSaid : Prop := blocksAllocsUptoRow.holds Try.pinned (OpenSpec.upto blocksAllocsSpec)

/-- 'limewashlaw08.BlocksTakes', WHERE WHAT IT READS IS OF BULK AT MOST 1048576: true; the input reads as it did. -/
def blocksTakesUptoRow : OpenClaim := { program := "ytkknelcolbdphaa", sum := "ab19e5e55520ce9fa694bceea0a60a9c035482ef39b23b3ababd81ae105f4814", func := "limewash/limewashlaw08.BlocksTakes", spec := "blocksTakes", unfollowed := true, recurses := true, apart := false, narrowed := true }
def BlocksTakesUptoSaid : Prop := blocksTakesUptoRow.holds Try.pinned (OpenSpec.upto blocksTakesSpec)

/-- 'limewashlaw08.BlocksBits', WHERE WHAT IT READS IS OF BULK AT MOST 1048576: true; the input reads as it did. -/
def blocksBitsUptoRow : OpenClaim := { program := "ytkknelcolbdphaa", sum := "ab19e5e55520ce9fa694bceea0a60a9c035482ef39b23b3ababd81ae105f4814", func := "limewash/limewashlaw08.BlocksBits", spec := "blocksBits", unfollowed := true, recurses := true, apart := false, narrowed := true }
def BlocksBitsUptoSaid : Prop := blocksBitsUptoRow.holds Try.pinned (OpenSpec.upto blocksBitsSpec)

/-- 'limewashlaw08.BlocksRegions', WHERE WHAT IT READS IS OF BULK AT MOST 1048576: true; the input reads as it did. -/
def blocksRegionsUptoRow : OpenClaim := { program := "ytkknelcolbdphaa", sum := "ab19e5e55520ce9fa694bceea0a60a9c035482ef39b23b3ababd81ae105f4814", func := "limewash/limewashlaw08.BlocksRegions", spec := "blocksRegions", unfollowed := true, recurses := true, apart := false, narrowed := true }
def BlocksRegionsUptoSaid : Prop := blocksRegionsUptoRow.holds Try.pinned (OpenSpec.upto blocksRegionsSpec)

/-- 'limewashlaw08.BlocksFirst', WHERE WHAT IT READS IS OF BULK AT MOST 1048576: true; the input reads as it did. -/
def blocksFirstUptoRow : OpenClaim := { program := "ytkknelcolbdphaa", sum := "ab19e5e55520ce9fa694bceea0a60a9c035482ef39b23b3ababd81ae105f4814", func := "limewash/limewashlaw08.BlocksFirst", spec := "blocksFirst", unfollowed := true, recurses := true, apart := false, narrowed := true }
def BlocksFirstUptoSaid : Prop := blocksFirstUptoRow.holds Try.pinned (OpenSpec.upto blocksFirstSpec)

/-- 'limewashlaw08.BlocksUndo', WHERE WHAT IT READS IS OF BULK AT MOST 1048576: true; the input reads as it did. -/
def blocksUndoUptoRow : OpenClaim := { program := "ytkknelcolbdphaa", sum := "ab19e5e55520ce9fa694bceea0a60a9c035482ef39b23b3ababd81ae105f4814", func := "limewash/limewashlaw08.BlocksUndo", spec := "blocksUndo", unfollowed := true, recurses := true, apart := false, narrowed := true }
def BlocksUndoUptoSaid : Prop := blocksUndoUptoRow.holds Try.pinned (OpenSpec.upto blocksUndoSpec)

/-- 'limewashlaw08.BlocksRound', WHERE WHAT IT READS IS OF BULK AT MOST 1048576: true; the input reads as it did. -/
def blocksRoundUptoRow : OpenClaim := { program := "ytkknelcolbdphaa", sum := "ab19e5e55520ce9fa694bceea0a60a9c035482ef39b23b3ababd81ae105f4814", func := "limewash/limewashlaw08.BlocksRound", spec := "blocksRound", unfollowed := true, recurses := true, apart := false, narrowed := true }
def BlocksRoundUptoSaid : Prop := blocksRoundUptoRow.holds Try.pinned (OpenSpec.upto blocksRoundSpec)

end Rows
end Go.Proofs.Ytkknelcolbdphaa
