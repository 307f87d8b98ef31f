/-
  No cell of these rows narrows 'for every input' (looked for: loops, veiled, ifaces, maps, wideKeys, modest, calm, conditions, laid).
  DERIVED. THE GIVEN ROWS OF THIS SEAT. 8 by the template 'for every input the law returns true; each argument reads behind the call as it read before'; 0 by the template 'total and deterministic' (their statements: YtpboknepfjeljaaTotals.lean).
  GIVEN WITH THE SEED: the statements are not yours to turn. If you find one false, say at which input.
  Laid BY PROGRAM, IN A SANDBOX (cutbox-rows.mjs): the forced cells as the released guide's own fill.sh prints them over the translation f402776184c622de… (all of the seat's roots in one cut). By AI agents, Wed Nov 11 2026. No macro, syntax, notation, axiom, sorry.
-/
import Derived.Test.YtpboknepfjeljaaChecked
import GoSem.Claim
import GoSem.ClaimJoined
import GoSem.ClaimMapViews
import Derived.JoinedTies
import Derived.KernelRfl
namespace Go.Proofs.Ytpboknepfjeljaa
/- THE CELL 'sum', in the pinned program and in every row, IS THE sha256 OF THE DUMP (.gsa) THAT YtpboknepfjeljaaProg.lean LOADS. Nothing in Lean hashes anything: it is a label: what it is worth is what the hold of that sum in a sandbox is worth. -/
noncomputable def Try.pinned : Pinned := { name := "ytpboknepfjeljaa", sum := "f402776184c622de1af4e169a89ed2d95201ed219d5dd821c3e77dd6026cc062", checked := Try.checked }
namespace Rows
def none {H : Type} : Left H := { results := [], args := [] }

/-- 'limewashlaw06.DevicePlays': WHATEVER THE INPUT: true; the input reads as it did. -/
def devicePlaysSpec : ChangeSpec := { name := "devicePlays", fn := fun _ => fun
  | [d1, d2] => { results := [.lit (.bool true)], args := [d1, d2] }
  | _ => none }
def devicePlaysRow : OpenClaim := { program := "ytpboknepfjeljaa", sum := "f402776184c622de1af4e169a89ed2d95201ed219d5dd821c3e77dd6026cc062", func := "limewash/limewashlaw06.DevicePlays", spec := "devicePlays", apart := false }
def DevicePlaysSaid : Prop := devicePlaysRow.holds Try.pinned (OpenSpec.ofChange devicePlaysSpec)

/-- ITS FALSE NEIGHBOUR: 'it returns false'. Refute it at one input. -/
def devicePlaysWrong : ChangeSpec := { name := "devicePlays", fn := fun _ => fun
  | [d1, d2] => { results := [.lit (.bool false)], args := [d1, d2] }
  | _ => none }
def DevicePlaysWrongFalsely : Prop := devicePlaysRow.holds Try.pinned (OpenSpec.ofChange devicePlaysWrong)

/-- 'limewashlaw06.DeviceLoads': WHATEVER THE INPUT: true; the input reads as it did. -/
def deviceLoadsSpec : ChangeSpec := { name := "deviceLoads", fn := fun _ => fun
  | [d1, d2] => { results := [.lit (.bool true)], args := [d1, d2] }
  | _ => none }
def deviceLoadsRow : OpenClaim := { program := "ytpboknepfjeljaa", sum := "f402776184c622de1af4e169a89ed2d95201ed219d5dd821c3e77dd6026cc062", func := "limewash/limewashlaw06.DeviceLoads", spec := "deviceLoads", apart := false }
def DeviceLoadsSaid : Prop := deviceLoadsRow.holds Try.pinned (OpenSpec.ofChange deviceLoadsSpec)

/-- ITS FALSE NEIGHBOUR: 'it returns false'. Refute it at one input. -/
def deviceLoadsWrong : ChangeSpec := { name := "deviceLoads", fn := fun _ => fun
  | [d1, d2] => { results := [.lit (.bool false)], args := [d1, d2] }
  | _ => none }
def DeviceLoadsWrongFalsely : Prop := deviceLoadsRow.holds Try.pinned (OpenSpec.ofChange deviceLoadsWrong)

/-- 'limewashlaw06.DeviceReads': WHATEVER THE INPUT: true; the input reads as it did. -/
def deviceReadsSpec : ChangeSpec := { name := "deviceReads", fn := fun _ => fun
  | [d] => { results := [.lit (.bool true)], args := [d] }
  | _ => none }
def deviceReadsRow : OpenClaim := { program := "ytpboknepfjeljaa", sum := "f402776184c622de1af4e169a89ed2d95201ed219d5dd821c3e77dd6026cc062", func := "limewash/limewashlaw06.DeviceReads", spec := "deviceReads", apart := false }
def DeviceReadsSaid : Prop := deviceReadsRow.holds Try.pinned (OpenSpec.ofChange deviceReadsSpec)

/-- ITS FALSE NEIGHBOUR: 'it returns false'. Refute it at one input. -/
def deviceReadsWrong : ChangeSpec := { name := "deviceReads", fn := fun _ => fun
  | [d] => { results := [.lit (.bool false)], args := [d] }
  | _ => none }
def DeviceReadsWrongFalsely : Prop := deviceReadsRow.holds Try.pinned (OpenSpec.ofChange deviceReadsWrong)

/-- 'limewashlaw06.DeviceCrash': WHATEVER THE INPUT: true; the input reads as it did. -/
def deviceCrashSpec : ChangeSpec := { name := "deviceCrash", fn := fun _ => fun
  | [d1, d2] => { results := [.lit (.bool true)], args := [d1, d2] }
  | _ => none }
def deviceCrashRow : OpenClaim := { program := "ytpboknepfjeljaa", sum := "f402776184c622de1af4e169a89ed2d95201ed219d5dd821c3e77dd6026cc062", func := "limewash/limewashlaw06.DeviceCrash", spec := "deviceCrash", apart := false }
def DeviceCrashSaid : Prop := deviceCrashRow.holds Try.pinned (OpenSpec.ofChange deviceCrashSpec)

/-- ITS FALSE NEIGHBOUR: 'it returns false'. Refute it at one input. -/
def deviceCrashWrong : ChangeSpec := { name := "deviceCrash", fn := fun _ => fun
  | [d1, d2] => { results := [.lit (.bool false)], args := [d1, d2] }
  | _ => none }
def DeviceCrashWrongFalsely : Prop := deviceCrashRow.holds Try.pinned (OpenSpec.ofChange deviceCrashWrong)

/-- 'limewashlaw06.DeviceWhole': WHATEVER THE INPUT: true; the input reads as it did. -/
def deviceWholeSpec : ChangeSpec := { name := "deviceWhole", fn := fun _ => fun
  | [d1, d2] => { results := [.lit (.bool true)], args := [d1, d2] }
  | _ => none }
def deviceWholeRow : OpenClaim := { program := "ytpboknepfjeljaa", sum := "f402776184c622de1af4e169a89ed2d95201ed219d5dd821c3e77dd6026cc062", func := "limewash/limewashlaw06.DeviceWhole", spec := "deviceWhole", apart := false }
def DeviceWholeSaid : Prop := deviceWholeRow.holds Try.pinned (OpenSpec.ofChange deviceWholeSpec)

/-- ITS FALSE NEIGHBOUR: 'it returns false'. Refute it at one input. -/
def deviceWholeWrong : ChangeSpec := { name := "deviceWhole", fn := fun _ => fun
  | [d1, d2] => { results := [.lit (.bool false)], args := [d1, d2] }
  | _ => none }
def DeviceWholeWrongFalsely : Prop := deviceWholeRow.holds Try.pinned (OpenSpec.ofChange deviceWholeWrong)

/-- 'limewashlaw06.DevicePower': WHATEVER THE INPUT: true; the input reads as it did. -/
def devicePowerSpec : ChangeSpec := { name := "devicePower", fn := fun _ => fun
  | [d1, d2] => { results := [.lit (.bool true)], args := [d1, d2] }
  | _ => none }
def devicePowerRow : OpenClaim := { program := "ytpboknepfjeljaa", sum := "f402776184c622de1af4e169a89ed2d95201ed219d5dd821c3e77dd6026cc062", func := "limewash/limewashlaw06.DevicePower", spec := "devicePower", apart := false }
def DevicePowerSaid : Prop := devicePowerRow.holds Try.pinned (OpenSpec.ofChange devicePowerSpec)

/-- ITS FALSE NEIGHBOUR: 'it returns false'. Refute it at one input. -/
def devicePowerWrong : ChangeSpec := { name := "devicePower", fn := fun _ => fun
  | [d1, d2] => { results := [.lit (.bool false)], args := [d1, d2] }
  | _ => none }
def DevicePowerWrongFalsely : Prop := devicePowerRow.holds Try.pinned (OpenSpec.ofChange devicePowerWrong)

/-- 'limewashlaw06.DeviceDiff': WHATEVER THE INPUT: true; the input reads as it did. -/
def deviceDiffSpec : ChangeSpec := { name := "deviceDiff", fn := fun _ => fun
  | [d1, d2] => { results := [.lit (.bool true)], args := [d1, d2] }
  | _ => none }
def deviceDiffRow : OpenClaim := { program := "ytpboknepfjeljaa", sum := "f402776184c622de1af4e169a89ed2d95201ed219d5dd821c3e77dd6026cc062", func := "limewash/limewashlaw06.DeviceDiff", spec := "deviceDiff", apart := false }
def DeviceDiffSaid : Prop := deviceDiffRow.holds Try.pinned (OpenSpec.ofChange deviceDiffSpec)

/-- ITS FALSE NEIGHBOUR: 'it returns false'. Refute it at one input. -/
def deviceDiffWrong : ChangeSpec := { name := "deviceDiff", fn := fun _ => fun
  | [d1, d2] => { results := [.lit (.bool false)], args := [d1, d2] }
  | _ => none }
def DeviceDiffWrongFalsely : Prop := deviceDiffRow.holds Try.pinned (OpenSpec.ofChange deviceDiffWrong)

/-- 'limewashlaw06.DeviceKnown': WHATEVER THE INPUT: true; the input reads as it did. -/
def deviceKnownSpec : ChangeSpec := { name := "deviceKnown", fn := fun _ => fun
  | [] => { results := [.lit (.bool true)], args := [] }
  | _ => none }
def deviceKnownRow : OpenClaim := { program := "ytpboknepfjeljaa", sum := "f402776184c622de1af4e169a89ed2d95201ed219d5dd821c3e77dd6026cc062", func := "limewash/limewashlaw06.DeviceKnown", spec := "deviceKnown", apart := false }
def DeviceKnownSaid : Prop := deviceKnownRow.holds Try.pinned (OpenSpec.ofChange deviceKnownSpec)

/-- ITS FALSE NEIGHBOUR: 'it returns false'. Refute it at one input. -/
def deviceKnownWrong : ChangeSpec := { name := "deviceKnown", fn := fun _ => fun
  | [] => { results := [.lit (.bool false)], args := [] }
  | _ => none }
def DeviceKnownWrongFalsely : Prop := deviceKnownRow.holds Try.pinned (OpenSpec.ofChange deviceKnownWrong)

/- THE SECOND FORM. 'bulk': how many values and letters a reading holds, each counted each time it is reached (what is shared counts as often as it is met; a slice's spare places count too). A statement '..UptoSaid' is the law's where the arguments, and the package variables that the reading takes, are together of bulk at most 1048576: NARROWER than '..Said'. Prove '..Said' where nothing that the law and all that it calls make is longer than what came in: it says more and counts as full. Else prove '..UptoSaid'. A law counts once. -/
mutual
def uptoBulk {H : Type} : DataW H → Nat
  | .lit (.string bytes) => bytes.length + 1
  | .lit _ => 1
  | .nil => 1
  | .ptr d => uptoBulk d + 1
  | .slice elems spare => uptoBulkAll elems + uptoBulkAll spare + 1
  | .agg parts => uptoBulkAll parts + 1
  | .iface _ d => uptoBulk d + 1
  | .map entries => uptoBulkEntries entries + 1
  | .held _ => 1
def uptoBulkAll {H : Type} : List (DataW H) → Nat
  | [] => 0
  | d :: r => uptoBulk d + uptoBulkAll r
def uptoBulkEntries {H : Type} : List (Lit × DataW H) → Nat
  | [] => 0
  | x :: r => uptoBulkEntry x + uptoBulkEntries r
def uptoBulkEntry {H : Type} : Lit × DataW H → Nat
  | (.string bytes, d) => bytes.length + uptoBulk d + 1
  | (_, d) => uptoBulk d + 1
 end
def uptoSmall : (H : Type) → List (DataW H) → Bool := fun _ ds => decide (uptoBulkAll ds ≤ 1048576)
def OpenSpec.upto (s : _root_.Go.ChangeSpec) : _root_.Go.OpenSpec := { _root_.Go.OpenSpec.ofChange s with cond := some uptoSmall }

/-- 'limewashlaw06.DevicePlays', WHERE WHAT IT READS IS OF BULK AT MOST 1048576: true; the input reads as it did. -/
def devicePlaysUptoRow : OpenClaim := { program := "ytpboknepfjeljaa", sum := "f402776184c622de1af4e169a89ed2d95201ed219d5dd821c3e77dd6026cc062", func := "limewash/limewashlaw06.DevicePlays", spec := "devicePlays", apart := false, narrowed := true }
def DevicePlaysUptoSaid : Prop := devicePlaysUptoRow.holds Try.pinned (OpenSpec.upto devicePlaysSpec)

/-- 'limewashlaw06.DeviceLoads', WHERE WHAT IT READS IS OF BULK AT MOST 1048576: true; the input reads as it did. -/
def deviceLoadsUptoRow : OpenClaim := { program := "ytpboknepfjeljaa", sum := "f402776184c622de1af4e169a89ed2d95201ed219d5dd821c3e77dd6026cc062", func := "limewash/limewashlaw06.DeviceLoads", spec := "deviceLoads", apart := false, narrowed := true }
def DeviceLoadsUptoSaid : Prop := deviceLoadsUptoRow.holds Try.pinned (OpenSpec.upto deviceLoadsSpec)

/-- 'limewashlaw06.DeviceReads', WHERE WHAT IT READS IS OF BULK AT MOST 1048576: true; the input reads as it did. -/
def deviceReadsUptoRow : OpenClaim := { program := "ytpboknepfjeljaa", sum := "f402776184c622de1af4e169a89ed2d95201ed219d5dd821c3e77dd6026cc062", func := "limewash/limewashlaw06.DeviceReads", spec := "deviceReads", apart := false, narrowed := true }
def DeviceReadsUptoSaid : Prop := deviceReadsUptoRow.holds Try.pinned (OpenSpec.upto deviceReadsSpec)

/-- 'limewashlaw06.DeviceCrash', WHERE WHAT IT READS IS OF BULK AT MOST 1048576: true; the input reads as it did. -/
def deviceCrashUptoRow : OpenClaim := { program := "ytpboknepfjeljaa", sum := "f402776184c622de1af4e169a89ed2d95201ed219d5dd821c3e77dd6026cc062", func := "limewash/limewashlaw06.DeviceCrash", spec := "deviceCrash", apart := false, narrowed := true }
def DeviceCrashUptoSaid : Prop := deviceCrashUptoRow.holds Try.pinned (OpenSpec.upto deviceCrashSpec)

/-- 'limewashlaw06.DeviceWhole', WHERE WHAT IT READS IS OF BULK AT MOST 1048576: true; the input reads as it did. -/
def deviceWholeUptoRow : OpenClaim := { program := "ytpboknepfjeljaa", sum := "f402776184c622de1af4e169a89ed2d95201ed219d5dd821c3e77dd6026cc062", func := "limewash/limewashlaw06.DeviceWhole", spec := "deviceWhole", apart := false, narrowed := true }
def DeviceWholeUptoSaid : Prop := deviceWholeUptoRow.holds Try.pinned (OpenSpec.upto deviceWholeSpec)

/-- 'limewashlaw06.DevicePower', WHERE WHAT IT READS IS OF BULK AT MOST 1048576: true; the input reads as it did. -/
def devicePowerUptoRow : OpenClaim := { program := "ytpboknepfjeljaa", sum := "f402776184c622de1af4e169a89ed2d95201ed219d5dd821c3e77dd6026cc062", func := "limewash/limewashlaw06.DevicePower", spec := "devicePower", apart := false, narrowed := true }
def DevicePowerUptoSaid : Prop := devicePowerUptoRow.holds Try.pinned (OpenSpec.upto devicePowerSpec)

/-- 'limewashlaw06.DeviceDiff', WHERE WHAT IT READS IS OF BULK AT MOST 1048576: true; the input reads as it did. -/
def deviceDiffUptoRow : OpenClaim := { program := "ytpboknepfjeljaa", sum := "f402776184c622de1af4e169a89ed2d95201ed219d5dd821c3e77dd6026cc062", func := "limewash/limewashlaw06.DeviceDiff", spec := "deviceDiff", apart := false, narrowed := true }
def DeviceDiffUptoSaid : Prop := deviceDiffUptoRow.holds Try.pinned (OpenSpec.upto deviceDiffSpec)

/-- 'limewashlaw06.DeviceKnown', WHERE WHAT IT READS IS OF BULK AT MOST 1048576: true; the input reads as it did. -/
def deviceKnownUptoRow : OpenClaim := { program := "ytpboknepfjeljaa", sum := "f402776184c622de1af4e169a89ed2d95201ed219d5dd821c3e77dd6026cc062", func := "limewash/limewashlaw06.DeviceKnown", spec := "deviceKnown", apart := false, narrowed := true }
def DeviceKnownUptoSaid : Prop := deviceKnownUptoRow.holds Try.pinned (OpenSpec.upto deviceKnownSpec)

end Rows
end Go.Proofs.Ytpboknepfjeljaa
