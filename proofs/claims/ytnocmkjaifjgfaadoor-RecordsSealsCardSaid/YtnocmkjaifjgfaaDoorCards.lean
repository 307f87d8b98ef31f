/-
  DERIVED. GIVEN WITH THE SEED: THE CARDS: each row of YtnocmkjaifjgfaaDoorRows.lean that lists a variable, with what it lists TIED to the program's text (the seventh form; the later family's looks); each row that meets fmt, with fmt's text TOLD by the authors' own Lean function (tested against real Go, not proved from fmt's source: count such statements apart). THE CARD IS WHAT COUNTS. Prove the row's statement (the work); the ties are given (YtnocmkjaifjgfaaDoorTie.lean); close each card by the builder's one call (the guide's Derived/Test/ToyasCard.lean, 'card_holds'). Laid BY PROGRAM, IN A SANDBOX (cutbox-door.mjs). By AI agents, Wed Nov 11 2026. No macro, syntax, notation, axiom, sorry.
-/
import Derived.Test.YtnocmkjaifjgfaaDoorRows
import GoSem.ClaimSeven
namespace Go.Proofs.YtnocmkjaifjgfaaDoor
namespace Rows

/-- THE TIED CARD OF 'limewashlaw05.RecordsSeals'. -/
def recordsSealsCard : Claim7 := { stood := { row := recordsSealsRow, standIns := [], harness := (true, "d32c3ae351b504b3e0a3b6ca6b46850b1e10d1d1b8ea32392e68603d9132a594"), looks := false }, kinds := [], alts := [], laidByText := true, laidKinds := [.data, .data, .pinned], laidTests := true, laidLooks := .later }
def RecordsSealsCardSaid : Prop := Claim7.holds Tryd.pinned (.plain (OpenSpec.ofChange recordsSealsSpec)) recordsSealsCard

/-- THE TIED CARD OF 'limewashlaw05.RecordsSealed'. -/
def recordsSealedCard : Claim7 := { stood := { row := recordsSealedRow, standIns := [], harness := (true, "d32c3ae351b504b3e0a3b6ca6b46850b1e10d1d1b8ea32392e68603d9132a594"), looks := false }, kinds := [], alts := [], laidByText := true, laidKinds := [.data, .data, .pinned], laidTests := true, laidLooks := .later }
def RecordsSealedCardSaid : Prop := Claim7.holds Tryd.pinned (.plain (OpenSpec.ofChange recordsSealedSpec)) recordsSealedCard

/-- THE TIED CARD OF 'limewashlaw05.RecordsKnown'. -/
def recordsKnownCard : Claim7 := { stood := { row := recordsKnownRow, standIns := [], harness := (true, "d32c3ae351b504b3e0a3b6ca6b46850b1e10d1d1b8ea32392e68603d9132a594"), looks := false }, kinds := [], alts := [], laidByText := true, laidKinds := [.data, .pinned], laidTests := true, laidLooks := .later }
def RecordsKnownCardSaid : Prop := Claim7.holds Tryd.pinned (.plain (OpenSpec.ofChange recordsKnownSpec)) recordsKnownCard

/-- THE SECOND FORM's CARD OF 'limewashlaw05.RecordsSeals'. -/
def recordsSealsUptoCard : Claim7 := { stood := { row := recordsSealsUptoRow, standIns := [], harness := (true, "d32c3ae351b504b3e0a3b6ca6b46850b1e10d1d1b8ea32392e68603d9132a594"), looks := false }, kinds := [], alts := [], laidByText := true, laidKinds := [.data, .data, .pinned], laidTests := true, laidLooks := .later }
def RecordsSealsUptoCardSaid : Prop := Claim7.holds Tryd.pinned (.plain (OpenSpec.upto recordsSealsSpec)) recordsSealsUptoCard

/-- THE SECOND FORM's CARD OF 'limewashlaw05.RecordsSealed'. -/
def recordsSealedUptoCard : Claim7 := { stood := { row := recordsSealedUptoRow, standIns := [], harness := (true, "d32c3ae351b504b3e0a3b6ca6b46850b1e10d1d1b8ea32392e68603d9132a594"), looks := false }, kinds := [], alts := [], laidByText := true, laidKinds := [.data, .data, .pinned], laidTests := true, laidLooks := .later }
def RecordsSealedUptoCardSaid : Prop := Claim7.holds Tryd.pinned (.plain (OpenSpec.upto recordsSealedSpec)) recordsSealedUptoCard

/-- THE SECOND FORM's CARD OF 'limewashlaw05.RecordsKnown'. -/
def recordsKnownUptoCard : Claim7 := { stood := { row := recordsKnownUptoRow, standIns := [], harness := (true, "d32c3ae351b504b3e0a3b6ca6b46850b1e10d1d1b8ea32392e68603d9132a594"), looks := false }, kinds := [], alts := [], laidByText := true, laidKinds := [.data, .pinned], laidTests := true, laidLooks := .later }
def RecordsKnownUptoCardSaid : Prop := Claim7.holds Tryd.pinned (.plain (OpenSpec.upto recordsKnownSpec)) recordsKnownUptoCard
end Rows
end Go.Proofs.YtnocmkjaifjgfaaDoor
