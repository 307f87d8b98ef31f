/-
  DERIVED. GIVEN WITH THE SEED: THE CARDS: each row of YtadaohjphgpdnaaDoorRows.lean that lists a variable, with what it lists TIED to the program's text (the seventh form; the later family's looks); each row that meets fmt, with fmt's text TOLD by the authors' own Lean function (tested against real Go, not proved from fmt's source: count such statements apart). THE CARD IS WHAT COUNTS. Prove the row's statement (the work); the ties are given (YtadaohjphgpdnaaDoorTie.lean); close each card by the builder's one call (the guide's Derived/Test/ToyasCard.lean, 'card_holds'). Laid BY PROGRAM, IN A SANDBOX (cutbox-door.mjs). By AI agents, Wed Nov 11 2026. No macro, syntax, notation, axiom, sorry.
-/
import Derived.Test.YtadaohjphgpdnaaDoorRows
import GoSem.ClaimSeven
namespace Go.Proofs.YtadaohjphgpdnaaDoor
namespace Rows

/-- THE TIED CARD OF 'limewashlaw04.SumsCrc'. -/
def sumsCrcCard : Claim7 := { stood := { row := sumsCrcRow, standIns := [], harness := (true, "de30144f2d7ac14c34d77032fc0ab45c724334e7fe7ad21abf151eb9555f4be5"), looks := false }, kinds := [], alts := [], laidByText := true, laidKinds := [.data], laidTests := true, laidLooks := .later }
def SumsCrcCardSaid : Prop := Claim7.holds Tryd.pinned (.plain (OpenSpec.ofChange sumsCrcSpec)) sumsCrcCard

/-- THE TIED CARD OF 'limewashlaw04.SumsZeros'. -/
def sumsZerosCard : Claim7 := { stood := { row := sumsZerosRow, standIns := [], harness := (true, "de30144f2d7ac14c34d77032fc0ab45c724334e7fe7ad21abf151eb9555f4be5"), looks := false }, kinds := [], alts := [], laidByText := true, laidKinds := [.data], laidTests := true, laidLooks := .later }
def SumsZerosCardSaid : Prop := Claim7.holds Tryd.pinned (.plain (OpenSpec.ofChange sumsZerosSpec)) sumsZerosCard

/-- THE TIED CARD OF 'limewashlaw04.SumsPatch'. -/
def sumsPatchCard : Claim7 := { stood := { row := sumsPatchRow, standIns := [], harness := (true, "de30144f2d7ac14c34d77032fc0ab45c724334e7fe7ad21abf151eb9555f4be5"), looks := false }, kinds := [], alts := [], laidByText := true, laidKinds := [.data], laidTests := true, laidLooks := .later }
def SumsPatchCardSaid : Prop := Claim7.holds Tryd.pinned (.plain (OpenSpec.ofChange sumsPatchSpec)) sumsPatchCard

/-- THE TIED CARD OF 'limewashlaw04.SumsLocate'. -/
def sumsLocateCard : Claim7 := { stood := { row := sumsLocateRow, standIns := [], harness := (true, "de30144f2d7ac14c34d77032fc0ab45c724334e7fe7ad21abf151eb9555f4be5"), looks := false }, kinds := [], alts := [], laidByText := true, laidKinds := [.data], laidTests := true, laidLooks := .later }
def SumsLocateCardSaid : Prop := Claim7.holds Tryd.pinned (.plain (OpenSpec.ofChange sumsLocateSpec)) sumsLocateCard

/-- THE TIED CARD OF 'limewashlaw04.SumsFound'. -/
def sumsFoundCard : Claim7 := { stood := { row := sumsFoundRow, standIns := [], harness := (true, "de30144f2d7ac14c34d77032fc0ab45c724334e7fe7ad21abf151eb9555f4be5"), looks := false }, kinds := [], alts := [], laidByText := true, laidKinds := [.data], laidTests := true, laidLooks := .later }
def SumsFoundCardSaid : Prop := Claim7.holds Tryd.pinned (.plain (OpenSpec.ofChange sumsFoundSpec)) sumsFoundCard

/-- THE TIED CARD OF 'limewashlaw04.SumsMixes'. -/
def sumsMixesCard : Claim7 := { stood := { row := sumsMixesRow, standIns := [], harness := (true, "de30144f2d7ac14c34d77032fc0ab45c724334e7fe7ad21abf151eb9555f4be5"), looks := false }, kinds := [], alts := [], laidByText := true, laidKinds := [.data], laidTests := true, laidLooks := .later }
def SumsMixesCardSaid : Prop := Claim7.holds Tryd.pinned (.plain (OpenSpec.ofChange sumsMixesSpec)) sumsMixesCard

/-- THE TIED CARD OF 'limewashlaw04.SumsBursts'. -/
def sumsBurstsCard : Claim7 := { stood := { row := sumsBurstsRow, standIns := [], harness := (true, "de30144f2d7ac14c34d77032fc0ab45c724334e7fe7ad21abf151eb9555f4be5"), looks := false }, kinds := [], alts := [], laidByText := true, laidKinds := [.data], laidTests := true, laidLooks := .later }
def SumsBurstsCardSaid : Prop := Claim7.holds Tryd.pinned (.plain (OpenSpec.ofChange sumsBurstsSpec)) sumsBurstsCard

/-- THE TIED CARD OF 'limewashlaw04.SumsParts'. -/
def sumsPartsCard : Claim7 := { stood := { row := sumsPartsRow, standIns := [], harness := (true, "de30144f2d7ac14c34d77032fc0ab45c724334e7fe7ad21abf151eb9555f4be5"), looks := false }, kinds := [], alts := [], laidByText := true, laidKinds := [.data], laidTests := true, laidLooks := .later }
def SumsPartsCardSaid : Prop := Claim7.holds Tryd.pinned (.plain (OpenSpec.ofChange sumsPartsSpec)) sumsPartsCard

/-- THE TIED CARD OF 'limewashlaw04.SumsLinear'. -/
def sumsLinearCard : Claim7 := { stood := { row := sumsLinearRow, standIns := [], harness := (true, "de30144f2d7ac14c34d77032fc0ab45c724334e7fe7ad21abf151eb9555f4be5"), looks := false }, kinds := [], alts := [], laidByText := true, laidKinds := [.data], laidTests := true, laidLooks := .later }
def SumsLinearCardSaid : Prop := Claim7.holds Tryd.pinned (.plain (OpenSpec.ofChange sumsLinearSpec)) sumsLinearCard

/-- THE TIED CARD OF 'limewashlaw04.SumsKnown'. -/
def sumsKnownCard : Claim7 := { stood := { row := sumsKnownRow, standIns := [], harness := (true, "de30144f2d7ac14c34d77032fc0ab45c724334e7fe7ad21abf151eb9555f4be5"), looks := false }, kinds := [], alts := [], laidByText := true, laidKinds := [.data], laidTests := true, laidLooks := .later }
def SumsKnownCardSaid : Prop := Claim7.holds Tryd.pinned (.plain (OpenSpec.ofChange sumsKnownSpec)) sumsKnownCard

/-- THE SECOND FORM's CARD OF 'limewashlaw04.SumsCrc'. -/
def sumsCrcUptoCard : Claim7 := { stood := { row := sumsCrcUptoRow, standIns := [], harness := (true, "de30144f2d7ac14c34d77032fc0ab45c724334e7fe7ad21abf151eb9555f4be5"), looks := false }, kinds := [], alts := [], laidByText := true, laidKinds := [.data], laidTests := true, laidLooks := .later }
def SumsCrcUptoCardSaid : Prop := Claim7.holds Tryd.pinned (.plain (OpenSpec.upto sumsCrcSpec)) sumsCrcUptoCard

/-- THE SECOND FORM's CARD OF 'limewashlaw04.SumsZeros'. -/
def sumsZerosUptoCard : Claim7 := { stood := { row := sumsZerosUptoRow, standIns := [], harness := (true, "de30144f2d7ac14c34d77032fc0ab45c724334e7fe7ad21abf151eb9555f4be5"), looks := false }, kinds := [], alts := [], laidByText := true, laidKinds := [.data], laidTests := true, laidLooks := .later }
def SumsZerosUptoCardSaid : Prop := Claim7.holds Tryd.pinned (.plain (OpenSpec.upto sumsZerosSpec)) sumsZerosUptoCard

/-- THE SECOND FORM's CARD OF 'limewashlaw04.SumsPatch'. -/
def sumsPatchUptoCard : Claim7 := { stood := { row := sumsPatchUptoRow, standIns := [], harness := (true, "de30144f2d7ac14c34d77032fc0ab45c724334e7fe7ad21abf151eb9555f4be5"), looks := false }, kinds := [], alts := [], laidByText := true, laidKinds := [.data], laidTests := true, laidLooks := .later }
def SumsPatchUptoCardSaid : Prop := Claim7.holds Tryd.pinned (.plain (OpenSpec.upto sumsPatchSpec)) sumsPatchUptoCard

/-- THE SECOND FORM's CARD OF 'limewashlaw04.SumsLocate'. -/
def sumsLocateUptoCard : Claim7 := { stood := { row := sumsLocateUptoRow, standIns := [], harness := (true, "de30144f2d7ac14c34d77032fc0ab45c724334e7fe7ad21abf151eb9555f4be5"), looks := false }, kinds := [], alts := [], laidByText := true, laidKinds := [.data], laidTests := true, laidLooks := .later }
def SumsLocateUptoCardSaid : Prop := Claim7.holds Tryd.pinned (.plain (OpenSpec.upto sumsLocateSpec)) sumsLocateUptoCard

/-- THE SECOND FORM's CARD OF 'limewashlaw04.SumsFound'. -/
def sumsFoundUptoCard : Claim7 := { stood := { row := sumsFoundUptoRow, standIns := [], harness := (true, "de30144f2d7ac14c34d77032fc0ab45c724334e7fe7ad21abf151eb9555f4be5"), looks := false }, kinds := [], alts := [], laidByText := true, laidKinds := [.data], laidTests := true, laidLooks := .later }
def SumsFoundUptoCardSaid : Prop := Claim7.holds Tryd.pinned (.plain (OpenSpec.upto sumsFoundSpec)) sumsFoundUptoCard

/-- THE SECOND FORM's CARD OF 'limewashlaw04.SumsMixes'. -/
def sumsMixesUptoCard : Claim7 := { stood := { row := sumsMixesUptoRow, standIns := [], harness := (true, "de30144f2d7ac14c34d77032fc0ab45c724334e7fe7ad21abf151eb9555f4be5"), looks := false }, kinds := [], alts := [], laidByText := true, laidKinds := [.data], laidTests := true, laidLooks := .later }
def SumsMixesUptoCardSaid : Prop := Claim7.holds Tryd.pinned (.plain (OpenSpec.upto sumsMixesSpec)) sumsMixesUptoCard

/-- THE SECOND FORM's CARD OF 'limewashlaw04.SumsBursts'. -/
def sumsBurstsUptoCard : Claim7 := { stood := { row := sumsBurstsUptoRow, standIns := [], harness := (true, "de30144f2d7ac14c34d77032fc0ab45c724334e7fe7ad21abf151eb9555f4be5"), looks := false }, kinds := [], alts := [], laidByText := true, laidKinds := [.data], laidTests := true, laidLooks := .later }
def SumsBurstsUptoCardSaid : Prop := Claim7.holds Tryd.pinned (.plain (OpenSpec.upto sumsBurstsSpec)) sumsBurstsUptoCard

/-- THE SECOND FORM's CARD OF 'limewashlaw04.SumsParts'. -/
def sumsPartsUptoCard : Claim7 := { stood := { row := sumsPartsUptoRow, standIns := [], harness := (true, "de30144f2d7ac14c34d77032fc0ab45c724334e7fe7ad21abf151eb9555f4be5"), looks := false }, kinds := [], alts := [], laidByText := true, laidKinds := [.data], laidTests := true, laidLooks := .later }
def SumsPartsUptoCardSaid : Prop := Claim7.holds Tryd.pinned (.plain (OpenSpec.upto sumsPartsSpec)) sumsPartsUptoCard

/-- THE SECOND FORM's CARD OF 'limewashlaw04.SumsLinear'. -/
def sumsLinearUptoCard : Claim7 := { stood := { row := sumsLinearUptoRow, standIns := [], harness := (true, "de30144f2d7ac14c34d77032fc0ab45c724334e7fe7ad21abf151eb9555f4be5"), looks := false }, kinds := [], alts := [], laidByText := true, laidKinds := [.data], laidTests := true, laidLooks := .later }
def SumsLinearUptoCardSaid : Prop := Claim7.holds Tryd.pinned (.plain (OpenSpec.upto sumsLinearSpec)) sumsLinearUptoCard

/-- THE SECOND FORM's CARD OF 'limewashlaw04.SumsKnown'. -/
def sumsKnownUptoCard : Claim7 := { stood := { row := sumsKnownUptoRow, standIns := [], harness := (true, "de30144f2d7ac14c34d77032fc0ab45c724334e7fe7ad21abf151eb9555f4be5"), looks := false }, kinds := [], alts := [], laidByText := true, laidKinds := [.data], laidTests := true, laidLooks := .later }
def SumsKnownUptoCardSaid : Prop := Claim7.holds Tryd.pinned (.plain (OpenSpec.upto sumsKnownSpec)) sumsKnownUptoCard
end Rows
end Go.Proofs.YtadaohjphgpdnaaDoor
