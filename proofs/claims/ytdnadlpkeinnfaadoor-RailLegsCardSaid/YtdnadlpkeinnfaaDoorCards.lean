/-
  DERIVED. GIVEN WITH THE SEED: THE CARDS: each row of YtdnadlpkeinnfaaDoorRows.lean that lists a variable, with what it lists TIED to the program's text (the seventh form; the later family's looks); each row that meets fmt, with fmt's text TOLD by the authors' own Lean function (tested against real Go, not proved from fmt's source: count such statements apart). THE CARD IS WHAT COUNTS. Prove the row's statement (the work); the ties are given (YtdnadlpkeinnfaaDoorTie.lean); close each card by the builder's one call (the guide's Derived/Test/ToyasCard.lean, 'card_holds'). Laid BY PROGRAM, IN A SANDBOX (cutbox-door.mjs). By AI agents, Wed Nov 11 2026. No macro, syntax, notation, axiom, sorry.
-/
import Derived.Test.YtdnadlpkeinnfaaDoorRows
import GoSem.ClaimSeven
namespace Go.Proofs.YtdnadlpkeinnfaaDoor
namespace Rows

/-- THE TIED CARD OF 'signallinglaw06.RailSides'. -/
def railSidesCard : Claim7 := { stood := { row := railSidesRow, standIns := [], harness := (true, "436d857febf747cb3b5b48638de31e6e5fda2aa41795f9d3ea0d5a55277f2508"), looks := false }, kinds := [], alts := [], laidByText := true, laidKinds := [.data, .data], laidTests := true, laidLooks := .later }
def RailSidesCardSaid : Prop := Claim7.holds Tryd.pinned (.plain (OpenSpec.ofChange railSidesSpec)) railSidesCard

/-- THE TIED CARD OF 'signallinglaw06.RailPassages'. -/
def railPassagesCard : Claim7 := { stood := { row := railPassagesRow, standIns := [], harness := (true, "436d857febf747cb3b5b48638de31e6e5fda2aa41795f9d3ea0d5a55277f2508"), looks := false }, kinds := [], alts := [], laidByText := true, laidKinds := [.data, .data], laidTests := true, laidLooks := .later }
def RailPassagesCardSaid : Prop := Claim7.holds Tryd.pinned (.plain (OpenSpec.ofChange railPassagesSpec)) railPassagesCard

/-- THE TIED CARD OF 'signallinglaw06.RailSymmetric'. -/
def railSymmetricCard : Claim7 := { stood := { row := railSymmetricRow, standIns := [], harness := (true, "436d857febf747cb3b5b48638de31e6e5fda2aa41795f9d3ea0d5a55277f2508"), looks := false }, kinds := [], alts := [], laidByText := true, laidKinds := [.data, .data], laidTests := true, laidLooks := .later }
def RailSymmetricCardSaid : Prop := Claim7.holds Tryd.pinned (.plain (OpenSpec.ofChange railSymmetricSpec)) railSymmetricCard

/-- THE TIED CARD OF 'signallinglaw06.RailPositions'. -/
def railPositionsCard : Claim7 := { stood := { row := railPositionsRow, standIns := [], harness := (true, "436d857febf747cb3b5b48638de31e6e5fda2aa41795f9d3ea0d5a55277f2508"), looks := false }, kinds := [], alts := [], laidByText := true, laidKinds := [.data, .data], laidTests := true, laidLooks := .later }
def RailPositionsCardSaid : Prop := Claim7.holds Tryd.pinned (.plain (OpenSpec.ofChange railPositionsSpec)) railPositionsCard

/-- THE TIED CARD OF 'signallinglaw06.RailLegs'. -/
def railLegsCard : Claim7 := { stood := { row := railLegsRow, standIns := [], harness := (true, "436d857febf747cb3b5b48638de31e6e5fda2aa41795f9d3ea0d5a55277f2508"), looks := false }, kinds := [], alts := [], laidByText := true, laidKinds := [.data, .data], laidTests := true, laidLooks := .later }
def RailLegsCardSaid : Prop := Claim7.holds Tryd.pinned (.plain (OpenSpec.ofChange railLegsSpec)) railLegsCard

/-- THE SECOND FORM's CARD OF 'signallinglaw06.RailSides'. -/
def railSidesUptoCard : Claim7 := { stood := { row := railSidesUptoRow, standIns := [], harness := (true, "436d857febf747cb3b5b48638de31e6e5fda2aa41795f9d3ea0d5a55277f2508"), looks := false }, kinds := [], alts := [], laidByText := true, laidKinds := [.data, .data], laidTests := true, laidLooks := .later }
def RailSidesUptoCardSaid : Prop := Claim7.holds Tryd.pinned (.plain (OpenSpec.upto railSidesSpec)) railSidesUptoCard

/-- THE SECOND FORM's CARD OF 'signallinglaw06.RailPassages'. -/
def railPassagesUptoCard : Claim7 := { stood := { row := railPassagesUptoRow, standIns := [], harness := (true, "436d857febf747cb3b5b48638de31e6e5fda2aa41795f9d3ea0d5a55277f2508"), looks := false }, kinds := [], alts := [], laidByText := true, laidKinds := [.data, .data], laidTests := true, laidLooks := .later }
def RailPassagesUptoCardSaid : Prop := Claim7.holds Tryd.pinned (.plain (OpenSpec.upto railPassagesSpec)) railPassagesUptoCard

/-- THE SECOND FORM's CARD OF 'signallinglaw06.RailSymmetric'. -/
def railSymmetricUptoCard : Claim7 := { stood := { row := railSymmetricUptoRow, standIns := [], harness := (true, "436d857febf747cb3b5b48638de31e6e5fda2aa41795f9d3ea0d5a55277f2508"), looks := false }, kinds := [], alts := [], laidByText := true, laidKinds := [.data, .data], laidTests := true, laidLooks := .later }
def RailSymmetricUptoCardSaid : Prop := Claim7.holds Tryd.pinned (.plain (OpenSpec.upto railSymmetricSpec)) railSymmetricUptoCard

/-- THE SECOND FORM's CARD OF 'signallinglaw06.RailPositions'. -/
def railPositionsUptoCard : Claim7 := { stood := { row := railPositionsUptoRow, standIns := [], harness := (true, "436d857febf747cb3b5b48638de31e6e5fda2aa41795f9d3ea0d5a55277f2508"), looks := false }, kinds := [], alts := [], laidByText := true, laidKinds := [.data, .data], laidTests := true, laidLooks := .later }
def RailPositionsUptoCardSaid : Prop := Claim7.holds Tryd.pinned (.plain (OpenSpec.upto railPositionsSpec)) railPositionsUptoCard

/-- THE SECOND FORM's CARD OF 'signallinglaw06.RailLegs'. -/
def railLegsUptoCard : Claim7 := { stood := { row := railLegsUptoRow, standIns := [], harness := (true, "436d857febf747cb3b5b48638de31e6e5fda2aa41795f9d3ea0d5a55277f2508"), looks := false }, kinds := [], alts := [], laidByText := true, laidKinds := [.data, .data], laidTests := true, laidLooks := .later }
def RailLegsUptoCardSaid : Prop := Claim7.holds Tryd.pinned (.plain (OpenSpec.upto railLegsSpec)) railLegsUptoCard
end Rows
end Go.Proofs.YtdnadlpkeinnfaaDoor
