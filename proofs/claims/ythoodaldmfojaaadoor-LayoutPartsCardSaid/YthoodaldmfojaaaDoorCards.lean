/-
  DERIVED. GIVEN WITH THE SEED: THE CARDS: each row of YthoodaldmfojaaaDoorRows.lean that lists a variable, with what it lists TIED to the program's text (the seventh form; the later family's looks); each row that meets fmt, with fmt's text TOLD by the authors' own Lean function (tested against real Go, not proved from fmt's source: count such statements apart). THE CARD IS WHAT COUNTS. Prove the row's statement (the work); the ties are given (YthoodaldmfojaaaDoorTie.lean); close each card by the builder's one call (the guide's Derived/Test/ToyasCard.lean, 'card_holds'). Laid BY PROGRAM, IN A SANDBOX (cutbox-door.mjs). By AI agents, Wed Nov 11 2026. No macro, syntax, notation, axiom, sorry.
-/
import Derived.Test.YthoodaldmfojaaaDoorRows
import GoSem.ClaimSeven
namespace Go.Proofs.YthoodaldmfojaaaDoor
namespace Rows

/-- THE TIED CARD OF 'signallinglaw07.LayoutChecks'. -/
def layoutChecksCard : Claim7 := { stood := { row := layoutChecksRow, standIns := [], harness := (true, "d59da57dc31c3adff454d559eaf7153ccae06930bd08e6f8d96fe6d5712b7c54"), looks := false }, kinds := [], alts := [], laidByText := true, laidKinds := [.data], laidTests := true, laidLooks := .later }
def LayoutChecksCardSaid : Prop := Claim7.holds Tryd.pinned (.plain (OpenSpec.ofChange layoutChecksSpec)) layoutChecksCard

/-- THE TIED CARD OF 'signallinglaw07.LayoutJoins'. -/
def layoutJoinsCard : Claim7 := { stood := { row := layoutJoinsRow, standIns := [], harness := (true, "d59da57dc31c3adff454d559eaf7153ccae06930bd08e6f8d96fe6d5712b7c54"), looks := false }, kinds := [], alts := [], laidByText := true, laidKinds := [.data], laidTests := true, laidLooks := .later }
def LayoutJoinsCardSaid : Prop := Claim7.holds Tryd.pinned (.plain (OpenSpec.ofChange layoutJoinsSpec)) layoutJoinsCard

/-- THE TIED CARD OF 'signallinglaw07.LayoutParts'. -/
def layoutPartsCard : Claim7 := { stood := { row := layoutPartsRow, standIns := [], harness := (true, "d59da57dc31c3adff454d559eaf7153ccae06930bd08e6f8d96fe6d5712b7c54"), looks := false }, kinds := [], alts := [], laidByText := true, laidKinds := [.data], laidTests := true, laidLooks := .later }
def LayoutPartsCardSaid : Prop := Claim7.holds Tryd.pinned (.plain (OpenSpec.ofChange layoutPartsSpec)) layoutPartsCard

/-- THE TIED CARD OF 'signallinglaw07.LayoutRemoves'. -/
def layoutRemovesCard : Claim7 := { stood := { row := layoutRemovesRow, standIns := [], harness := (true, "d59da57dc31c3adff454d559eaf7153ccae06930bd08e6f8d96fe6d5712b7c54"), looks := false }, kinds := [], alts := [], laidByText := true, laidKinds := [.data], laidTests := true, laidLooks := .later }
def LayoutRemovesCardSaid : Prop := Claim7.holds Tryd.pinned (.plain (OpenSpec.ofChange layoutRemovesSpec)) layoutRemovesCard

/-- THE SECOND FORM's CARD OF 'signallinglaw07.LayoutChecks'. -/
def layoutChecksUptoCard : Claim7 := { stood := { row := layoutChecksUptoRow, standIns := [], harness := (true, "d59da57dc31c3adff454d559eaf7153ccae06930bd08e6f8d96fe6d5712b7c54"), looks := false }, kinds := [], alts := [], laidByText := true, laidKinds := [.data], laidTests := true, laidLooks := .later }
def LayoutChecksUptoCardSaid : Prop := Claim7.holds Tryd.pinned (.plain (OpenSpec.upto layoutChecksSpec)) layoutChecksUptoCard

/-- THE SECOND FORM's CARD OF 'signallinglaw07.LayoutJoins'. -/
def layoutJoinsUptoCard : Claim7 := { stood := { row := layoutJoinsUptoRow, standIns := [], harness := (true, "d59da57dc31c3adff454d559eaf7153ccae06930bd08e6f8d96fe6d5712b7c54"), looks := false }, kinds := [], alts := [], laidByText := true, laidKinds := [.data], laidTests := true, laidLooks := .later }
def LayoutJoinsUptoCardSaid : Prop := Claim7.holds Tryd.pinned (.plain (OpenSpec.upto layoutJoinsSpec)) layoutJoinsUptoCard

/-- THE SECOND FORM's CARD OF 'signallinglaw07.LayoutParts'. -/
def layoutPartsUptoCard : Claim7 := { stood := { row := layoutPartsUptoRow, standIns := [], harness := (true, "d59da57dc31c3adff454d559eaf7153ccae06930bd08e6f8d96fe6d5712b7c54"), looks := false }, kinds := [], alts := [], laidByText := true, laidKinds := [.data], laidTests := true, laidLooks := .later }
def LayoutPartsUptoCardSaid : Prop := Claim7.holds Tryd.pinned (.plain (OpenSpec.upto layoutPartsSpec)) layoutPartsUptoCard

/-- THE SECOND FORM's CARD OF 'signallinglaw07.LayoutRemoves'. -/
def layoutRemovesUptoCard : Claim7 := { stood := { row := layoutRemovesUptoRow, standIns := [], harness := (true, "d59da57dc31c3adff454d559eaf7153ccae06930bd08e6f8d96fe6d5712b7c54"), looks := false }, kinds := [], alts := [], laidByText := true, laidKinds := [.data], laidTests := true, laidLooks := .later }
def LayoutRemovesUptoCardSaid : Prop := Claim7.holds Tryd.pinned (.plain (OpenSpec.upto layoutRemovesSpec)) layoutRemovesUptoCard
end Rows
end Go.Proofs.YthoodaldmfojaaaDoor
