/-
  DERIVED. GIVEN WITH THE SEED: THE CARDS: each row of YtkhgaigipfolaaaDoorRows.lean that lists a variable, with what it lists TIED to the program's text (the seventh form; the later family's looks); each row that meets fmt, with fmt's text TOLD by the authors' own Lean function (tested against real Go, not proved from fmt's source: count such statements apart). THE CARD IS WHAT COUNTS. Prove the row's statement (the work); the ties are given (YtkhgaigipfolaaaDoorTie.lean); close each card by the builder's one call (the guide's Derived/Test/ToyasCard.lean, 'card_holds'). Laid BY PROGRAM, IN A SANDBOX (cutbox-door.mjs). By AI agents, Wed Nov 11 2026. No macro, syntax, notation, axiom, sorry.
-/
import Derived.Test.YtkhgaigipfolaaaDoorRows
import GoSem.ClaimSeven
namespace Go.Proofs.YtkhgaigipfolaaaDoor
namespace Rows

/-- THE TIED CARD OF 'amphoralaw03.ReedPlaces'. -/
def reedPlacesCard : Claim7 := { stood := { row := reedPlacesRow, standIns := [], harness := (true, "56710035d88ee85da70b3a3eeeaf6f64ca0b9906a149a9a2a8cecc96f2646db8"), looks := false }, kinds := [], alts := [], laidByText := true, laidKinds := [.data], laidTests := true, laidLooks := .later }
def ReedPlacesCardSaid : Prop := Claim7.holds Tryd.pinned (.plain (OpenSpec.ofChange reedPlacesSpec)) reedPlacesCard

/-- THE TIED CARD OF 'amphoralaw03.ReedLinear'. -/
def reedLinearCard : Claim7 := { stood := { row := reedLinearRow, standIns := [], harness := (true, "56710035d88ee85da70b3a3eeeaf6f64ca0b9906a149a9a2a8cecc96f2646db8"), looks := false }, kinds := [], alts := [], laidByText := true, laidKinds := [.data], laidTests := true, laidLooks := .later }
def ReedLinearCardSaid : Prop := Claim7.holds Tryd.pinned (.plain (OpenSpec.ofChange reedLinearSpec)) reedLinearCard

/-- THE TIED CARD OF 'amphoralaw03.ReedTurned'. -/
def reedTurnedCard : Claim7 := { stood := { row := reedTurnedRow, standIns := [], harness := (true, "56710035d88ee85da70b3a3eeeaf6f64ca0b9906a149a9a2a8cecc96f2646db8"), looks := false }, kinds := [], alts := [], laidByText := true, laidKinds := [.data], laidTests := true, laidLooks := .later }
def ReedTurnedCardSaid : Prop := Claim7.holds Tryd.pinned (.plain (OpenSpec.ofChange reedTurnedSpec)) reedTurnedCard

/-- THE TIED CARD OF 'amphoralaw04.StripeUnits'. -/
def stripeUnitsCard : Claim7 := { stood := { row := stripeUnitsRow, standIns := [], harness := (true, "56710035d88ee85da70b3a3eeeaf6f64ca0b9906a149a9a2a8cecc96f2646db8"), looks := false }, kinds := [], alts := [], laidByText := true, laidKinds := [.data], laidTests := true, laidLooks := .later }
def StripeUnitsCardSaid : Prop := Claim7.holds Tryd.pinned (.plain (OpenSpec.ofChange stripeUnitsSpec)) stripeUnitsCard

/-- THE TIED CARD OF 'amphoralaw04.StripeApart'. -/
def stripeApartCard : Claim7 := { stood := { row := stripeApartRow, standIns := [], harness := (true, "56710035d88ee85da70b3a3eeeaf6f64ca0b9906a149a9a2a8cecc96f2646db8"), looks := false }, kinds := [], alts := [], laidByText := true, laidKinds := [.data], laidTests := true, laidLooks := .later }
def StripeApartCardSaid : Prop := Claim7.holds Tryd.pinned (.plain (OpenSpec.ofChange stripeApartSpec)) stripeApartCard

/-- THE SECOND FORM's CARD OF 'amphoralaw03.ReedPlaces'. -/
def reedPlacesUptoCard : Claim7 := { stood := { row := reedPlacesUptoRow, standIns := [], harness := (true, "56710035d88ee85da70b3a3eeeaf6f64ca0b9906a149a9a2a8cecc96f2646db8"), looks := false }, kinds := [], alts := [], laidByText := true, laidKinds := [.data], laidTests := true, laidLooks := .later }
def ReedPlacesUptoCardSaid : Prop := Claim7.holds Tryd.pinned (.plain (OpenSpec.upto reedPlacesSpec)) reedPlacesUptoCard

/-- THE SECOND FORM's CARD OF 'amphoralaw03.ReedLinear'. -/
def reedLinearUptoCard : Claim7 := { stood := { row := reedLinearUptoRow, standIns := [], harness := (true, "56710035d88ee85da70b3a3eeeaf6f64ca0b9906a149a9a2a8cecc96f2646db8"), looks := false }, kinds := [], alts := [], laidByText := true, laidKinds := [.data], laidTests := true, laidLooks := .later }
def ReedLinearUptoCardSaid : Prop := Claim7.holds Tryd.pinned (.plain (OpenSpec.upto reedLinearSpec)) reedLinearUptoCard

/-- THE SECOND FORM's CARD OF 'amphoralaw03.ReedTurned'. -/
def reedTurnedUptoCard : Claim7 := { stood := { row := reedTurnedUptoRow, standIns := [], harness := (true, "56710035d88ee85da70b3a3eeeaf6f64ca0b9906a149a9a2a8cecc96f2646db8"), looks := false }, kinds := [], alts := [], laidByText := true, laidKinds := [.data], laidTests := true, laidLooks := .later }
def ReedTurnedUptoCardSaid : Prop := Claim7.holds Tryd.pinned (.plain (OpenSpec.upto reedTurnedSpec)) reedTurnedUptoCard

/-- THE SECOND FORM's CARD OF 'amphoralaw04.StripeUnits'. -/
def stripeUnitsUptoCard : Claim7 := { stood := { row := stripeUnitsUptoRow, standIns := [], harness := (true, "56710035d88ee85da70b3a3eeeaf6f64ca0b9906a149a9a2a8cecc96f2646db8"), looks := false }, kinds := [], alts := [], laidByText := true, laidKinds := [.data], laidTests := true, laidLooks := .later }
def StripeUnitsUptoCardSaid : Prop := Claim7.holds Tryd.pinned (.plain (OpenSpec.upto stripeUnitsSpec)) stripeUnitsUptoCard

/-- THE SECOND FORM's CARD OF 'amphoralaw04.StripeApart'. -/
def stripeApartUptoCard : Claim7 := { stood := { row := stripeApartUptoRow, standIns := [], harness := (true, "56710035d88ee85da70b3a3eeeaf6f64ca0b9906a149a9a2a8cecc96f2646db8"), looks := false }, kinds := [], alts := [], laidByText := true, laidKinds := [.data], laidTests := true, laidLooks := .later }
def StripeApartUptoCardSaid : Prop := Claim7.holds Tryd.pinned (.plain (OpenSpec.upto stripeApartSpec)) stripeApartUptoCard
end Rows
end Go.Proofs.YtkhgaigipfolaaaDoor
