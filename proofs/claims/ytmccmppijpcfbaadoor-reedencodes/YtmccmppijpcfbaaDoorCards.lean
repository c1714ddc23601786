/-
  DERIVED. GIVEN WITH THE SEED: THE CARDS: each row of YtmccmppijpcfbaaDoorRows.lean that lists a variable, with what it lists TIED to the program's text (the seventh form; the later family's looks); each row that meets fmt, with fmt's text TOLD by the authors' own Lean function (tested against real Go, not proved from fmt's source: count such statements apart). THE CARD IS WHAT COUNTS. Prove the row's statement (the work); the ties are given (YtmccmppijpcfbaaDoorTie.lean); close each card by the builder's one call (the guide's Derived/Test/ToyasCard.lean, 'card_holds'). Laid BY PROGRAM, IN A SANDBOX (cutbox-door.mjs). By AI agents, Wed Nov 11 2026. No macro, syntax, notation, axiom, sorry.
-/
import Derived.Test.YtmccmppijpcfbaaDoorRows
import GoSem.ClaimSeven
namespace Go.Proofs.YtmccmppijpcfbaaDoor
namespace Rows

/-- THE TIED CARD OF 'amphoralaw03.ReedFew'. -/
def reedFewCard : Claim7 := { stood := { row := reedFewRow, standIns := [], harness := (true, "6654da944f055945038c292c0d09bcaba2f4aab35c76e56ec00df0a4e3f7ee8e"), looks := false }, kinds := [], alts := [], laidByText := true, laidKinds := [.data], laidTests := true, laidLooks := .later }
def ReedFewCardSaid : Prop := Claim7.holds Tryd.pinned (.plain (OpenSpec.ofChange reedFewSpec)) reedFewCard

/-- THE TIED CARD OF 'amphoralaw03.ReedRepairs'. -/
def reedRepairsCard : Claim7 := { stood := { row := reedRepairsRow, standIns := [], harness := (true, "6654da944f055945038c292c0d09bcaba2f4aab35c76e56ec00df0a4e3f7ee8e"), looks := false }, kinds := [], alts := [], laidByText := true, laidKinds := [.data], laidTests := true, laidLooks := .later }
def ReedRepairsCardSaid : Prop := Claim7.holds Tryd.pinned (.plain (OpenSpec.ofChange reedRepairsSpec)) reedRepairsCard

/-- THE TIED CARD OF 'amphoralaw03.ReedAny'. -/
def reedAnyCard : Claim7 := { stood := { row := reedAnyRow, standIns := [], harness := (true, "6654da944f055945038c292c0d09bcaba2f4aab35c76e56ec00df0a4e3f7ee8e"), looks := false }, kinds := [], alts := [], laidByText := true, laidKinds := [.data], laidTests := true, laidLooks := .later }
def ReedAnyCardSaid : Prop := Claim7.holds Tryd.pinned (.plain (OpenSpec.ofChange reedAnySpec)) reedAnyCard

/-- THE TIED CARD OF 'amphoralaw04.StripeBack'. -/
def stripeBackCard : Claim7 := { stood := { row := stripeBackRow, standIns := [], harness := (true, "6654da944f055945038c292c0d09bcaba2f4aab35c76e56ec00df0a4e3f7ee8e"), looks := false }, kinds := [], alts := [], laidByText := true, laidKinds := [.data], laidTests := true, laidLooks := .later }
def StripeBackCardSaid : Prop := Claim7.holds Tryd.pinned (.plain (OpenSpec.ofChange stripeBackSpec)) stripeBackCard

/-- THE TIED CARD OF 'amphoralaw03.ReedEncodes'. -/
def reedEncodesCard : Claim7 := { stood := { row := reedEncodesRow, standIns := [], harness := (true, "6654da944f055945038c292c0d09bcaba2f4aab35c76e56ec00df0a4e3f7ee8e"), looks := false }, kinds := [], alts := [], laidByText := true, laidKinds := [.data], laidTests := true, laidLooks := .later }
def ReedEncodesCardSaid : Prop := Claim7.holds Tryd.pinned (.plain (OpenSpec.ofChange reedEncodesSpec)) reedEncodesCard

/-- THE TIED CARD OF 'amphoralaw04.StripeCuts'. -/
def stripeCutsCard : Claim7 := { stood := { row := stripeCutsRow, standIns := [], harness := (true, "6654da944f055945038c292c0d09bcaba2f4aab35c76e56ec00df0a4e3f7ee8e"), looks := false }, kinds := [], alts := [], laidByText := true, laidKinds := [.data], laidTests := true, laidLooks := .later }
def StripeCutsCardSaid : Prop := Claim7.holds Tryd.pinned (.plain (OpenSpec.ofChange stripeCutsSpec)) stripeCutsCard

/-- THE SECOND FORM's CARD OF 'amphoralaw03.ReedFew'. -/
def reedFewUptoCard : Claim7 := { stood := { row := reedFewUptoRow, standIns := [], harness := (true, "6654da944f055945038c292c0d09bcaba2f4aab35c76e56ec00df0a4e3f7ee8e"), looks := false }, kinds := [], alts := [], laidByText := true, laidKinds := [.data], laidTests := true, laidLooks := .later }
def ReedFewUptoCardSaid : Prop := Claim7.holds Tryd.pinned (.plain (OpenSpec.upto reedFewSpec)) reedFewUptoCard

/-- THE SECOND FORM's CARD OF 'amphoralaw03.ReedRepairs'. -/
def reedRepairsUptoCard : Claim7 := { stood := { row := reedRepairsUptoRow, standIns := [], harness := (true, "6654da944f055945038c292c0d09bcaba2f4aab35c76e56ec00df0a4e3f7ee8e"), looks := false }, kinds := [], alts := [], laidByText := true, laidKinds := [.data], laidTests := true, laidLooks := .later }
def ReedRepairsUptoCardSaid : Prop := Claim7.holds Tryd.pinned (.plain (OpenSpec.upto reedRepairsSpec)) reedRepairsUptoCard

/-- THE SECOND FORM's CARD OF 'amphoralaw03.ReedAny'. -/
def reedAnyUptoCard : Claim7 := { stood := { row := reedAnyUptoRow, standIns := [], harness := (true, "6654da944f055945038c292c0d09bcaba2f4aab35c76e56ec00df0a4e3f7ee8e"), looks := false }, kinds := [], alts := [], laidByText := true, laidKinds := [.data], laidTests := true, laidLooks := .later }
def ReedAnyUptoCardSaid : Prop := Claim7.holds Tryd.pinned (.plain (OpenSpec.upto reedAnySpec)) reedAnyUptoCard

/-- THE SECOND FORM's CARD OF 'amphoralaw04.StripeBack'. -/
def stripeBackUptoCard : Claim7 := { stood := { row := stripeBackUptoRow, standIns := [], harness := (true, "6654da944f055945038c292c0d09bcaba2f4aab35c76e56ec00df0a4e3f7ee8e"), looks := false }, kinds := [], alts := [], laidByText := true, laidKinds := [.data], laidTests := true, laidLooks := .later }
def StripeBackUptoCardSaid : Prop := Claim7.holds Tryd.pinned (.plain (OpenSpec.upto stripeBackSpec)) stripeBackUptoCard

/-- THE SECOND FORM's CARD OF 'amphoralaw03.ReedEncodes'. -/
def reedEncodesUptoCard : Claim7 := { stood := { row := reedEncodesUptoRow, standIns := [], harness := (true, "6654da944f055945038c292c0d09bcaba2f4aab35c76e56ec00df0a4e3f7ee8e"), looks := false }, kinds := [], alts := [], laidByText := true, laidKinds := [.data], laidTests := true, laidLooks := .later }
def ReedEncodesUptoCardSaid : Prop := Claim7.holds Tryd.pinned (.plain (OpenSpec.upto reedEncodesSpec)) reedEncodesUptoCard

/-- THE SECOND FORM's CARD OF 'amphoralaw04.StripeCuts'. -/
def stripeCutsUptoCard : Claim7 := { stood := { row := stripeCutsUptoRow, standIns := [], harness := (true, "6654da944f055945038c292c0d09bcaba2f4aab35c76e56ec00df0a4e3f7ee8e"), looks := false }, kinds := [], alts := [], laidByText := true, laidKinds := [.data], laidTests := true, laidLooks := .later }
def StripeCutsUptoCardSaid : Prop := Claim7.holds Tryd.pinned (.plain (OpenSpec.upto stripeCutsSpec)) stripeCutsUptoCard
end Rows
end Go.Proofs.YtmccmppijpcfbaaDoor
