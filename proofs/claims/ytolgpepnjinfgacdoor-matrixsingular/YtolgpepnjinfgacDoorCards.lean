/-
  DERIVED. GIVEN WITH THE SEED: THE CARDS: each row of YtolgpepnjinfgacDoorRows.lean that lists a variable, with what it lists TIED to the program's text (the seventh form; the later family's looks); each row that meets fmt, with fmt's text TOLD by the authors' own Lean function (tested against real Go, not proved from fmt's source: count such statements apart). THE CARD IS WHAT COUNTS. Prove the row's statement (the work); the ties are given (YtolgpepnjinfgacDoorTie.lean); close each card by the builder's one call (the guide's Derived/Test/ToyasCard.lean, 'card_holds'). Laid BY PROGRAM, IN A SANDBOX (cutbox-door.mjs). By AI agents, Wed Nov 11 2026. No macro, syntax, notation, axiom, sorry.
-/
import Derived.Test.YtolgpepnjinfgacDoorRows
import GoSem.ClaimSeven
namespace Go.Proofs.YtolgpepnjinfgacDoor
namespace Rows

/-- THE TIED CARD OF 'amphoralaw02.MatrixSingular'. -/
def matrixSingularCard : Claim7 := { stood := { row := matrixSingularRow, standIns := [], harness := (true, "77f2a57e3b8b6b60ff201f7307cd1ddd4cb445bb08cb5027de2a63bcfdc0116f"), looks := false }, kinds := [], alts := [], laidByText := true, laidKinds := [.data], laidTests := true, laidLooks := .later }
def MatrixSingularCardSaid : Prop := Claim7.holds Tryd.pinned (.plain (OpenSpec.ofChange matrixSingularSpec)) matrixSingularCard

/-- THE TIED CARD OF 'amphoralaw02.MatrixPicks'. -/
def matrixPicksCard : Claim7 := { stood := { row := matrixPicksRow, standIns := [], harness := (true, "77f2a57e3b8b6b60ff201f7307cd1ddd4cb445bb08cb5027de2a63bcfdc0116f"), looks := false }, kinds := [], alts := [], laidByText := true, laidKinds := [.data], laidTests := true, laidLooks := .later }
def MatrixPicksCardSaid : Prop := Claim7.holds Tryd.pinned (.plain (OpenSpec.ofChange matrixPicksSpec)) matrixPicksCard

/-- THE SECOND FORM's CARD OF 'amphoralaw02.MatrixSingular'. -/
def matrixSingularUptoCard : Claim7 := { stood := { row := matrixSingularUptoRow, standIns := [], harness := (true, "77f2a57e3b8b6b60ff201f7307cd1ddd4cb445bb08cb5027de2a63bcfdc0116f"), looks := false }, kinds := [], alts := [], laidByText := true, laidKinds := [.data], laidTests := true, laidLooks := .later }
def MatrixSingularUptoCardSaid : Prop := Claim7.holds Tryd.pinned (.plain (OpenSpec.upto matrixSingularSpec)) matrixSingularUptoCard

/-- THE SECOND FORM's CARD OF 'amphoralaw02.MatrixPicks'. -/
def matrixPicksUptoCard : Claim7 := { stood := { row := matrixPicksUptoRow, standIns := [], harness := (true, "77f2a57e3b8b6b60ff201f7307cd1ddd4cb445bb08cb5027de2a63bcfdc0116f"), looks := false }, kinds := [], alts := [], laidByText := true, laidKinds := [.data], laidTests := true, laidLooks := .later }
def MatrixPicksUptoCardSaid : Prop := Claim7.holds Tryd.pinned (.plain (OpenSpec.upto matrixPicksSpec)) matrixPicksUptoCard
end Rows
end Go.Proofs.YtolgpepnjinfgacDoor
