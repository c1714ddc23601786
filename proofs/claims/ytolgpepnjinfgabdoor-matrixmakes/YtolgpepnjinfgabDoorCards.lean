/-
  DERIVED. GIVEN WITH THE SEED: THE CARDS: each row of YtolgpepnjinfgabDoorRows.lean that lists a variable, with what it lists TIED to the program's text (the seventh form; the later family's looks); each row that meets fmt, with fmt's text TOLD by the authors' own Lean function (tested against real Go, not proved from fmt's source: count such statements apart). THE CARD IS WHAT COUNTS. Prove the row's statement (the work); the ties are given (YtolgpepnjinfgabDoorTie.lean); close each card by the builder's one call (the guide's Derived/Test/ToyasCard.lean, 'card_holds'). Laid BY PROGRAM, IN A SANDBOX (cutbox-door.mjs). By AI agents, Wed Nov 11 2026. No macro, syntax, notation, axiom, sorry.
-/
import Derived.Test.YtolgpepnjinfgabDoorRows
import GoSem.ClaimSeven
namespace Go.Proofs.YtolgpepnjinfgabDoor
namespace Rows

/-- THE TIED CARD OF 'amphoralaw01.GaloisSquares'. -/
def galoisSquaresCard : Claim7 := { stood := { row := galoisSquaresRow, standIns := [], harness := (true, "733de7b803bbfe6c69260767e0722a5758f5ae33a9476d8af4e23b6b43a9e47a"), looks := false }, kinds := [], alts := [], laidByText := true, laidKinds := [.data], laidTests := true, laidLooks := .later }
def GaloisSquaresCardSaid : Prop := Claim7.holds Tryd.pinned (.plain (OpenSpec.ofChange galoisSquaresSpec)) galoisSquaresCard

/-- THE TIED CARD OF 'amphoralaw02.MatrixTells'. -/
def matrixTellsCard : Claim7 := { stood := { row := matrixTellsRow, standIns := [], harness := (true, "733de7b803bbfe6c69260767e0722a5758f5ae33a9476d8af4e23b6b43a9e47a"), looks := false }, kinds := [], alts := [], laidByText := true, laidKinds := [.data], laidTests := true, laidLooks := .later }
def MatrixTellsCardSaid : Prop := Claim7.holds Tryd.pinned (.plain (OpenSpec.ofChange matrixTellsSpec)) matrixTellsCard

/-- THE TIED CARD OF 'amphoralaw02.MatrixMakes'. -/
def matrixMakesCard : Claim7 := { stood := { row := matrixMakesRow, standIns := [], harness := (true, "733de7b803bbfe6c69260767e0722a5758f5ae33a9476d8af4e23b6b43a9e47a"), looks := false }, kinds := [], alts := [], laidByText := true, laidKinds := [.data], laidTests := true, laidLooks := .later }
def MatrixMakesCardSaid : Prop := Claim7.holds Tryd.pinned (.plain (OpenSpec.ofChange matrixMakesSpec)) matrixMakesCard

/-- THE TIED CARD OF 'amphoralaw02.MatrixBrackets'. -/
def matrixBracketsCard : Claim7 := { stood := { row := matrixBracketsRow, standIns := [], harness := (true, "733de7b803bbfe6c69260767e0722a5758f5ae33a9476d8af4e23b6b43a9e47a"), looks := false }, kinds := [], alts := [], laidByText := true, laidKinds := [.data], laidTests := true, laidLooks := .later }
def MatrixBracketsCardSaid : Prop := Claim7.holds Tryd.pinned (.plain (OpenSpec.ofChange matrixBracketsSpec)) matrixBracketsCard

/-- THE TIED CARD OF 'amphoralaw02.MatrixInverse'. -/
def matrixInverseCard : Claim7 := { stood := { row := matrixInverseRow, standIns := [], harness := (true, "733de7b803bbfe6c69260767e0722a5758f5ae33a9476d8af4e23b6b43a9e47a"), looks := false }, kinds := [], alts := [], laidByText := true, laidKinds := [.data], laidTests := true, laidLooks := .later }
def MatrixInverseCardSaid : Prop := Claim7.holds Tryd.pinned (.plain (OpenSpec.ofChange matrixInverseSpec)) matrixInverseCard

/-- THE TIED CARD OF 'amphoralaw02.MatrixAny'. -/
def matrixAnyCard : Claim7 := { stood := { row := matrixAnyRow, standIns := [], harness := (true, "733de7b803bbfe6c69260767e0722a5758f5ae33a9476d8af4e23b6b43a9e47a"), looks := false }, kinds := [], alts := [], laidByText := true, laidKinds := [.data], laidTests := true, laidLooks := .later }
def MatrixAnyCardSaid : Prop := Claim7.holds Tryd.pinned (.plain (OpenSpec.ofChange matrixAnySpec)) matrixAnyCard

/-- THE SECOND FORM's CARD OF 'amphoralaw01.GaloisSquares'. -/
def galoisSquaresUptoCard : Claim7 := { stood := { row := galoisSquaresUptoRow, standIns := [], harness := (true, "733de7b803bbfe6c69260767e0722a5758f5ae33a9476d8af4e23b6b43a9e47a"), looks := false }, kinds := [], alts := [], laidByText := true, laidKinds := [.data], laidTests := true, laidLooks := .later }
def GaloisSquaresUptoCardSaid : Prop := Claim7.holds Tryd.pinned (.plain (OpenSpec.upto galoisSquaresSpec)) galoisSquaresUptoCard

/-- THE SECOND FORM's CARD OF 'amphoralaw02.MatrixTells'. -/
def matrixTellsUptoCard : Claim7 := { stood := { row := matrixTellsUptoRow, standIns := [], harness := (true, "733de7b803bbfe6c69260767e0722a5758f5ae33a9476d8af4e23b6b43a9e47a"), looks := false }, kinds := [], alts := [], laidByText := true, laidKinds := [.data], laidTests := true, laidLooks := .later }
def MatrixTellsUptoCardSaid : Prop := Claim7.holds Tryd.pinned (.plain (OpenSpec.upto matrixTellsSpec)) matrixTellsUptoCard

/-- THE SECOND FORM's CARD OF 'amphoralaw02.MatrixMakes'. -/
def matrixMakesUptoCard : Claim7 := { stood := { row := matrixMakesUptoRow, standIns := [], harness := (true, "733de7b803bbfe6c69260767e0722a5758f5ae33a9476d8af4e23b6b43a9e47a"), looks := false }, kinds := [], alts := [], laidByText := true, laidKinds := [.data], laidTests := true, laidLooks := .later }
def MatrixMakesUptoCardSaid : Prop := Claim7.holds Tryd.pinned (.plain (OpenSpec.upto matrixMakesSpec)) matrixMakesUptoCard

/-- THE SECOND FORM's CARD OF 'amphoralaw02.MatrixBrackets'. -/
def matrixBracketsUptoCard : Claim7 := { stood := { row := matrixBracketsUptoRow, standIns := [], harness := (true, "733de7b803bbfe6c69260767e0722a5758f5ae33a9476d8af4e23b6b43a9e47a"), looks := false }, kinds := [], alts := [], laidByText := true, laidKinds := [.data], laidTests := true, laidLooks := .later }
def MatrixBracketsUptoCardSaid : Prop := Claim7.holds Tryd.pinned (.plain (OpenSpec.upto matrixBracketsSpec)) matrixBracketsUptoCard

/-- THE SECOND FORM's CARD OF 'amphoralaw02.MatrixInverse'. -/
def matrixInverseUptoCard : Claim7 := { stood := { row := matrixInverseUptoRow, standIns := [], harness := (true, "733de7b803bbfe6c69260767e0722a5758f5ae33a9476d8af4e23b6b43a9e47a"), looks := false }, kinds := [], alts := [], laidByText := true, laidKinds := [.data], laidTests := true, laidLooks := .later }
def MatrixInverseUptoCardSaid : Prop := Claim7.holds Tryd.pinned (.plain (OpenSpec.upto matrixInverseSpec)) matrixInverseUptoCard

/-- THE SECOND FORM's CARD OF 'amphoralaw02.MatrixAny'. -/
def matrixAnyUptoCard : Claim7 := { stood := { row := matrixAnyUptoRow, standIns := [], harness := (true, "733de7b803bbfe6c69260767e0722a5758f5ae33a9476d8af4e23b6b43a9e47a"), looks := false }, kinds := [], alts := [], laidByText := true, laidKinds := [.data], laidTests := true, laidLooks := .later }
def MatrixAnyUptoCardSaid : Prop := Claim7.holds Tryd.pinned (.plain (OpenSpec.upto matrixAnySpec)) matrixAnyUptoCard
end Rows
end Go.Proofs.YtolgpepnjinfgabDoor
