/-
  DERIVED. GIVEN WITH THE SEED: THE CARDS: each row of YtpggnjjoamiocaaGreatDoorRows.lean that lists a variable, with what it lists TIED to the program's text (the seventh form; the later family's looks); each row that meets fmt, with fmt's text TOLD by the authors' own Lean function (tested against real Go, not proved from fmt's source: count such statements apart). THE CARD IS WHAT COUNTS. Prove the row's statement (the work); the ties are given (YtpggnjjoamiocaaGreatDoorTie.lean); close each card by the builder's one call (the guide's Derived/Test/ToyasCard.lean, 'card_holds'). Laid BY PROGRAM, IN A SANDBOX (cutbox-door.mjs). By AI agents, Wed Nov 11 2026. No macro, syntax, notation, axiom, sorry.
-/
import Derived.Test.YtpggnjjoamiocaaGreatDoorRows
import GoSem.ClaimSeven
namespace Go.Proofs.YtpggnjjoamiocaaGreatDoor
namespace Rows

/-- THE TIED CARD OF 'amphoralaw08.ShelfNobody'. -/
def shelfNobodyCard : Claim7 := { stood := { row := shelfNobodyRow, standIns := [], harness := (true, "87777c25ba0e86810bb0208b000a29593bfdecaa91847b1f90884f64b7d5cec8"), looks := true }, kinds := [], alts := [], laidByText := true, laidKinds := [.data], laidTests := true, laidLooks := .later }
def ShelfNobodyCardSaid : Prop := Claim7.holds Tryz.pinned (.plain (OpenSpec.ofChange shelfNobodySpec)) shelfNobodyCard

/-- THE SECOND FORM's CARD OF 'amphoralaw08.ShelfNobody'. -/
def shelfNobodyUptoCard : Claim7 := { stood := { row := shelfNobodyUptoRow, standIns := [], harness := (true, "87777c25ba0e86810bb0208b000a29593bfdecaa91847b1f90884f64b7d5cec8"), looks := true }, kinds := [], alts := [], laidByText := true, laidKinds := [.data], laidTests := true, laidLooks := .later }
def ShelfNobodyUptoCardSaid : Prop := Claim7.holds Tryz.pinned (.plain (OpenSpec.upto shelfNobodySpec)) shelfNobodyUptoCard
end Rows
end Go.Proofs.YtpggnjjoamiocaaGreatDoor
