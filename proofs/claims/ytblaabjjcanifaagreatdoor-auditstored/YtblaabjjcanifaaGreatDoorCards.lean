/-
  DERIVED. GIVEN WITH THE SEED: THE CARDS: each row of YtblaabjjcanifaaGreatDoorRows.lean that lists a variable, with what it lists TIED to the program's text (the seventh form; the later family's looks); each row that meets fmt, with fmt's text TOLD by the authors' own Lean function (tested against real Go, not proved from fmt's source: count such statements apart). THE CARD IS WHAT COUNTS. Prove the row's statement (the work); the ties are given (YtblaabjjcanifaaGreatDoorTie.lean); close each card by the builder's one call (the guide's Derived/Test/ToyasCard.lean, 'card_holds'). Laid BY PROGRAM, IN A SANDBOX (cutbox-door.mjs). By AI agents, Wed Nov 11 2026. No macro, syntax, notation, axiom, sorry.
-/
import Derived.Test.YtblaabjjcanifaaGreatDoorRows
import GoSem.ClaimSeven
namespace Go.Proofs.YtblaabjjcanifaaGreatDoor
namespace Rows

/-- THE TIED CARD OF 'amphoralaw23.AuditStored'. -/
def auditStoredCard : Claim7 := { stood := { row := auditStoredRow, standIns := [], harness := (true, "2267908dbd9037c6f03ed7cb7958e13f85bee7bb4a6dfb052e4f1169ff6ae1d3"), looks := true }, kinds := [], alts := [], laidByText := true, laidKinds := [.data], laidTests := true, laidLooks := .later }
def AuditStoredCardSaid : Prop := Claim7.holds Tryz.pinned (.plain (OpenSpec.ofChange auditStoredSpec)) auditStoredCard

/-- THE SECOND FORM's CARD OF 'amphoralaw23.AuditStored'. -/
def auditStoredUptoCard : Claim7 := { stood := { row := auditStoredUptoRow, standIns := [], harness := (true, "2267908dbd9037c6f03ed7cb7958e13f85bee7bb4a6dfb052e4f1169ff6ae1d3"), looks := true }, kinds := [], alts := [], laidByText := true, laidKinds := [.data], laidTests := true, laidLooks := .later }
def AuditStoredUptoCardSaid : Prop := Claim7.holds Tryz.pinned (.plain (OpenSpec.upto auditStoredSpec)) auditStoredUptoCard
end Rows
end Go.Proofs.YtblaabjjcanifaaGreatDoor
