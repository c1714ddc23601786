/-
  DERIVED. GIVEN WITH THE SEED: THE CARDS: each row of YtfmndffgmemgpaaGreatDoorRows.lean that lists a variable, with what it lists TIED to the program's text (the seventh form; the later family's looks); each row that meets fmt, with fmt's text TOLD by the authors' own Lean function (tested against real Go, not proved from fmt's source: count such statements apart). THE CARD IS WHAT COUNTS. Prove the row's statement (the work); the ties are given (YtfmndffgmemgpaaGreatDoorTie.lean); close each card by the builder's one call (the guide's Derived/Test/ToyasCard.lean, 'card_holds'). Laid BY PROGRAM, IN A SANDBOX (cutbox-door.mjs). By AI agents, Wed Nov 11 2026. No macro, syntax, notation, axiom, sorry.
-/
import Derived.Test.YtfmndffgmemgpaaGreatDoorRows
import GoSem.ClaimSeven
namespace Go.Proofs.YtfmndffgmemgpaaGreatDoor
namespace Rows

/-- THE TIED CARD OF 'amphoralaw07.WalLives'. -/
def walLivesCard : Claim7 := { stood := { row := walLivesRow, standIns := [], harness := (true, "330e7c5b34348e049b4f47e8eae438081a9ef850ff50f62f599f9c95290b7df6"), looks := true }, kinds := [], alts := [], laidByText := true, laidKinds := [.data], laidTests := true, laidLooks := .later }
def WalLivesCardSaid : Prop := Claim7.holds Tryz.pinned (.plain (OpenSpec.ofChange walLivesSpec)) walLivesCard

/-- THE TIED CARD OF 'amphoralaw07.WalSynced'. -/
def walSyncedCard : Claim7 := { stood := { row := walSyncedRow, standIns := [], harness := (true, "330e7c5b34348e049b4f47e8eae438081a9ef850ff50f62f599f9c95290b7df6"), looks := true }, kinds := [], alts := [], laidByText := true, laidKinds := [.data], laidTests := true, laidLooks := .later }
def WalSyncedCardSaid : Prop := Claim7.holds Tryz.pinned (.plain (OpenSpec.ofChange walSyncedSpec)) walSyncedCard

/-- THE TIED CARD OF 'amphoralaw07.WalCheckpoints'. -/
def walCheckpointsCard : Claim7 := { stood := { row := walCheckpointsRow, standIns := [], harness := (true, "330e7c5b34348e049b4f47e8eae438081a9ef850ff50f62f599f9c95290b7df6"), looks := true }, kinds := [], alts := [], laidByText := true, laidKinds := [.data], laidTests := true, laidLooks := .later }
def WalCheckpointsCardSaid : Prop := Claim7.holds Tryz.pinned (.plain (OpenSpec.ofChange walCheckpointsSpec)) walCheckpointsCard

/-- THE SECOND FORM's CARD OF 'amphoralaw07.WalLives'. -/
def walLivesUptoCard : Claim7 := { stood := { row := walLivesUptoRow, standIns := [], harness := (true, "330e7c5b34348e049b4f47e8eae438081a9ef850ff50f62f599f9c95290b7df6"), looks := true }, kinds := [], alts := [], laidByText := true, laidKinds := [.data], laidTests := true, laidLooks := .later }
def WalLivesUptoCardSaid : Prop := Claim7.holds Tryz.pinned (.plain (OpenSpec.upto walLivesSpec)) walLivesUptoCard

/-- THE SECOND FORM's CARD OF 'amphoralaw07.WalSynced'. -/
def walSyncedUptoCard : Claim7 := { stood := { row := walSyncedUptoRow, standIns := [], harness := (true, "330e7c5b34348e049b4f47e8eae438081a9ef850ff50f62f599f9c95290b7df6"), looks := true }, kinds := [], alts := [], laidByText := true, laidKinds := [.data], laidTests := true, laidLooks := .later }
def WalSyncedUptoCardSaid : Prop := Claim7.holds Tryz.pinned (.plain (OpenSpec.upto walSyncedSpec)) walSyncedUptoCard

/-- THE SECOND FORM's CARD OF 'amphoralaw07.WalCheckpoints'. -/
def walCheckpointsUptoCard : Claim7 := { stood := { row := walCheckpointsUptoRow, standIns := [], harness := (true, "330e7c5b34348e049b4f47e8eae438081a9ef850ff50f62f599f9c95290b7df6"), looks := true }, kinds := [], alts := [], laidByText := true, laidKinds := [.data], laidTests := true, laidLooks := .later }
def WalCheckpointsUptoCardSaid : Prop := Claim7.holds Tryz.pinned (.plain (OpenSpec.upto walCheckpointsSpec)) walCheckpointsUptoCard
end Rows
end Go.Proofs.YtfmndffgmemgpaaGreatDoor
