/-
  DERIVED. GIVEN WITH THE SEED: THE CARDS: each row of YtmooddbhcccicaaGreatDoorRows.lean that lists a variable, with what it lists TIED to the program's text (the seventh form; the later family's looks); each row that meets fmt, with fmt's text TOLD by the authors' own Lean function (tested against real Go, not proved from fmt's source: count such statements apart). THE CARD IS WHAT COUNTS. Prove the row's statement (the work); the ties are given (YtmooddbhcccicaaGreatDoorTie.lean); close each card by the builder's one call (the guide's Derived/Test/ToyasCard.lean, 'card_holds'). Laid BY PROGRAM, IN A SANDBOX (cutbox-door.mjs). By AI agents, Wed Nov 11 2026. No macro, syntax, notation, axiom, sorry.
-/
import Derived.Test.YtmooddbhcccicaaGreatDoorRows
import GoSem.ClaimSeven
namespace Go.Proofs.YtmooddbhcccicaaGreatDoor
namespace Rows

/-- THE TIED CARD OF 'amphoralaw08.ShelfAny'. -/
def shelfAnyCard : Claim7 := { stood := { row := shelfAnyRow, standIns := [], harness := (true, "1ba67290beaa1d92aeffdd2e4ac56e396cb36e31bd5c739e2266bf3bfe0fc936"), looks := true }, kinds := [], alts := [], laidByText := true, laidKinds := [.data], laidTests := true, laidLooks := .later }
def ShelfAnyCardSaid : Prop := Claim7.holds Tryz.pinned (.plain (OpenSpec.ofChange shelfAnySpec)) shelfAnyCard

/-- THE TIED CARD OF 'amphoralaw08.ShelfFences'. -/
def shelfFencesCard : Claim7 := { stood := { row := shelfFencesRow, standIns := [], harness := (true, "1ba67290beaa1d92aeffdd2e4ac56e396cb36e31bd5c739e2266bf3bfe0fc936"), looks := true }, kinds := [], alts := [], laidByText := true, laidKinds := [.data], laidTests := true, laidLooks := .later }
def ShelfFencesCardSaid : Prop := Claim7.holds Tryz.pinned (.plain (OpenSpec.ofChange shelfFencesSpec)) shelfFencesCard

/-- THE TIED CARD OF 'amphoralaw08.ShelfSynced'. -/
def shelfSyncedCard : Claim7 := { stood := { row := shelfSyncedRow, standIns := [], harness := (true, "1ba67290beaa1d92aeffdd2e4ac56e396cb36e31bd5c739e2266bf3bfe0fc936"), looks := true }, kinds := [], alts := [], laidByText := true, laidKinds := [.data], laidTests := true, laidLooks := .later }
def ShelfSyncedCardSaid : Prop := Claim7.holds Tryz.pinned (.plain (OpenSpec.ofChange shelfSyncedSpec)) shelfSyncedCard

/-- THE TIED CARD OF 'amphoralaw08.ShelfRoom'. -/
def shelfRoomCard : Claim7 := { stood := { row := shelfRoomRow, standIns := [], harness := (true, "1ba67290beaa1d92aeffdd2e4ac56e396cb36e31bd5c739e2266bf3bfe0fc936"), looks := true }, kinds := [], alts := [], laidByText := true, laidKinds := [.data], laidTests := true, laidLooks := .later }
def ShelfRoomCardSaid : Prop := Claim7.holds Tryz.pinned (.plain (OpenSpec.ofChange shelfRoomSpec)) shelfRoomCard

/-- THE TIED CARD OF 'amphoralaw08.ShelfDrops'. -/
def shelfDropsCard : Claim7 := { stood := { row := shelfDropsRow, standIns := [], harness := (true, "1ba67290beaa1d92aeffdd2e4ac56e396cb36e31bd5c739e2266bf3bfe0fc936"), looks := true }, kinds := [], alts := [], laidByText := true, laidKinds := [.data], laidTests := true, laidLooks := .later }
def ShelfDropsCardSaid : Prop := Claim7.holds Tryz.pinned (.plain (OpenSpec.ofChange shelfDropsSpec)) shelfDropsCard

/-- THE SECOND FORM's CARD OF 'amphoralaw08.ShelfAny'. -/
def shelfAnyUptoCard : Claim7 := { stood := { row := shelfAnyUptoRow, standIns := [], harness := (true, "1ba67290beaa1d92aeffdd2e4ac56e396cb36e31bd5c739e2266bf3bfe0fc936"), looks := true }, kinds := [], alts := [], laidByText := true, laidKinds := [.data], laidTests := true, laidLooks := .later }
def ShelfAnyUptoCardSaid : Prop := Claim7.holds Tryz.pinned (.plain (OpenSpec.upto shelfAnySpec)) shelfAnyUptoCard

/-- THE SECOND FORM's CARD OF 'amphoralaw08.ShelfFences'. -/
def shelfFencesUptoCard : Claim7 := { stood := { row := shelfFencesUptoRow, standIns := [], harness := (true, "1ba67290beaa1d92aeffdd2e4ac56e396cb36e31bd5c739e2266bf3bfe0fc936"), looks := true }, kinds := [], alts := [], laidByText := true, laidKinds := [.data], laidTests := true, laidLooks := .later }
def ShelfFencesUptoCardSaid : Prop := Claim7.holds Tryz.pinned (.plain (OpenSpec.upto shelfFencesSpec)) shelfFencesUptoCard

/-- THE SECOND FORM's CARD OF 'amphoralaw08.ShelfSynced'. -/
def shelfSyncedUptoCard : Claim7 := { stood := { row := shelfSyncedUptoRow, standIns := [], harness := (true, "1ba67290beaa1d92aeffdd2e4ac56e396cb36e31bd5c739e2266bf3bfe0fc936"), looks := true }, kinds := [], alts := [], laidByText := true, laidKinds := [.data], laidTests := true, laidLooks := .later }
def ShelfSyncedUptoCardSaid : Prop := Claim7.holds Tryz.pinned (.plain (OpenSpec.upto shelfSyncedSpec)) shelfSyncedUptoCard

/-- THE SECOND FORM's CARD OF 'amphoralaw08.ShelfRoom'. -/
def shelfRoomUptoCard : Claim7 := { stood := { row := shelfRoomUptoRow, standIns := [], harness := (true, "1ba67290beaa1d92aeffdd2e4ac56e396cb36e31bd5c739e2266bf3bfe0fc936"), looks := true }, kinds := [], alts := [], laidByText := true, laidKinds := [.data], laidTests := true, laidLooks := .later }
def ShelfRoomUptoCardSaid : Prop := Claim7.holds Tryz.pinned (.plain (OpenSpec.upto shelfRoomSpec)) shelfRoomUptoCard

/-- THE SECOND FORM's CARD OF 'amphoralaw08.ShelfDrops'. -/
def shelfDropsUptoCard : Claim7 := { stood := { row := shelfDropsUptoRow, standIns := [], harness := (true, "1ba67290beaa1d92aeffdd2e4ac56e396cb36e31bd5c739e2266bf3bfe0fc936"), looks := true }, kinds := [], alts := [], laidByText := true, laidKinds := [.data], laidTests := true, laidLooks := .later }
def ShelfDropsUptoCardSaid : Prop := Claim7.holds Tryz.pinned (.plain (OpenSpec.upto shelfDropsSpec)) shelfDropsUptoCard
end Rows
end Go.Proofs.YtmooddbhcccicaaGreatDoor
