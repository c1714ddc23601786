/-
  DERIVED. GIVEN WITH THE SEED: THE CARDS: each row of YtfmndffgmemgpaaDoorRows.lean that lists a variable, with what it lists TIED to the program's text (the seventh form; the later family's looks); each row that meets fmt, with fmt's text TOLD by the authors' own Lean function (tested against real Go, not proved from fmt's source: count such statements apart). THE CARD IS WHAT COUNTS. Prove the row's statement (the work); the ties are given (YtfmndffgmemgpaaDoorTie.lean); close each card by the builder's one call (the guide's Derived/Test/ToyasCard.lean, 'card_holds'). Laid BY PROGRAM, IN A SANDBOX (cutbox-door.mjs). By AI agents, Wed Nov 11 2026. No macro, syntax, notation, axiom, sorry.
-/
import Derived.Test.YtfmndffgmemgpaaDoorRows
import GoSem.ClaimSeven
namespace Go.Proofs.YtfmndffgmemgpaaDoor
namespace Rows

/-- THE TIED CARD OF 'amphoralaw07.WalAnew'. -/
def walAnewCard : Claim7 := { stood := { row := walAnewRow, standIns := [], harness := (true, "9a13a1db753d8156ce4b74dd692bc4b86666a2ff28de9f1361920121733161aa"), looks := true }, kinds := [], alts := [], laidByText := true, laidKinds := [.data], laidTests := true, laidLooks := .later }
def WalAnewCardSaid : Prop := Claim7.holds Tryd.pinned (.plain (OpenSpec.ofChange walAnewSpec)) walAnewCard

/-- THE TIED CARD OF 'amphoralaw07.WalRoom'. -/
def walRoomCard : Claim7 := { stood := { row := walRoomRow, standIns := [], harness := (true, "9a13a1db753d8156ce4b74dd692bc4b86666a2ff28de9f1361920121733161aa"), looks := true }, kinds := [], alts := [], laidByText := true, laidKinds := [.data], laidTests := true, laidLooks := .later }
def WalRoomCardSaid : Prop := Claim7.holds Tryd.pinned (.plain (OpenSpec.ofChange walRoomSpec)) walRoomCard

/-- THE SECOND FORM's CARD OF 'amphoralaw07.WalAnew'. -/
def walAnewUptoCard : Claim7 := { stood := { row := walAnewUptoRow, standIns := [], harness := (true, "9a13a1db753d8156ce4b74dd692bc4b86666a2ff28de9f1361920121733161aa"), looks := true }, kinds := [], alts := [], laidByText := true, laidKinds := [.data], laidTests := true, laidLooks := .later }
def WalAnewUptoCardSaid : Prop := Claim7.holds Tryd.pinned (.plain (OpenSpec.upto walAnewSpec)) walAnewUptoCard

/-- THE SECOND FORM's CARD OF 'amphoralaw07.WalRoom'. -/
def walRoomUptoCard : Claim7 := { stood := { row := walRoomUptoRow, standIns := [], harness := (true, "9a13a1db753d8156ce4b74dd692bc4b86666a2ff28de9f1361920121733161aa"), looks := true }, kinds := [], alts := [], laidByText := true, laidKinds := [.data], laidTests := true, laidLooks := .later }
def WalRoomUptoCardSaid : Prop := Claim7.holds Tryd.pinned (.plain (OpenSpec.upto walRoomSpec)) walRoomUptoCard
end Rows
end Go.Proofs.YtfmndffgmemgpaaDoor
