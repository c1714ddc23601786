/-
  DERIVED. GIVEN WITH THE SEED: THE CARDS: each row of YteomkdpnmakdjaaDoorRows.lean that lists a variable, with what it lists TIED to the program's text (the seventh form; the later family's looks); each row that meets fmt, with fmt's text TOLD by the authors' own Lean function (tested against real Go, not proved from fmt's source: count such statements apart). THE CARD IS WHAT COUNTS. Prove the row's statement (the work); the ties are given (YteomkdpnmakdjaaDoorTie.lean); close each card by the builder's one call (the guide's Derived/Test/ToyasCard.lean, 'card_holds'). Laid BY PROGRAM, IN A SANDBOX (cutbox-door.mjs). By AI agents, Wed Nov 11 2026. No macro, syntax, notation, axiom, sorry.
-/
import Derived.Test.YteomkdpnmakdjaaDoorRows
import GoSem.ClaimSeven
namespace Go.Proofs.YteomkdpnmakdjaaDoor
namespace Rows

/-- THE TIED CARD OF 'amphoralaw17.MoverBrings'. -/
def moverBringsCard : Claim7 := { stood := { row := moverBringsRow, standIns := [], harness := (true, "2844f764034f11820deac0172cdc8bcfc38e730e9c149491f6f09d78d232a8c5"), looks := false }, kinds := [], alts := [], laidByText := true, laidKinds := [.data], laidTests := true, laidLooks := .later }
def MoverBringsCardSaid : Prop := Claim7.holds Tryd.pinned (.plain (OpenSpec.ofChange moverBringsSpec)) moverBringsCard

/-- THE TIED CARD OF 'amphoralaw17.MoverFences'. -/
def moverFencesCard : Claim7 := { stood := { row := moverFencesRow, standIns := [], harness := (true, "2844f764034f11820deac0172cdc8bcfc38e730e9c149491f6f09d78d232a8c5"), looks := false }, kinds := [], alts := [], laidByText := true, laidKinds := [.data], laidTests := true, laidLooks := .later }
def MoverFencesCardSaid : Prop := Claim7.holds Tryd.pinned (.plain (OpenSpec.ofChange moverFencesSpec)) moverFencesCard

/-- THE TIED CARD OF 'amphoralaw17.MoverNobody'. -/
def moverNobodyCard : Claim7 := { stood := { row := moverNobodyRow, standIns := [], harness := (true, "2844f764034f11820deac0172cdc8bcfc38e730e9c149491f6f09d78d232a8c5"), looks := false }, kinds := [], alts := [], laidByText := true, laidKinds := [.data], laidTests := true, laidLooks := .later }
def MoverNobodyCardSaid : Prop := Claim7.holds Tryd.pinned (.plain (OpenSpec.ofChange moverNobodySpec)) moverNobodyCard

/-- THE SECOND FORM's CARD OF 'amphoralaw17.MoverBrings'. -/
def moverBringsUptoCard : Claim7 := { stood := { row := moverBringsUptoRow, standIns := [], harness := (true, "2844f764034f11820deac0172cdc8bcfc38e730e9c149491f6f09d78d232a8c5"), looks := false }, kinds := [], alts := [], laidByText := true, laidKinds := [.data], laidTests := true, laidLooks := .later }
def MoverBringsUptoCardSaid : Prop := Claim7.holds Tryd.pinned (.plain (OpenSpec.upto moverBringsSpec)) moverBringsUptoCard

/-- THE SECOND FORM's CARD OF 'amphoralaw17.MoverFences'. -/
def moverFencesUptoCard : Claim7 := { stood := { row := moverFencesUptoRow, standIns := [], harness := (true, "2844f764034f11820deac0172cdc8bcfc38e730e9c149491f6f09d78d232a8c5"), looks := false }, kinds := [], alts := [], laidByText := true, laidKinds := [.data], laidTests := true, laidLooks := .later }
def MoverFencesUptoCardSaid : Prop := Claim7.holds Tryd.pinned (.plain (OpenSpec.upto moverFencesSpec)) moverFencesUptoCard

/-- THE SECOND FORM's CARD OF 'amphoralaw17.MoverNobody'. -/
def moverNobodyUptoCard : Claim7 := { stood := { row := moverNobodyUptoRow, standIns := [], harness := (true, "2844f764034f11820deac0172cdc8bcfc38e730e9c149491f6f09d78d232a8c5"), looks := false }, kinds := [], alts := [], laidByText := true, laidKinds := [.data], laidTests := true, laidLooks := .later }
def MoverNobodyUptoCardSaid : Prop := Claim7.holds Tryd.pinned (.plain (OpenSpec.upto moverNobodySpec)) moverNobodyUptoCard
end Rows
end Go.Proofs.YteomkdpnmakdjaaDoor
