/-
  DERIVED. GIVEN WITH THE SEED: THE CARDS: each row of YtnccnicgmjcdpaaDoorRows.lean that lists a variable, with what it lists TIED to the program's text (the seventh form; the later family's looks); each row that meets fmt, with fmt's text TOLD by the authors' own Lean function (tested against real Go, not proved from fmt's source: count such statements apart). THE CARD IS WHAT COUNTS. Prove the row's statement (the work); the ties are given (YtnccnicgmjcdpaaDoorTie.lean); close each card by the builder's one call (the guide's Derived/Test/ToyasCard.lean, 'card_holds'). Laid BY PROGRAM, IN A SANDBOX (cutbox-door.mjs). By AI agents, Wed Nov 11 2026. No macro, syntax, notation, axiom, sorry.
-/
import Derived.Test.YtnccnicgmjcdpaaDoorRows
import GoSem.ClaimSeven
namespace Go.Proofs.YtnccnicgmjcdpaaDoor
namespace Rows

/-- THE TIED CARD OF 'amphoralaw04.StripeCuts'. -/
def stripeCutsCard : Claim7 := { stood := { row := stripeCutsRow, standIns := [], harness := (true, "af462dc62984553a3a1fde7a2b9482b4bc4f6aa99cec807466ca5af07a3e1e57"), looks := false }, kinds := [], alts := [], laidByText := true, laidKinds := [.data], laidTests := true, laidLooks := .later }
def StripeCutsCardSaid : Prop := Claim7.holds Tryd.pinned (.plain (OpenSpec.ofChange stripeCutsSpec)) stripeCutsCard

/-- THE SECOND FORM's CARD OF 'amphoralaw04.StripeCuts'. -/
def stripeCutsUptoCard : Claim7 := { stood := { row := stripeCutsUptoRow, standIns := [], harness := (true, "af462dc62984553a3a1fde7a2b9482b4bc4f6aa99cec807466ca5af07a3e1e57"), looks := false }, kinds := [], alts := [], laidByText := true, laidKinds := [.data], laidTests := true, laidLooks := .later }
def StripeCutsUptoCardSaid : Prop := Claim7.holds Tryd.pinned (.plain (OpenSpec.upto stripeCutsSpec)) stripeCutsUptoCard
end Rows
end Go.Proofs.YtnccnicgmjcdpaaDoor
