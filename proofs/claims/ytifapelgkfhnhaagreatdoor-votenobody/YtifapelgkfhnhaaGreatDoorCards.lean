/-
  DERIVED. GIVEN WITH THE SEED: THE CARDS: each row of YtifapelgkfhnhaaGreatDoorRows.lean that lists a variable, with what it lists TIED to the program's text (the seventh form; the later family's looks); each row that meets fmt, with fmt's text TOLD by the authors' own Lean function (tested against real Go, not proved from fmt's source: count such statements apart). THE CARD IS WHAT COUNTS. Prove the row's statement (the work); the ties are given (YtifapelgkfhnhaaGreatDoorTie.lean); close each card by the builder's one call (the guide's Derived/Test/ToyasCard.lean, 'card_holds'). Laid BY PROGRAM, IN A SANDBOX (cutbox-door.mjs). By AI agents, Wed Nov 11 2026. No macro, syntax, notation, axiom, sorry.
-/
import Derived.Test.YtifapelgkfhnhaaGreatDoorRows
import GoSem.ClaimSeven
namespace Go.Proofs.YtifapelgkfhnhaaGreatDoor
namespace Rows

/-- THE TIED CARD OF 'amphoralaw11.VoteLives'. -/
def voteLivesCard : Claim7 := { stood := { row := voteLivesRow, standIns := [], harness := (true, "a0e2d22e21a004374de64ff352fc072f32f40d09589c7098172e82cf9503c014"), looks := true }, kinds := [], alts := [], laidByText := true, laidKinds := [.data], laidTests := true, laidLooks := .later }
def VoteLivesCardSaid : Prop := Claim7.holds Tryz.pinned (.plain (OpenSpec.ofChange voteLivesSpec)) voteLivesCard

/-- THE TIED CARD OF 'amphoralaw11.VoteNotes'. -/
def voteNotesCard : Claim7 := { stood := { row := voteNotesRow, standIns := [], harness := (true, "a0e2d22e21a004374de64ff352fc072f32f40d09589c7098172e82cf9503c014"), looks := true }, kinds := [], alts := [], laidByText := true, laidKinds := [.data], laidTests := true, laidLooks := .later }
def VoteNotesCardSaid : Prop := Claim7.holds Tryz.pinned (.plain (OpenSpec.ofChange voteNotesSpec)) voteNotesCard

/-- THE TIED CARD OF 'amphoralaw11.VoteKeeps'. -/
def voteKeepsCard : Claim7 := { stood := { row := voteKeepsRow, standIns := [], harness := (true, "a0e2d22e21a004374de64ff352fc072f32f40d09589c7098172e82cf9503c014"), looks := true }, kinds := [], alts := [], laidByText := true, laidKinds := [.data], laidTests := true, laidLooks := .later }
def VoteKeepsCardSaid : Prop := Claim7.holds Tryz.pinned (.plain (OpenSpec.ofChange voteKeepsSpec)) voteKeepsCard

/-- THE TIED CARD OF 'amphoralaw11.VoteNobody'. -/
def voteNobodyCard : Claim7 := { stood := { row := voteNobodyRow, standIns := [], harness := (true, "a0e2d22e21a004374de64ff352fc072f32f40d09589c7098172e82cf9503c014"), looks := true }, kinds := [], alts := [], laidByText := true, laidKinds := [.data], laidTests := true, laidLooks := .later }
def VoteNobodyCardSaid : Prop := Claim7.holds Tryz.pinned (.plain (OpenSpec.ofChange voteNobodySpec)) voteNobodyCard

/-- THE SECOND FORM's CARD OF 'amphoralaw11.VoteLives'. -/
def voteLivesUptoCard : Claim7 := { stood := { row := voteLivesUptoRow, standIns := [], harness := (true, "a0e2d22e21a004374de64ff352fc072f32f40d09589c7098172e82cf9503c014"), looks := true }, kinds := [], alts := [], laidByText := true, laidKinds := [.data], laidTests := true, laidLooks := .later }
def VoteLivesUptoCardSaid : Prop := Claim7.holds Tryz.pinned (.plain (OpenSpec.upto voteLivesSpec)) voteLivesUptoCard

/-- THE SECOND FORM's CARD OF 'amphoralaw11.VoteNotes'. -/
def voteNotesUptoCard : Claim7 := { stood := { row := voteNotesUptoRow, standIns := [], harness := (true, "a0e2d22e21a004374de64ff352fc072f32f40d09589c7098172e82cf9503c014"), looks := true }, kinds := [], alts := [], laidByText := true, laidKinds := [.data], laidTests := true, laidLooks := .later }
def VoteNotesUptoCardSaid : Prop := Claim7.holds Tryz.pinned (.plain (OpenSpec.upto voteNotesSpec)) voteNotesUptoCard

/-- THE SECOND FORM's CARD OF 'amphoralaw11.VoteKeeps'. -/
def voteKeepsUptoCard : Claim7 := { stood := { row := voteKeepsUptoRow, standIns := [], harness := (true, "a0e2d22e21a004374de64ff352fc072f32f40d09589c7098172e82cf9503c014"), looks := true }, kinds := [], alts := [], laidByText := true, laidKinds := [.data], laidTests := true, laidLooks := .later }
def VoteKeepsUptoCardSaid : Prop := Claim7.holds Tryz.pinned (.plain (OpenSpec.upto voteKeepsSpec)) voteKeepsUptoCard

/-- THE SECOND FORM's CARD OF 'amphoralaw11.VoteNobody'. -/
def voteNobodyUptoCard : Claim7 := { stood := { row := voteNobodyUptoRow, standIns := [], harness := (true, "a0e2d22e21a004374de64ff352fc072f32f40d09589c7098172e82cf9503c014"), looks := true }, kinds := [], alts := [], laidByText := true, laidKinds := [.data], laidTests := true, laidLooks := .later }
def VoteNobodyUptoCardSaid : Prop := Claim7.holds Tryz.pinned (.plain (OpenSpec.upto voteNobodySpec)) voteNobodyUptoCard
end Rows
end Go.Proofs.YtifapelgkfhnhaaGreatDoor
