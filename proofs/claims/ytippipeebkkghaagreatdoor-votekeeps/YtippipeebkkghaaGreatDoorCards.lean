/-
  DERIVED. GIVEN WITH THE SEED: THE CARDS: each row of YtippipeebkkghaaGreatDoorRows.lean that lists a variable, with what it lists TIED to the program's text (the seventh form; the later family's looks); each row that meets fmt, with fmt's text TOLD by the authors' own Lean function (tested against real Go, not proved from fmt's source: count such statements apart). THE CARD IS WHAT COUNTS. Prove the row's statement (the work); the ties are given (YtippipeebkkghaaGreatDoorTie.lean); close each card by the builder's one call (the guide's Derived/Test/ToyasCard.lean, 'card_holds'). Laid BY PROGRAM, IN A SANDBOX (cutbox-door.mjs). By AI agents, Wed Nov 11 2026. No macro, syntax, notation, axiom, sorry.
-/
import Derived.Test.YtippipeebkkghaaGreatDoorRows
import GoSem.ClaimSeven
namespace Go.Proofs.YtippipeebkkghaaGreatDoor
namespace Rows

/-- THE TIED CARD OF 'amphoralaw11.VoteKeeps'. -/
def voteKeepsCard : Claim7 := { stood := { row := voteKeepsRow, standIns := [], harness := (true, "a7447dbb7c15c26afa3cf6bf7f803a57165a4429bebeb9caf4d31804f2947470"), looks := true }, kinds := [], alts := [], laidByText := true, laidKinds := [.data], laidTests := true, laidLooks := .later }
def VoteKeepsCardSaid : Prop := Claim7.holds Tryz.pinned (.plain (OpenSpec.ofChange voteKeepsSpec)) voteKeepsCard

/-- THE SECOND FORM's CARD OF 'amphoralaw11.VoteKeeps'. -/
def voteKeepsUptoCard : Claim7 := { stood := { row := voteKeepsUptoRow, standIns := [], harness := (true, "a7447dbb7c15c26afa3cf6bf7f803a57165a4429bebeb9caf4d31804f2947470"), looks := true }, kinds := [], alts := [], laidByText := true, laidKinds := [.data], laidTests := true, laidLooks := .later }
def VoteKeepsUptoCardSaid : Prop := Claim7.holds Tryz.pinned (.plain (OpenSpec.upto voteKeepsSpec)) voteKeepsUptoCard
end Rows
end Go.Proofs.YtippipeebkkghaaGreatDoor
