/-
  DERIVED. GIVEN WITH THE SEED: THE CARDS: each row of YtbmhfclknilcoaaDoorRows.lean that lists a variable, with what it lists TIED to the program's text (the seventh form; the later family's looks); each row that meets fmt, with fmt's text TOLD by the authors' own Lean function (tested against real Go, not proved from fmt's source: count such statements apart). THE CARD IS WHAT COUNTS. Prove the row's statement (the work); the ties are given (YtbmhfclknilcoaaDoorTie.lean); close each card by the builder's one call (the guide's Derived/Test/ToyasCard.lean, 'card_holds'). Laid BY PROGRAM, IN A SANDBOX (cutbox-door.mjs). By AI agents, Wed Nov 11 2026. No macro, syntax, notation, axiom, sorry.
-/
import Derived.Test.YtbmhfclknilcoaaDoorRows
import GoSem.ClaimSeven
namespace Go.Proofs.YtbmhfclknilcoaaDoor
namespace Rows

/-- THE TIED CARD OF 'amphoralaw03.ReedDecodes'. -/
def reedDecodesCard : Claim7 := { stood := { row := reedDecodesRow, standIns := [], harness := (true, "fe8e13e9530b38f74d030da933cbba72a51c3e8c62705994d684955b0695a745"), looks := false }, kinds := [], alts := [], laidByText := true, laidKinds := [.data], laidTests := true, laidLooks := .later }
def ReedDecodesCardSaid : Prop := Claim7.holds Tryd.pinned (.plain (OpenSpec.ofChange reedDecodesSpec)) reedDecodesCard

/-- THE TIED CARD OF 'amphoralaw04.StripeJoins'. -/
def stripeJoinsCard : Claim7 := { stood := { row := stripeJoinsRow, standIns := [], harness := (true, "fe8e13e9530b38f74d030da933cbba72a51c3e8c62705994d684955b0695a745"), looks := false }, kinds := [], alts := [], laidByText := true, laidKinds := [.data], laidTests := true, laidLooks := .later }
def StripeJoinsCardSaid : Prop := Claim7.holds Tryd.pinned (.plain (OpenSpec.ofChange stripeJoinsSpec)) stripeJoinsCard

/-- THE SECOND FORM's CARD OF 'amphoralaw03.ReedDecodes'. -/
def reedDecodesUptoCard : Claim7 := { stood := { row := reedDecodesUptoRow, standIns := [], harness := (true, "fe8e13e9530b38f74d030da933cbba72a51c3e8c62705994d684955b0695a745"), looks := false }, kinds := [], alts := [], laidByText := true, laidKinds := [.data], laidTests := true, laidLooks := .later }
def ReedDecodesUptoCardSaid : Prop := Claim7.holds Tryd.pinned (.plain (OpenSpec.upto reedDecodesSpec)) reedDecodesUptoCard

/-- THE SECOND FORM's CARD OF 'amphoralaw04.StripeJoins'. -/
def stripeJoinsUptoCard : Claim7 := { stood := { row := stripeJoinsUptoRow, standIns := [], harness := (true, "fe8e13e9530b38f74d030da933cbba72a51c3e8c62705994d684955b0695a745"), looks := false }, kinds := [], alts := [], laidByText := true, laidKinds := [.data], laidTests := true, laidLooks := .later }
def StripeJoinsUptoCardSaid : Prop := Claim7.holds Tryd.pinned (.plain (OpenSpec.upto stripeJoinsSpec)) stripeJoinsUptoCard
end Rows
end Go.Proofs.YtbmhfclknilcoaaDoor
