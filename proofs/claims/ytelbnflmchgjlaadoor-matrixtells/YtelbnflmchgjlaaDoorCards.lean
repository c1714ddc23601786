/-
  DERIVED. GIVEN WITH THE SEED: THE CARDS: each row of YtelbnflmchgjlaaDoorRows.lean that lists a variable, with what it lists TIED to the program's text (the seventh form; the later family's looks); each row that meets fmt, with fmt's text TOLD by the authors' own Lean function (tested against real Go, not proved from fmt's source: count such statements apart). THE CARD IS WHAT COUNTS. Prove the row's statement (the work); the ties are given (YtelbnflmchgjlaaDoorTie.lean); close each card by the builder's one call (the guide's Derived/Test/ToyasCard.lean, 'card_holds'). Laid BY PROGRAM, IN A SANDBOX (cutbox-door.mjs). By AI agents, Wed Nov 11 2026. No macro, syntax, notation, axiom, sorry.
-/
import Derived.Test.YtelbnflmchgjlaaDoorRows
import GoSem.ClaimSeven
namespace Go.Proofs.YtelbnflmchgjlaaDoor
namespace Rows

/-- THE TIED CARD OF 'amphoralaw03.ReedDecodes'. -/
def reedDecodesCard : Claim7 := { stood := { row := reedDecodesRow, standIns := [], harness := (true, "526cf6d644995c7b4884fce8a1f12c683a13c2762af7e997c367949eed7832af"), looks := false }, kinds := [], alts := [], laidByText := true, laidKinds := [.data], laidTests := true, laidLooks := .later }
def ReedDecodesCardSaid : Prop := Claim7.holds Tryd.pinned (.plain (OpenSpec.ofChange reedDecodesSpec)) reedDecodesCard

/-- THE TIED CARD OF 'amphoralaw04.StripeJoins'. -/
def stripeJoinsCard : Claim7 := { stood := { row := stripeJoinsRow, standIns := [], harness := (true, "526cf6d644995c7b4884fce8a1f12c683a13c2762af7e997c367949eed7832af"), looks := false }, kinds := [], alts := [], laidByText := true, laidKinds := [.data], laidTests := true, laidLooks := .later }
def StripeJoinsCardSaid : Prop := Claim7.holds Tryd.pinned (.plain (OpenSpec.ofChange stripeJoinsSpec)) stripeJoinsCard

/-- THE TIED CARD OF 'amphoralaw02.MatrixInverse'. -/
def matrixInverseCard : Claim7 := { stood := { row := matrixInverseRow, standIns := [], harness := (true, "526cf6d644995c7b4884fce8a1f12c683a13c2762af7e997c367949eed7832af"), looks := false }, kinds := [], alts := [], laidByText := true, laidKinds := [.data], laidTests := true, laidLooks := .later }
def MatrixInverseCardSaid : Prop := Claim7.holds Tryd.pinned (.plain (OpenSpec.ofChange matrixInverseSpec)) matrixInverseCard

/-- THE TIED CARD OF 'amphoralaw02.MatrixTells'. -/
def matrixTellsCard : Claim7 := { stood := { row := matrixTellsRow, standIns := [], harness := (true, "526cf6d644995c7b4884fce8a1f12c683a13c2762af7e997c367949eed7832af"), looks := false }, kinds := [], alts := [], laidByText := true, laidKinds := [.data], laidTests := true, laidLooks := .later }
def MatrixTellsCardSaid : Prop := Claim7.holds Tryd.pinned (.plain (OpenSpec.ofChange matrixTellsSpec)) matrixTellsCard

/-- THE SECOND FORM's CARD OF 'amphoralaw03.ReedDecodes'. -/
def reedDecodesUptoCard : Claim7 := { stood := { row := reedDecodesUptoRow, standIns := [], harness := (true, "526cf6d644995c7b4884fce8a1f12c683a13c2762af7e997c367949eed7832af"), looks := false }, kinds := [], alts := [], laidByText := true, laidKinds := [.data], laidTests := true, laidLooks := .later }
def ReedDecodesUptoCardSaid : Prop := Claim7.holds Tryd.pinned (.plain (OpenSpec.upto reedDecodesSpec)) reedDecodesUptoCard

/-- THE SECOND FORM's CARD OF 'amphoralaw04.StripeJoins'. -/
def stripeJoinsUptoCard : Claim7 := { stood := { row := stripeJoinsUptoRow, standIns := [], harness := (true, "526cf6d644995c7b4884fce8a1f12c683a13c2762af7e997c367949eed7832af"), looks := false }, kinds := [], alts := [], laidByText := true, laidKinds := [.data], laidTests := true, laidLooks := .later }
def StripeJoinsUptoCardSaid : Prop := Claim7.holds Tryd.pinned (.plain (OpenSpec.upto stripeJoinsSpec)) stripeJoinsUptoCard

/-- THE SECOND FORM's CARD OF 'amphoralaw02.MatrixInverse'. -/
def matrixInverseUptoCard : Claim7 := { stood := { row := matrixInverseUptoRow, standIns := [], harness := (true, "526cf6d644995c7b4884fce8a1f12c683a13c2762af7e997c367949eed7832af"), looks := false }, kinds := [], alts := [], laidByText := true, laidKinds := [.data], laidTests := true, laidLooks := .later }
def MatrixInverseUptoCardSaid : Prop := Claim7.holds Tryd.pinned (.plain (OpenSpec.upto matrixInverseSpec)) matrixInverseUptoCard

/-- THE SECOND FORM's CARD OF 'amphoralaw02.MatrixTells'. -/
def matrixTellsUptoCard : Claim7 := { stood := { row := matrixTellsUptoRow, standIns := [], harness := (true, "526cf6d644995c7b4884fce8a1f12c683a13c2762af7e997c367949eed7832af"), looks := false }, kinds := [], alts := [], laidByText := true, laidKinds := [.data], laidTests := true, laidLooks := .later }
def MatrixTellsUptoCardSaid : Prop := Claim7.holds Tryd.pinned (.plain (OpenSpec.upto matrixTellsSpec)) matrixTellsUptoCard
end Rows
end Go.Proofs.YtelbnflmchgjlaaDoor
