/-
  DERIVED. GIVEN WITH THE SEED: THE CARDS: each row of YtokicnokinkpfaaDoorRows.lean that lists a variable, with what it lists TIED to the program's text (the seventh form; the later family's looks); each row that meets fmt, with fmt's text TOLD by the authors' own Lean function (tested against real Go, not proved from fmt's source: count such statements apart). THE CARD IS WHAT COUNTS. Prove the row's statement (the work); the ties are given (YtokicnokinkpfaaDoorTie.lean); close each card by the builder's one call (the guide's Derived/Test/ToyasCard.lean, 'card_holds'). Laid BY PROGRAM, IN A SANDBOX (cutbox-door.mjs). By AI agents, Wed Nov 11 2026. No macro, syntax, notation, axiom, sorry.
-/
import Derived.Test.YtokicnokinkpfaaDoorRows
import GoSem.ClaimSeven
namespace Go.Proofs.YtokicnokinkpfaaDoor
namespace Rows

/-- THE TIED CARD OF 'amphoralaw04.StripeApart'. -/
def stripeApartCard : Claim7 := { stood := { row := stripeApartRow, standIns := [], harness := (true, "dc07fc438a8f5f6a9823660bdbe92fa9ee3b5515c5593ee72dfb30c0397d2c2f"), looks := false }, kinds := [], alts := [], laidByText := true, laidKinds := [.data], laidTests := true, laidLooks := .later }
def StripeApartCardSaid : Prop := Claim7.holds Tryd.pinned (.plain (OpenSpec.ofChange stripeApartSpec)) stripeApartCard

/-- THE SECOND FORM's CARD OF 'amphoralaw04.StripeApart'. -/
def stripeApartUptoCard : Claim7 := { stood := { row := stripeApartUptoRow, standIns := [], harness := (true, "dc07fc438a8f5f6a9823660bdbe92fa9ee3b5515c5593ee72dfb30c0397d2c2f"), looks := false }, kinds := [], alts := [], laidByText := true, laidKinds := [.data], laidTests := true, laidLooks := .later }
def StripeApartUptoCardSaid : Prop := Claim7.holds Tryd.pinned (.plain (OpenSpec.upto stripeApartSpec)) stripeApartUptoCard
end Rows
end Go.Proofs.YtokicnokinkpfaaDoor
