/-
  DERIVED. GIVEN WITH THE SEED: THE CARDS: each row of YtolgpepnjinfgaaDoorRows.lean that lists a variable, with what it lists TIED to the program's text (the seventh form; the later family's looks); each row that meets fmt, with fmt's text TOLD by the authors' own Lean function (tested against real Go, not proved from fmt's source: count such statements apart). THE CARD IS WHAT COUNTS. Prove the row's statement (the work); the ties are given (YtolgpepnjinfgaaDoorTie.lean); close each card by the builder's one call (the guide's Derived/Test/ToyasCard.lean, 'card_holds'). Laid BY PROGRAM, IN A SANDBOX (cutbox-door.mjs). By AI agents, Wed Nov 11 2026. No macro, syntax, notation, axiom, sorry.
-/
import Derived.Test.YtolgpepnjinfgaaDoorRows
import GoSem.ClaimSeven
namespace Go.Proofs.YtolgpepnjinfgaaDoor
namespace Rows

/-- THE TIED CARD OF 'amphoralaw01.GaloisTells'. -/
def galoisTellsCard : Claim7 := { stood := { row := galoisTellsRow, standIns := [], harness := (true, "ea285fd49905501cb9f86281893d444ff6b83917b6426f072ee020731085cedd"), looks := false }, kinds := [], alts := [], laidByText := true, laidKinds := [.data], laidTests := true, laidLooks := .later }
def GaloisTellsCardSaid : Prop := Claim7.holds Tryd.pinned (.plain (OpenSpec.ofChange galoisTellsSpec)) galoisTellsCard

/-- THE TIED CARD OF 'amphoralaw01.GaloisPowers'. -/
def galoisPowersCard : Claim7 := { stood := { row := galoisPowersRow, standIns := [], harness := (true, "ea285fd49905501cb9f86281893d444ff6b83917b6426f072ee020731085cedd"), looks := false }, kinds := [], alts := [], laidByText := true, laidKinds := [.data, .data], laidTests := true, laidLooks := .later }
def GaloisPowersCardSaid : Prop := Claim7.holds Tryd.pinned (.plain (OpenSpec.ofChange galoisPowersSpec)) galoisPowersCard

/-- THE TIED CARD OF 'amphoralaw01.GaloisField'. -/
def galoisFieldCard : Claim7 := { stood := { row := galoisFieldRow, standIns := [], harness := (true, "ea285fd49905501cb9f86281893d444ff6b83917b6426f072ee020731085cedd"), looks := false }, kinds := [], alts := [], laidByText := true, laidKinds := [.data], laidTests := true, laidLooks := .later }
def GaloisFieldCardSaid : Prop := Claim7.holds Tryd.pinned (.plain (OpenSpec.ofChange galoisFieldSpec)) galoisFieldCard

/-- THE TIED CARD OF 'amphoralaw01.GaloisExp'. -/
def galoisExpCard : Claim7 := { stood := { row := galoisExpRow, standIns := [], harness := (true, "ea285fd49905501cb9f86281893d444ff6b83917b6426f072ee020731085cedd"), looks := false }, kinds := [], alts := [], laidByText := true, laidKinds := [.data, .data], laidTests := true, laidLooks := .later }
def GaloisExpCardSaid : Prop := Claim7.holds Tryd.pinned (.plain (OpenSpec.ofChange galoisExpSpec)) galoisExpCard

/-- THE TIED CARD OF 'amphoralaw01.GaloisQuotients'. -/
def galoisQuotientsCard : Claim7 := { stood := { row := galoisQuotientsRow, standIns := [], harness := (true, "ea285fd49905501cb9f86281893d444ff6b83917b6426f072ee020731085cedd"), looks := false }, kinds := [], alts := [], laidByText := true, laidKinds := [.data], laidTests := true, laidLooks := .later }
def GaloisQuotientsCardSaid : Prop := Claim7.holds Tryd.pinned (.plain (OpenSpec.ofChange galoisQuotientsSpec)) galoisQuotientsCard

/-- THE TIED CARD OF 'amphoralaw01.GaloisPows'. -/
def galoisPowsCard : Claim7 := { stood := { row := galoisPowsRow, standIns := [], harness := (true, "ea285fd49905501cb9f86281893d444ff6b83917b6426f072ee020731085cedd"), looks := false }, kinds := [], alts := [], laidByText := true, laidKinds := [.data], laidTests := true, laidLooks := .later }
def GaloisPowsCardSaid : Prop := Claim7.holds Tryd.pinned (.plain (OpenSpec.ofChange galoisPowsSpec)) galoisPowsCard

/-- THE SECOND FORM's CARD OF 'amphoralaw01.GaloisTells'. -/
def galoisTellsUptoCard : Claim7 := { stood := { row := galoisTellsUptoRow, standIns := [], harness := (true, "ea285fd49905501cb9f86281893d444ff6b83917b6426f072ee020731085cedd"), looks := false }, kinds := [], alts := [], laidByText := true, laidKinds := [.data], laidTests := true, laidLooks := .later }
def GaloisTellsUptoCardSaid : Prop := Claim7.holds Tryd.pinned (.plain (OpenSpec.upto galoisTellsSpec)) galoisTellsUptoCard

/-- THE SECOND FORM's CARD OF 'amphoralaw01.GaloisPowers'. -/
def galoisPowersUptoCard : Claim7 := { stood := { row := galoisPowersUptoRow, standIns := [], harness := (true, "ea285fd49905501cb9f86281893d444ff6b83917b6426f072ee020731085cedd"), looks := false }, kinds := [], alts := [], laidByText := true, laidKinds := [.data, .data], laidTests := true, laidLooks := .later }
def GaloisPowersUptoCardSaid : Prop := Claim7.holds Tryd.pinned (.plain (OpenSpec.upto galoisPowersSpec)) galoisPowersUptoCard

/-- THE SECOND FORM's CARD OF 'amphoralaw01.GaloisField'. -/
def galoisFieldUptoCard : Claim7 := { stood := { row := galoisFieldUptoRow, standIns := [], harness := (true, "ea285fd49905501cb9f86281893d444ff6b83917b6426f072ee020731085cedd"), looks := false }, kinds := [], alts := [], laidByText := true, laidKinds := [.data], laidTests := true, laidLooks := .later }
def GaloisFieldUptoCardSaid : Prop := Claim7.holds Tryd.pinned (.plain (OpenSpec.upto galoisFieldSpec)) galoisFieldUptoCard

/-- THE SECOND FORM's CARD OF 'amphoralaw01.GaloisExp'. -/
def galoisExpUptoCard : Claim7 := { stood := { row := galoisExpUptoRow, standIns := [], harness := (true, "ea285fd49905501cb9f86281893d444ff6b83917b6426f072ee020731085cedd"), looks := false }, kinds := [], alts := [], laidByText := true, laidKinds := [.data, .data], laidTests := true, laidLooks := .later }
def GaloisExpUptoCardSaid : Prop := Claim7.holds Tryd.pinned (.plain (OpenSpec.upto galoisExpSpec)) galoisExpUptoCard

/-- THE SECOND FORM's CARD OF 'amphoralaw01.GaloisQuotients'. -/
def galoisQuotientsUptoCard : Claim7 := { stood := { row := galoisQuotientsUptoRow, standIns := [], harness := (true, "ea285fd49905501cb9f86281893d444ff6b83917b6426f072ee020731085cedd"), looks := false }, kinds := [], alts := [], laidByText := true, laidKinds := [.data], laidTests := true, laidLooks := .later }
def GaloisQuotientsUptoCardSaid : Prop := Claim7.holds Tryd.pinned (.plain (OpenSpec.upto galoisQuotientsSpec)) galoisQuotientsUptoCard

/-- THE SECOND FORM's CARD OF 'amphoralaw01.GaloisPows'. -/
def galoisPowsUptoCard : Claim7 := { stood := { row := galoisPowsUptoRow, standIns := [], harness := (true, "ea285fd49905501cb9f86281893d444ff6b83917b6426f072ee020731085cedd"), looks := false }, kinds := [], alts := [], laidByText := true, laidKinds := [.data], laidTests := true, laidLooks := .later }
def GaloisPowsUptoCardSaid : Prop := Claim7.holds Tryd.pinned (.plain (OpenSpec.upto galoisPowsSpec)) galoisPowsUptoCard
end Rows
end Go.Proofs.YtolgpepnjinfgaaDoor
