/-
  DERIVED. GIVEN WITH THE SEED: THE CARDS: each row of YtmncocmeafcpfaaDoorRows.lean that lists a variable, with what it lists TIED to the program's text (the seventh form; the later family's looks); each row that meets fmt, with fmt's text TOLD by the authors' own Lean function (tested against real Go, not proved from fmt's source: count such statements apart). THE CARD IS WHAT COUNTS. Prove the row's statement (the work); the ties are given (YtmncocmeafcpfaaDoorTie.lean); close each card by the builder's one call (the guide's Derived/Test/ToyasCard.lean, 'card_holds'). Laid BY PROGRAM, IN A SANDBOX (cutbox-door.mjs). By AI agents, Wed Nov 11 2026. No macro, syntax, notation, axiom, sorry.
-/
import Derived.Test.YtmncocmeafcpfaaDoorRows
import GoSem.ClaimSeven
namespace Go.Proofs.YtmncocmeafcpfaaDoor
namespace Rows

/-- THE TIED CARD OF 'amphoralaw17.MoverBrings'. -/
def moverBringsCard : Claim7 := { stood := { row := moverBringsRow, standIns := [], harness := (true, "cb7e805fd521390e9377de94c4f0d4add23baef0ba3a3e8170c5245ec4fae42a"), looks := false }, kinds := [], alts := [], laidByText := true, laidKinds := [.data], laidTests := true, laidLooks := .later }
def MoverBringsCardSaid : Prop := Claim7.holds Tryd.pinned (.plain (OpenSpec.ofChange moverBringsSpec)) moverBringsCard

/-- THE TIED CARD OF 'amphoralaw17.MoverFences'. -/
def moverFencesCard : Claim7 := { stood := { row := moverFencesRow, standIns := [], harness := (true, "cb7e805fd521390e9377de94c4f0d4add23baef0ba3a3e8170c5245ec4fae42a"), looks := false }, kinds := [], alts := [], laidByText := true, laidKinds := [.data], laidTests := true, laidLooks := .later }
def MoverFencesCardSaid : Prop := Claim7.holds Tryd.pinned (.plain (OpenSpec.ofChange moverFencesSpec)) moverFencesCard

/-- THE TIED CARD OF 'amphoralaw17.MoverNobody'. -/
def moverNobodyCard : Claim7 := { stood := { row := moverNobodyRow, standIns := [], harness := (true, "cb7e805fd521390e9377de94c4f0d4add23baef0ba3a3e8170c5245ec4fae42a"), looks := false }, kinds := [], alts := [], laidByText := true, laidKinds := [.data], laidTests := true, laidLooks := .later }
def MoverNobodyCardSaid : Prop := Claim7.holds Tryd.pinned (.plain (OpenSpec.ofChange moverNobodySpec)) moverNobodyCard

/-- THE TIED CARD OF 'amphoralaw18.RecodeStores'. -/
def recodeStoresCard : Claim7 := { stood := { row := recodeStoresRow, standIns := [], harness := (true, "cb7e805fd521390e9377de94c4f0d4add23baef0ba3a3e8170c5245ec4fae42a"), looks := false }, kinds := [], alts := [], laidByText := true, laidKinds := [.data, .data], laidTests := true, laidLooks := .later }
def RecodeStoresCardSaid : Prop := Claim7.holds Tryd.pinned (.plain (OpenSpec.ofChange recodeStoresSpec)) recodeStoresCard

/-- THE TIED CARD OF 'amphoralaw18.RecodeForgets'. -/
def recodeForgetsCard : Claim7 := { stood := { row := recodeForgetsRow, standIns := [], harness := (true, "cb7e805fd521390e9377de94c4f0d4add23baef0ba3a3e8170c5245ec4fae42a"), looks := false }, kinds := [], alts := [], laidByText := true, laidKinds := [.data, .data], laidTests := true, laidLooks := .later }
def RecodeForgetsCardSaid : Prop := Claim7.holds Tryd.pinned (.plain (OpenSpec.ofChange recodeForgetsSpec)) recodeForgetsCard

/-- THE TIED CARD OF 'amphoralaw18.RecodeNobody'. -/
def recodeNobodyCard : Claim7 := { stood := { row := recodeNobodyRow, standIns := [], harness := (true, "cb7e805fd521390e9377de94c4f0d4add23baef0ba3a3e8170c5245ec4fae42a"), looks := false }, kinds := [], alts := [], laidByText := true, laidKinds := [.data, .data], laidTests := true, laidLooks := .later }
def RecodeNobodyCardSaid : Prop := Claim7.holds Tryd.pinned (.plain (OpenSpec.ofChange recodeNobodySpec)) recodeNobodyCard

/-- THE TIED CARD OF 'amphoralaw18.RecodeWaits'. -/
def recodeWaitsCard : Claim7 := { stood := { row := recodeWaitsRow, standIns := [], harness := (true, "cb7e805fd521390e9377de94c4f0d4add23baef0ba3a3e8170c5245ec4fae42a"), looks := false }, kinds := [], alts := [], laidByText := true, laidKinds := [.data, .data], laidTests := true, laidLooks := .later }
def RecodeWaitsCardSaid : Prop := Claim7.holds Tryd.pinned (.plain (OpenSpec.ofChange recodeWaitsSpec)) recodeWaitsCard

/-- THE TIED CARD OF 'amphoralaw19.CoordOnce'. -/
def coordOnceCard : Claim7 := { stood := { row := coordOnceRow, standIns := [], harness := (true, "cb7e805fd521390e9377de94c4f0d4add23baef0ba3a3e8170c5245ec4fae42a"), looks := false }, kinds := [], alts := [], laidByText := true, laidKinds := [.data, .data], laidTests := true, laidLooks := .later }
def CoordOnceCardSaid : Prop := Claim7.holds Tryd.pinned (.plain (OpenSpec.ofChange coordOnceSpec)) coordOnceCard

/-- THE TIED CARD OF 'amphoralaw19.CoordNobody'. -/
def coordNobodyCard : Claim7 := { stood := { row := coordNobodyRow, standIns := [], harness := (true, "cb7e805fd521390e9377de94c4f0d4add23baef0ba3a3e8170c5245ec4fae42a"), looks := false }, kinds := [], alts := [], laidByText := true, laidKinds := [.data, .data], laidTests := true, laidLooks := .later }
def CoordNobodyCardSaid : Prop := Claim7.holds Tryd.pinned (.plain (OpenSpec.ofChange coordNobodySpec)) coordNobodyCard

/-- THE TIED CARD OF 'amphoralaw19.CoordRefused'. -/
def coordRefusedCard : Claim7 := { stood := { row := coordRefusedRow, standIns := [], harness := (true, "cb7e805fd521390e9377de94c4f0d4add23baef0ba3a3e8170c5245ec4fae42a"), looks := false }, kinds := [], alts := [], laidByText := true, laidKinds := [.data, .data], laidTests := true, laidLooks := .later }
def CoordRefusedCardSaid : Prop := Claim7.holds Tryd.pinned (.plain (OpenSpec.ofChange coordRefusedSpec)) coordRefusedCard

/-- THE SECOND FORM's CARD OF 'amphoralaw17.MoverBrings'. -/
def moverBringsUptoCard : Claim7 := { stood := { row := moverBringsUptoRow, standIns := [], harness := (true, "cb7e805fd521390e9377de94c4f0d4add23baef0ba3a3e8170c5245ec4fae42a"), looks := false }, kinds := [], alts := [], laidByText := true, laidKinds := [.data], laidTests := true, laidLooks := .later }
def MoverBringsUptoCardSaid : Prop := Claim7.holds Tryd.pinned (.plain (OpenSpec.upto moverBringsSpec)) moverBringsUptoCard

/-- THE SECOND FORM's CARD OF 'amphoralaw17.MoverFences'. -/
def moverFencesUptoCard : Claim7 := { stood := { row := moverFencesUptoRow, standIns := [], harness := (true, "cb7e805fd521390e9377de94c4f0d4add23baef0ba3a3e8170c5245ec4fae42a"), looks := false }, kinds := [], alts := [], laidByText := true, laidKinds := [.data], laidTests := true, laidLooks := .later }
def MoverFencesUptoCardSaid : Prop := Claim7.holds Tryd.pinned (.plain (OpenSpec.upto moverFencesSpec)) moverFencesUptoCard

/-- THE SECOND FORM's CARD OF 'amphoralaw17.MoverNobody'. -/
def moverNobodyUptoCard : Claim7 := { stood := { row := moverNobodyUptoRow, standIns := [], harness := (true, "cb7e805fd521390e9377de94c4f0d4add23baef0ba3a3e8170c5245ec4fae42a"), looks := false }, kinds := [], alts := [], laidByText := true, laidKinds := [.data], laidTests := true, laidLooks := .later }
def MoverNobodyUptoCardSaid : Prop := Claim7.holds Tryd.pinned (.plain (OpenSpec.upto moverNobodySpec)) moverNobodyUptoCard

/-- THE SECOND FORM's CARD OF 'amphoralaw18.RecodeStores'. -/
def recodeStoresUptoCard : Claim7 := { stood := { row := recodeStoresUptoRow, standIns := [], harness := (true, "cb7e805fd521390e9377de94c4f0d4add23baef0ba3a3e8170c5245ec4fae42a"), looks := false }, kinds := [], alts := [], laidByText := true, laidKinds := [.data, .data], laidTests := true, laidLooks := .later }
def RecodeStoresUptoCardSaid : Prop := Claim7.holds Tryd.pinned (.plain (OpenSpec.upto recodeStoresSpec)) recodeStoresUptoCard

/-- THE SECOND FORM's CARD OF 'amphoralaw18.RecodeForgets'. -/
def recodeForgetsUptoCard : Claim7 := { stood := { row := recodeForgetsUptoRow, standIns := [], harness := (true, "cb7e805fd521390e9377de94c4f0d4add23baef0ba3a3e8170c5245ec4fae42a"), looks := false }, kinds := [], alts := [], laidByText := true, laidKinds := [.data, .data], laidTests := true, laidLooks := .later }
def RecodeForgetsUptoCardSaid : Prop := Claim7.holds Tryd.pinned (.plain (OpenSpec.upto recodeForgetsSpec)) recodeForgetsUptoCard

/-- THE SECOND FORM's CARD OF 'amphoralaw18.RecodeNobody'. -/
def recodeNobodyUptoCard : Claim7 := { stood := { row := recodeNobodyUptoRow, standIns := [], harness := (true, "cb7e805fd521390e9377de94c4f0d4add23baef0ba3a3e8170c5245ec4fae42a"), looks := false }, kinds := [], alts := [], laidByText := true, laidKinds := [.data, .data], laidTests := true, laidLooks := .later }
def RecodeNobodyUptoCardSaid : Prop := Claim7.holds Tryd.pinned (.plain (OpenSpec.upto recodeNobodySpec)) recodeNobodyUptoCard

/-- THE SECOND FORM's CARD OF 'amphoralaw18.RecodeWaits'. -/
def recodeWaitsUptoCard : Claim7 := { stood := { row := recodeWaitsUptoRow, standIns := [], harness := (true, "cb7e805fd521390e9377de94c4f0d4add23baef0ba3a3e8170c5245ec4fae42a"), looks := false }, kinds := [], alts := [], laidByText := true, laidKinds := [.data, .data], laidTests := true, laidLooks := .later }
def RecodeWaitsUptoCardSaid : Prop := Claim7.holds Tryd.pinned (.plain (OpenSpec.upto recodeWaitsSpec)) recodeWaitsUptoCard

/-- THE SECOND FORM's CARD OF 'amphoralaw19.CoordOnce'. -/
def coordOnceUptoCard : Claim7 := { stood := { row := coordOnceUptoRow, standIns := [], harness := (true, "cb7e805fd521390e9377de94c4f0d4add23baef0ba3a3e8170c5245ec4fae42a"), looks := false }, kinds := [], alts := [], laidByText := true, laidKinds := [.data, .data], laidTests := true, laidLooks := .later }
def CoordOnceUptoCardSaid : Prop := Claim7.holds Tryd.pinned (.plain (OpenSpec.upto coordOnceSpec)) coordOnceUptoCard

/-- THE SECOND FORM's CARD OF 'amphoralaw19.CoordNobody'. -/
def coordNobodyUptoCard : Claim7 := { stood := { row := coordNobodyUptoRow, standIns := [], harness := (true, "cb7e805fd521390e9377de94c4f0d4add23baef0ba3a3e8170c5245ec4fae42a"), looks := false }, kinds := [], alts := [], laidByText := true, laidKinds := [.data, .data], laidTests := true, laidLooks := .later }
def CoordNobodyUptoCardSaid : Prop := Claim7.holds Tryd.pinned (.plain (OpenSpec.upto coordNobodySpec)) coordNobodyUptoCard

/-- THE SECOND FORM's CARD OF 'amphoralaw19.CoordRefused'. -/
def coordRefusedUptoCard : Claim7 := { stood := { row := coordRefusedUptoRow, standIns := [], harness := (true, "cb7e805fd521390e9377de94c4f0d4add23baef0ba3a3e8170c5245ec4fae42a"), looks := false }, kinds := [], alts := [], laidByText := true, laidKinds := [.data, .data], laidTests := true, laidLooks := .later }
def CoordRefusedUptoCardSaid : Prop := Claim7.holds Tryd.pinned (.plain (OpenSpec.upto coordRefusedSpec)) coordRefusedUptoCard
end Rows
end Go.Proofs.YtmncocmeafcpfaaDoor
