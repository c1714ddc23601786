/-
  DERIVED. GIVEN WITH THE SEED: THE CARDS: each row of YtoepemgflbmlcaaDoorRows.lean that lists a variable, with what it lists TIED to the program's text (the seventh form; the later family's looks); each row that meets fmt, with fmt's text TOLD by the authors' own Lean function (tested against real Go, not proved from fmt's source: count such statements apart). THE CARD IS WHAT COUNTS. Prove the row's statement (the work); the ties are given (YtoepemgflbmlcaaDoorTie.lean); close each card by the builder's one call (the guide's Derived/Test/ToyasCard.lean, 'card_holds'). Laid BY PROGRAM, IN A SANDBOX (cutbox-door.mjs). By AI agents, Wed Nov 11 2026. No macro, syntax, notation, axiom, sorry.
-/
import Derived.Test.YtoepemgflbmlcaaDoorRows
import GoSem.ClaimSeven
namespace Go.Proofs.YtoepemgflbmlcaaDoor
namespace Rows

/-- THE TIED CARD OF 'amphoralaw05.FrameCmds'. -/
def frameCmdsCard : Claim7 := { stood := { row := frameCmdsRow, standIns := [], harness := (true, "a5361472e0b19ea8df0365bfd4455c69d7a76722ce7654137dfb2445785189aa"), looks := false }, kinds := [], alts := [], laidByText := true, laidKinds := [.data], laidTests := true, laidLooks := .later }
def FrameCmdsCardSaid : Prop := Claim7.holds Tryd.pinned (.plain (OpenSpec.ofChange frameCmdsSpec)) frameCmdsCard

/-- THE TIED CARD OF 'amphoralaw05.FrameMsgs'. -/
def frameMsgsCard : Claim7 := { stood := { row := frameMsgsRow, standIns := [], harness := (true, "a5361472e0b19ea8df0365bfd4455c69d7a76722ce7654137dfb2445785189aa"), looks := false }, kinds := [], alts := [], laidByText := true, laidKinds := [.data], laidTests := true, laidLooks := .later }
def FrameMsgsCardSaid : Prop := Claim7.holds Tryd.pinned (.plain (OpenSpec.ofChange frameMsgsSpec)) frameMsgsCard

/-- THE TIED CARD OF 'amphoralaw05.FrameBack'. -/
def frameBackCard : Claim7 := { stood := { row := frameBackRow, standIns := [], harness := (true, "a5361472e0b19ea8df0365bfd4455c69d7a76722ce7654137dfb2445785189aa"), looks := false }, kinds := [], alts := [], laidByText := true, laidKinds := [.data], laidTests := true, laidLooks := .later }
def FrameBackCardSaid : Prop := Claim7.holds Tryd.pinned (.plain (OpenSpec.ofChange frameBackSpec)) frameBackCard

/-- THE TIED CARD OF 'amphoralaw05.FrameOnce'. -/
def frameOnceCard : Claim7 := { stood := { row := frameOnceRow, standIns := [], harness := (true, "a5361472e0b19ea8df0365bfd4455c69d7a76722ce7654137dfb2445785189aa"), looks := false }, kinds := [], alts := [], laidByText := true, laidKinds := [.data], laidTests := true, laidLooks := .later }
def FrameOnceCardSaid : Prop := Claim7.holds Tryd.pinned (.plain (OpenSpec.ofChange frameOnceSpec)) frameOnceCard

/-- THE SECOND FORM's CARD OF 'amphoralaw05.FrameCmds'. -/
def frameCmdsUptoCard : Claim7 := { stood := { row := frameCmdsUptoRow, standIns := [], harness := (true, "a5361472e0b19ea8df0365bfd4455c69d7a76722ce7654137dfb2445785189aa"), looks := false }, kinds := [], alts := [], laidByText := true, laidKinds := [.data], laidTests := true, laidLooks := .later }
def FrameCmdsUptoCardSaid : Prop := Claim7.holds Tryd.pinned (.plain (OpenSpec.upto frameCmdsSpec)) frameCmdsUptoCard

/-- THE SECOND FORM's CARD OF 'amphoralaw05.FrameMsgs'. -/
def frameMsgsUptoCard : Claim7 := { stood := { row := frameMsgsUptoRow, standIns := [], harness := (true, "a5361472e0b19ea8df0365bfd4455c69d7a76722ce7654137dfb2445785189aa"), looks := false }, kinds := [], alts := [], laidByText := true, laidKinds := [.data], laidTests := true, laidLooks := .later }
def FrameMsgsUptoCardSaid : Prop := Claim7.holds Tryd.pinned (.plain (OpenSpec.upto frameMsgsSpec)) frameMsgsUptoCard

/-- THE SECOND FORM's CARD OF 'amphoralaw05.FrameBack'. -/
def frameBackUptoCard : Claim7 := { stood := { row := frameBackUptoRow, standIns := [], harness := (true, "a5361472e0b19ea8df0365bfd4455c69d7a76722ce7654137dfb2445785189aa"), looks := false }, kinds := [], alts := [], laidByText := true, laidKinds := [.data], laidTests := true, laidLooks := .later }
def FrameBackUptoCardSaid : Prop := Claim7.holds Tryd.pinned (.plain (OpenSpec.upto frameBackSpec)) frameBackUptoCard

/-- THE SECOND FORM's CARD OF 'amphoralaw05.FrameOnce'. -/
def frameOnceUptoCard : Claim7 := { stood := { row := frameOnceUptoRow, standIns := [], harness := (true, "a5361472e0b19ea8df0365bfd4455c69d7a76722ce7654137dfb2445785189aa"), looks := false }, kinds := [], alts := [], laidByText := true, laidKinds := [.data], laidTests := true, laidLooks := .later }
def FrameOnceUptoCardSaid : Prop := Claim7.holds Tryd.pinned (.plain (OpenSpec.upto frameOnceSpec)) frameOnceUptoCard
end Rows
end Go.Proofs.YtoepemgflbmlcaaDoor
