/-
  NARROWER THAN 'FOR EVERY INPUT', by the rows' own cells (each row's printed sentence says how): ReedPlaces: laid · ReedLinear: laid · ReedTurned: laid · StripeUnits: laid · StripeApart: laid.
  DERIVED. THE GIVEN ROWS OF THIS SEAT. 5 by the template 'for every input the law returns true; each argument reads behind the call as it read before'; 0 by the template 'total and deterministic' (their statements: YtkhgaigipfolaaaDoorTotals.lean).
  GIVEN WITH THE SEED: the statements are not yours to turn. If you find one false, say at which input.
  Laid BY PROGRAM, IN A SANDBOX (cutbox-rows.mjs): the forced cells as the released guide's own fill.sh prints them over the translation e8762f8ac7db3915… (all of the seat's roots in one cut). By AI agents, Wed Nov 11 2026. No macro, syntax, notation, axiom, sorry.
-/
import Derived.Test.YtkhgaigipfolaaaDoorChecked
import GoSem.Claim
import GoSem.ClaimJoined
import GoSem.ClaimMapViews
import Derived.JoinedTies
import Derived.KernelRfl
namespace Go.Proofs.YtkhgaigipfolaaaDoor
/- THE CELL 'sum', in the pinned program and in every row, IS THE sha256 OF THE DUMP (.gsa) THAT YtkhgaigipfolaaaDoorProg.lean LOADS. Nothing in Lean hashes anything: it is a label: what it is worth is what the hold of that sum in a sandbox is worth. -/
noncomputable def Tryd.pinned : Pinned := { name := "ytkhgaigipfolaaadoor", sum := "e8762f8ac7db3915e02c88d1cb8703bb4ae2f0b55686bdb51f51595dd79b2305", checked := Tryd.checked }
namespace Rows
def none {H : Type} : Left H := { results := [], args := [] }

/- WHAT THE LISTED PACKAGE-LEVEL VARIABLES READ AS WHEN THE CALL BEGINS. Each datum BY PROGRAM (the guide's laid-datum.mjs) off the statement by which the dump's own 'gosem.cut.vars' lays the variable. In a bare row this is a premise. The card (YtkhgaigipfolaaaDoorCards.lean) ties it to the program's text. -/
def laid_amphora_galois_powers {H : Type} : DataW H := .agg [.lit (.int .u8 1), .lit (.int .u8 2), .lit (.int .u8 4), .lit (.int .u8 8), .lit (.int .u8 16), .lit (.int .u8 32), .lit (.int .u8 64), .lit (.int .u8 128), .lit (.int .u8 29), .lit (.int .u8 58), .lit (.int .u8 116), .lit (.int .u8 232), .lit (.int .u8 205), .lit (.int .u8 135), .lit (.int .u8 19)]

/-- 'amphoralaw03.ReedPlaces': WHATEVER THE INPUT: true; the input reads as it did. -/
def reedPlacesSpec : ChangeSpec := { name := "reedPlaces", fn := fun _ => fun
  | [d1, d2, d3, d4, d5] => { results := [.lit (.bool true)], args := [d1, d2, d3, d4, d5] }
  | _ => none }
def reedPlacesRow : OpenClaim := { program := "ytkhgaigipfolaaadoor", sum := "e8762f8ac7db3915e02c88d1cb8703bb4ae2f0b55686bdb51f51595dd79b2305", func := "amphora/amphoralaw03.ReedPlaces", spec := "reedPlaces", unfollowed := true, recurses := true, named := ["amphora/galois.powers"], apart := false, laid := [("amphora/galois.powers", laid_amphora_galois_powers)] }
def ReedPlacesSaid : Prop := reedPlacesRow.holds Tryd.pinned (OpenSpec.ofChange reedPlacesSpec)

/-- ITS FALSE NEIGHBOUR: 'it returns false'. Refute it at one input. -/
def reedPlacesWrong : ChangeSpec := { name := "reedPlaces", fn := fun _ => fun
  | [d1, d2, d3, d4, d5] => { results := [.lit (.bool false)], args := [d1, d2, d3, d4, d5] }
  | _ => none }
def ReedPlacesWrongFalsely : Prop := reedPlacesRow.holds Tryd.pinned (OpenSpec.ofChange reedPlacesWrong)

/-- 'amphoralaw03.ReedLinear': WHATEVER THE INPUT: true; the input reads as it did. -/
def reedLinearSpec : ChangeSpec := { name := "reedLinear", fn := fun _ => fun
  | [d1, d2, d3, d4, d5] => { results := [.lit (.bool true)], args := [d1, d2, d3, d4, d5] }
  | _ => none }
def reedLinearRow : OpenClaim := { program := "ytkhgaigipfolaaadoor", sum := "e8762f8ac7db3915e02c88d1cb8703bb4ae2f0b55686bdb51f51595dd79b2305", func := "amphora/amphoralaw03.ReedLinear", spec := "reedLinear", unfollowed := true, recurses := true, named := ["amphora/galois.powers"], apart := false, laid := [("amphora/galois.powers", laid_amphora_galois_powers)] }
def ReedLinearSaid : Prop := reedLinearRow.holds Tryd.pinned (OpenSpec.ofChange reedLinearSpec)

/-- ITS FALSE NEIGHBOUR: 'it returns false'. Refute it at one input. -/
def reedLinearWrong : ChangeSpec := { name := "reedLinear", fn := fun _ => fun
  | [d1, d2, d3, d4, d5] => { results := [.lit (.bool false)], args := [d1, d2, d3, d4, d5] }
  | _ => none }
def ReedLinearWrongFalsely : Prop := reedLinearRow.holds Tryd.pinned (OpenSpec.ofChange reedLinearWrong)

/-- 'amphoralaw03.ReedTurned': WHATEVER THE INPUT: true; the input reads as it did. -/
def reedTurnedSpec : ChangeSpec := { name := "reedTurned", fn := fun _ => fun
  | [d1, d2, d3, d4, d5, d6, d7] => { results := [.lit (.bool true)], args := [d1, d2, d3, d4, d5, d6, d7] }
  | _ => none }
def reedTurnedRow : OpenClaim := { program := "ytkhgaigipfolaaadoor", sum := "e8762f8ac7db3915e02c88d1cb8703bb4ae2f0b55686bdb51f51595dd79b2305", func := "amphora/amphoralaw03.ReedTurned", spec := "reedTurned", unfollowed := true, recurses := true, named := ["amphora/galois.powers"], apart := false, laid := [("amphora/galois.powers", laid_amphora_galois_powers)] }
def ReedTurnedSaid : Prop := reedTurnedRow.holds Tryd.pinned (OpenSpec.ofChange reedTurnedSpec)

/-- ITS FALSE NEIGHBOUR: 'it returns false'. Refute it at one input. -/
def reedTurnedWrong : ChangeSpec := { name := "reedTurned", fn := fun _ => fun
  | [d1, d2, d3, d4, d5, d6, d7] => { results := [.lit (.bool false)], args := [d1, d2, d3, d4, d5, d6, d7] }
  | _ => none }
def ReedTurnedWrongFalsely : Prop := reedTurnedRow.holds Tryd.pinned (OpenSpec.ofChange reedTurnedWrong)

/-- 'amphoralaw04.StripeUnits': WHATEVER THE INPUT: true; the input reads as it did. -/
def stripeUnitsSpec : ChangeSpec := { name := "stripeUnits", fn := fun _ => fun
  | [d1, d2, d3] => { results := [.lit (.bool true)], args := [d1, d2, d3] }
  | _ => none }
def stripeUnitsRow : OpenClaim := { program := "ytkhgaigipfolaaadoor", sum := "e8762f8ac7db3915e02c88d1cb8703bb4ae2f0b55686bdb51f51595dd79b2305", func := "amphora/amphoralaw04.StripeUnits", spec := "stripeUnits", unfollowed := true, recurses := true, named := ["amphora/galois.powers"], apart := false, laid := [("amphora/galois.powers", laid_amphora_galois_powers)] }
def StripeUnitsSaid : Prop := stripeUnitsRow.holds Tryd.pinned (OpenSpec.ofChange stripeUnitsSpec)

/-- ITS FALSE NEIGHBOUR: 'it returns false'. Refute it at one input. -/
def stripeUnitsWrong : ChangeSpec := { name := "stripeUnits", fn := fun _ => fun
  | [d1, d2, d3] => { results := [.lit (.bool false)], args := [d1, d2, d3] }
  | _ => none }
def StripeUnitsWrongFalsely : Prop := stripeUnitsRow.holds Tryd.pinned (OpenSpec.ofChange stripeUnitsWrong)

/-- 'amphoralaw04.StripeApart': WHATEVER THE INPUT: true; the input reads as it did. -/
def stripeApartSpec : ChangeSpec := { name := "stripeApart", fn := fun _ => fun
  | [d1, d2, d3, d4, d5] => { results := [.lit (.bool true)], args := [d1, d2, d3, d4, d5] }
  | _ => none }
def stripeApartRow : OpenClaim := { program := "ytkhgaigipfolaaadoor", sum := "e8762f8ac7db3915e02c88d1cb8703bb4ae2f0b55686bdb51f51595dd79b2305", func := "amphora/amphoralaw04.StripeApart", spec := "stripeApart", unfollowed := true, recurses := true, named := ["amphora/galois.powers"], apart := false, laid := [("amphora/galois.powers", laid_amphora_galois_powers)] }
def StripeApartSaid : Prop := stripeApartRow.holds Tryd.pinned (OpenSpec.ofChange stripeApartSpec)

/-- ITS FALSE NEIGHBOUR: 'it returns false'. Refute it at one input. -/
def stripeApartWrong : ChangeSpec := { name := "stripeApart", fn := fun _ => fun
  | [d1, d2, d3, d4, d5] => { results := [.lit (.bool false)], args := [d1, d2, d3, d4, d5] }
  | _ => none }
def StripeApartWrongFalsely : Prop := stripeApartRow.holds Tryd.pinned (OpenSpec.ofChange stripeApartWrong)

/- THE SECOND FORM. 'bulk': how many values and letters a reading holds, each counted each time it is reached (what is shared counts as often as it is met; a slice's spare places count too). A statement '..UptoSaid' is the law's where the arguments, and the package variables that the reading takes, are together of bulk at most 1048576: NARROWER than '..Said'. Prove '..Said' where nothing that the law and all that it calls make is longer than what came in: it says more and counts as full. Else prove '..UptoSaid'. A law counts once. -/
mutual
def uptoBulk {H : Type} : DataW H → Nat
  | .lit (.string bytes) => bytes.length + 1
  | .lit _ => 1
  | .nil => 1
  | .ptr d => uptoBulk d + 1
  | .slice elems spare => uptoBulkAll elems + uptoBulkAll spare + 1
  | .agg parts => uptoBulkAll parts + 1
  | .iface _ d => uptoBulk d + 1
  | .map entries => uptoBulkEntries entries + 1
  | .held _ => 1
def uptoBulkAll {H : Type} : List (DataW H) → Nat
  | [] => 0
  | d :: r => uptoBulk d + uptoBulkAll r
def uptoBulkEntries {H : Type} : List (Lit × DataW H) → Nat
  | [] => 0
  | x :: r => uptoBulkEntry x + uptoBulkEntries r
def uptoBulkEntry {H : Type} : Lit × DataW H → Nat
  | (.string bytes, d) => bytes.length + uptoBulk d + 1
  | (_, d) => uptoBulk d + 1
 end
def uptoSmall : (H : Type) → List (DataW H) → Bool := fun _ ds => decide (uptoBulkAll ds ≤ 1048576)
def OpenSpec.upto (s : _root_.Go.ChangeSpec) : _root_.Go.OpenSpec := { _root_.Go.OpenSpec.ofChange s with cond := some uptoSmall }

/-- 'amphoralaw03.ReedPlaces', WHERE WHAT IT READS IS OF BULK AT MOST 1048576: true; the input reads as it did. -/
def reedPlacesUptoRow : OpenClaim := { program := "ytkhgaigipfolaaadoor", sum := "e8762f8ac7db3915e02c88d1cb8703bb4ae2f0b55686bdb51f51595dd79b2305", func := "amphora/amphoralaw03.ReedPlaces", spec := "reedPlaces", unfollowed := true, recurses := true, named := ["amphora/galois.powers"], apart := false, laid := [("amphora/galois.powers", laid_amphora_galois_powers)], narrowed := true }
def ReedPlacesUptoSaid : Prop := reedPlacesUptoRow.holds Tryd.pinned (OpenSpec.upto reedPlacesSpec)

/-- 'amphoralaw03.ReedLinear', WHERE WHAT IT READS IS OF BULK AT MOST 1048576: true; the input reads as it did. -/
def reedLinearUptoRow : OpenClaim := { program := "ytkhgaigipfolaaadoor", sum := "e8762f8ac7db3915e02c88d1cb8703bb4ae2f0b55686bdb51f51595dd79b2305", func := "amphora/amphoralaw03.ReedLinear", spec := "reedLinear", unfollowed := true, recurses := true, named := ["amphora/galois.powers"], apart := false, laid := [("amphora/galois.powers", laid_amphora_galois_powers)], narrowed := true }
def ReedLinearUptoSaid : Prop := reedLinearUptoRow.holds Tryd.pinned (OpenSpec.upto reedLinearSpec)

/-- 'amphoralaw03.ReedTurned', WHERE WHAT IT READS IS OF BULK AT MOST 1048576: true; the input reads as it did. -/
def reedTurnedUptoRow : OpenClaim := { program := "ytkhgaigipfolaaadoor", sum := "e8762f8ac7db3915e02c88d1cb8703bb4ae2f0b55686bdb51f51595dd79b2305", func := "amphora/amphoralaw03.ReedTurned", spec := "reedTurned", unfollowed := true, recurses := true, named := ["amphora/galois.powers"], apart := false, laid := [("amphora/galois.powers", laid_amphora_galois_powers)], narrowed := true }
def ReedTurnedUptoSaid : Prop := reedTurnedUptoRow.holds Tryd.pinned (OpenSpec.upto reedTurnedSpec)

/-- 'amphoralaw04.StripeUnits', WHERE WHAT IT READS IS OF BULK AT MOST 1048576: true; the input reads as it did. -/
def stripeUnitsUptoRow : OpenClaim := { program := "ytkhgaigipfolaaadoor", sum := "e8762f8ac7db3915e02c88d1cb8703bb4ae2f0b55686bdb51f51595dd79b2305", func := "amphora/amphoralaw04.StripeUnits", spec := "stripeUnits", unfollowed := true, recurses := true, named := ["amphora/galois.powers"], apart := false, laid := [("amphora/galois.powers", laid_amphora_galois_powers)], narrowed := true }
def StripeUnitsUptoSaid : Prop := stripeUnitsUptoRow.holds Tryd.pinned (OpenSpec.upto stripeUnitsSpec)

/-- 'amphoralaw04.StripeApart', WHERE WHAT IT READS IS OF BULK AT MOST 1048576: true; the input reads as it did. -/
def stripeApartUptoRow : OpenClaim := { program := "ytkhgaigipfolaaadoor", sum := "e8762f8ac7db3915e02c88d1cb8703bb4ae2f0b55686bdb51f51595dd79b2305", func := "amphora/amphoralaw04.StripeApart", spec := "stripeApart", unfollowed := true, recurses := true, named := ["amphora/galois.powers"], apart := false, laid := [("amphora/galois.powers", laid_amphora_galois_powers)], narrowed := true }
def StripeApartUptoSaid : Prop := stripeApartUptoRow.holds Tryd.pinned (OpenSpec.upto stripeApartSpec)

end Rows
end Go.Proofs.YtkhgaigipfolaaaDoor
