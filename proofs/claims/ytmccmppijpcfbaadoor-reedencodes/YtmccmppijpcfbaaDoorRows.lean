/-
  NARROWER THAN 'FOR EVERY INPUT', by the rows' own cells (each row's printed sentence says how): ReedFew: laid · ReedRepairs: laid · ReedAny: laid · StripeBack: laid · ReedEncodes: laid · StripeCuts: laid.
  DERIVED. THE GIVEN ROWS OF THIS SEAT. 6 by the template 'for every input the law returns true; each argument reads behind the call as it read before'; 0 by the template 'total and deterministic' (their statements: YtmccmppijpcfbaaDoorTotals.lean).
  GIVEN WITH THE SEED: the statements are not yours to turn. If you find one false, say at which input.
  Laid BY PROGRAM, IN A SANDBOX (cutbox-rows.mjs): the forced cells as the released guide's own fill.sh prints them over the translation 55c568600b3e2268… (all of the seat's roots in one cut). By AI agents, Wed Nov 11 2026. No macro, syntax, notation, axiom, sorry.
-/
import Derived.Test.YtmccmppijpcfbaaDoorChecked
import GoSem.Claim
import GoSem.ClaimJoined
import GoSem.ClaimMapViews
import Derived.JoinedTies
import Derived.KernelRfl
namespace Go.Proofs.YtmccmppijpcfbaaDoor
/- THE CELL 'sum', in the pinned program and in every row, IS THE sha256 OF THE DUMP (.gsa) THAT YtmccmppijpcfbaaDoorProg.lean LOADS. Nothing in Lean hashes anything: it is a label: what it is worth is what the hold of that sum in a sandbox is worth. -/
noncomputable def Tryd.pinned : Pinned := { name := "ytmccmppijpcfbaadoor", sum := "55c568600b3e22683fc15fa8f63abcd7dd9c6d176f23c32f19e4b23722ec4ec5", checked := Tryd.checked }
namespace Rows
def none {H : Type} : Left H := { results := [], args := [] }

/- WHAT THE LISTED PACKAGE-LEVEL VARIABLES READ AS WHEN THE CALL BEGINS. Each datum BY PROGRAM (the guide's laid-datum.mjs) off the statement by which the dump's own 'gosem.cut.vars' lays the variable. In a bare row this is a premise. The card (YtmccmppijpcfbaaDoorCards.lean) ties it to the program's text. -/
def laid_amphora_galois_powers {H : Type} : DataW H := .agg [.lit (.int .u8 1), .lit (.int .u8 2), .lit (.int .u8 4), .lit (.int .u8 8), .lit (.int .u8 16), .lit (.int .u8 32), .lit (.int .u8 64), .lit (.int .u8 128), .lit (.int .u8 29), .lit (.int .u8 58), .lit (.int .u8 116), .lit (.int .u8 232), .lit (.int .u8 205), .lit (.int .u8 135), .lit (.int .u8 19)]

/-- 'amphoralaw03.ReedFew': WHATEVER THE INPUT: true; the input reads as it did. -/
def reedFewSpec : ChangeSpec := { name := "reedFew", fn := fun _ => fun
  | [d1, d2, d3, d4, d5] => { results := [.lit (.bool true)], args := [d1, d2, d3, d4, d5] }
  | _ => none }
def reedFewRow : OpenClaim := { program := "ytmccmppijpcfbaadoor", sum := "55c568600b3e22683fc15fa8f63abcd7dd9c6d176f23c32f19e4b23722ec4ec5", func := "amphora/amphoralaw03.ReedFew", spec := "reedFew", unfollowed := true, recurses := true, named := ["amphora/galois.powers"], apart := false, laid := [("amphora/galois.powers", laid_amphora_galois_powers)] }
def ReedFewSaid : Prop := reedFewRow.holds Tryd.pinned (OpenSpec.ofChange reedFewSpec)

/-- ITS FALSE NEIGHBOUR: 'it returns false'. Refute it at one input. -/
def reedFewWrong : ChangeSpec := { name := "reedFew", fn := fun _ => fun
  | [d1, d2, d3, d4, d5] => { results := [.lit (.bool false)], args := [d1, d2, d3, d4, d5] }
  | _ => none }
def ReedFewWrongFalsely : Prop := reedFewRow.holds Tryd.pinned (OpenSpec.ofChange reedFewWrong)

/-- 'amphoralaw03.ReedRepairs': WHATEVER THE INPUT: true; the input reads as it did. -/
def reedRepairsSpec : ChangeSpec := { name := "reedRepairs", fn := fun _ => fun
  | [d1, d2, d3, d4, d5] => { results := [.lit (.bool true)], args := [d1, d2, d3, d4, d5] }
  | _ => none }
def reedRepairsRow : OpenClaim := { program := "ytmccmppijpcfbaadoor", sum := "55c568600b3e22683fc15fa8f63abcd7dd9c6d176f23c32f19e4b23722ec4ec5", func := "amphora/amphoralaw03.ReedRepairs", spec := "reedRepairs", unfollowed := true, recurses := true, named := ["amphora/galois.powers"], apart := false, laid := [("amphora/galois.powers", laid_amphora_galois_powers)] }
def ReedRepairsSaid : Prop := reedRepairsRow.holds Tryd.pinned (OpenSpec.ofChange reedRepairsSpec)

/-- ITS FALSE NEIGHBOUR: 'it returns false'. Refute it at one input. -/
def reedRepairsWrong : ChangeSpec := { name := "reedRepairs", fn := fun _ => fun
  | [d1, d2, d3, d4, d5] => { results := [.lit (.bool false)], args := [d1, d2, d3, d4, d5] }
  | _ => none }
def ReedRepairsWrongFalsely : Prop := reedRepairsRow.holds Tryd.pinned (OpenSpec.ofChange reedRepairsWrong)

/-- 'amphoralaw03.ReedAny': WHATEVER THE INPUT: true; the input reads as it did. -/
def reedAnySpec : ChangeSpec := { name := "reedAny", fn := fun _ => fun
  | [d1, d2, d3, d4, d5] => { results := [.lit (.bool true)], args := [d1, d2, d3, d4, d5] }
  | _ => none }
def reedAnyRow : OpenClaim := { program := "ytmccmppijpcfbaadoor", sum := "55c568600b3e22683fc15fa8f63abcd7dd9c6d176f23c32f19e4b23722ec4ec5", func := "amphora/amphoralaw03.ReedAny", spec := "reedAny", unfollowed := true, recurses := true, named := ["amphora/galois.powers"], apart := false, laid := [("amphora/galois.powers", laid_amphora_galois_powers)] }
def ReedAnySaid : Prop := reedAnyRow.holds Tryd.pinned (OpenSpec.ofChange reedAnySpec)

/-- ITS FALSE NEIGHBOUR: 'it returns false'. Refute it at one input. -/
def reedAnyWrong : ChangeSpec := { name := "reedAny", fn := fun _ => fun
  | [d1, d2, d3, d4, d5] => { results := [.lit (.bool false)], args := [d1, d2, d3, d4, d5] }
  | _ => none }
def ReedAnyWrongFalsely : Prop := reedAnyRow.holds Tryd.pinned (OpenSpec.ofChange reedAnyWrong)

/-- 'amphoralaw04.StripeBack': WHATEVER THE INPUT: true; the input reads as it did. -/
def stripeBackSpec : ChangeSpec := { name := "stripeBack", fn := fun _ => fun
  | [d1, d2, d3, d4] => { results := [.lit (.bool true)], args := [d1, d2, d3, d4] }
  | _ => none }
def stripeBackRow : OpenClaim := { program := "ytmccmppijpcfbaadoor", sum := "55c568600b3e22683fc15fa8f63abcd7dd9c6d176f23c32f19e4b23722ec4ec5", func := "amphora/amphoralaw04.StripeBack", spec := "stripeBack", unfollowed := true, recurses := true, named := ["amphora/galois.powers"], apart := false, laid := [("amphora/galois.powers", laid_amphora_galois_powers)] }
def StripeBackSaid : Prop := stripeBackRow.holds Tryd.pinned (OpenSpec.ofChange stripeBackSpec)

/-- ITS FALSE NEIGHBOUR: 'it returns false'. Refute it at one input. -/
def stripeBackWrong : ChangeSpec := { name := "stripeBack", fn := fun _ => fun
  | [d1, d2, d3, d4] => { results := [.lit (.bool false)], args := [d1, d2, d3, d4] }
  | _ => none }
def StripeBackWrongFalsely : Prop := stripeBackRow.holds Tryd.pinned (OpenSpec.ofChange stripeBackWrong)

/-- 'amphoralaw03.ReedEncodes': WHATEVER THE INPUT: true; the input reads as it did. -/
def reedEncodesSpec : ChangeSpec := { name := "reedEncodes", fn := fun _ => fun
  | [d1, d2] => { results := [.lit (.bool true)], args := [d1, d2] }
  | _ => none }
def reedEncodesRow : OpenClaim := { program := "ytmccmppijpcfbaadoor", sum := "55c568600b3e22683fc15fa8f63abcd7dd9c6d176f23c32f19e4b23722ec4ec5", func := "amphora/amphoralaw03.ReedEncodes", spec := "reedEncodes", unfollowed := true, recurses := true, named := ["amphora/galois.powers"], apart := false, laid := [("amphora/galois.powers", laid_amphora_galois_powers)] }
def ReedEncodesSaid : Prop := reedEncodesRow.holds Tryd.pinned (OpenSpec.ofChange reedEncodesSpec)

/-- ITS FALSE NEIGHBOUR: 'it returns false'. Refute it at one input. -/
def reedEncodesWrong : ChangeSpec := { name := "reedEncodes", fn := fun _ => fun
  | [d1, d2] => { results := [.lit (.bool false)], args := [d1, d2] }
  | _ => none }
def ReedEncodesWrongFalsely : Prop := reedEncodesRow.holds Tryd.pinned (OpenSpec.ofChange reedEncodesWrong)

/-- 'amphoralaw04.StripeCuts': WHATEVER THE INPUT: true; the input reads as it did. -/
def stripeCutsSpec : ChangeSpec := { name := "stripeCuts", fn := fun _ => fun
  | [d1, d2, d3] => { results := [.lit (.bool true)], args := [d1, d2, d3] }
  | _ => none }
def stripeCutsRow : OpenClaim := { program := "ytmccmppijpcfbaadoor", sum := "55c568600b3e22683fc15fa8f63abcd7dd9c6d176f23c32f19e4b23722ec4ec5", func := "amphora/amphoralaw04.StripeCuts", spec := "stripeCuts", unfollowed := true, recurses := true, named := ["amphora/galois.powers"], apart := false, laid := [("amphora/galois.powers", laid_amphora_galois_powers)] }
def StripeCutsSaid : Prop := stripeCutsRow.holds Tryd.pinned (OpenSpec.ofChange stripeCutsSpec)

/-- ITS FALSE NEIGHBOUR: 'it returns false'. Refute it at one input. -/
def stripeCutsWrong : ChangeSpec := { name := "stripeCuts", fn := fun _ => fun
  | [d1, d2, d3] => { results := [.lit (.bool false)], args := [d1, d2, d3] }
  | _ => none }
def StripeCutsWrongFalsely : Prop := stripeCutsRow.holds Tryd.pinned (OpenSpec.ofChange stripeCutsWrong)

/- THE SECOND FORM. 'bulk': how many values and letters a reading holds, each counted each time it is reached (what is shared counts as often as it is met; a slice's spare places count too). A statement '..UptoSaid' is the law's where the arguments, and the package variables that the reading takes, are together of bulk at most 1048576: NARROWER than '..Said'. Prove '..Said' where nothing that the law and all that it calls make is longer than what came in: it says more and counts as full. Else prove '..UptoSaid'. A law counts once. -/
mutual
def uptoBulk {H : Type} : DataW H → Nat
  | .lit (.string bytes) => bytes.length + 1
  | .lit _ => 1
  | .nil => 1
  | .ptr d => uptoBulk d + 1
  | .slice elems spare => uptoBulkAll elems + uptoBulkAll spare + 1
  | .agg parts => uptoBulkAll parts + 1
  | .iface _ d => uptoBulk d + 1
  | .map entries => uptoBulkEntries entries + 1
  | .held _ => 1
def uptoBulkAll {H : Type} : List (DataW H) → Nat
  | [] => 0
  | d :: r => uptoBulk d + uptoBulkAll r
def uptoBulkEntries {H : Type} : List (Lit × DataW H) → Nat
  | [] => 0
  | x :: r => uptoBulkEntry x + uptoBulkEntries r
def uptoBulkEntry {H : Type} : Lit × DataW H → Nat
  | (.string bytes, d) => bytes.length + uptoBulk d + 1
  | (_, d) => uptoBulk d + 1
 end
def uptoSmall : (H : Type) → List (DataW H) → Bool := fun _ ds => decide (uptoBulkAll ds ≤ 1048576)
def OpenSpec.upto (s : _root_.Go.ChangeSpec) : _root_.Go.OpenSpec := { _root_.Go.OpenSpec.ofChange s with cond := some uptoSmall }

/-- 'amphoralaw03.ReedFew', WHERE WHAT IT READS IS OF BULK AT MOST 1048576: true; the input reads as it did. -/
def reedFewUptoRow : OpenClaim := { program := "ytmccmppijpcfbaadoor", sum := "55c568600b3e22683fc15fa8f63abcd7dd9c6d176f23c32f19e4b23722ec4ec5", func := "amphora/amphoralaw03.ReedFew", spec := "reedFew", unfollowed := true, recurses := true, named := ["amphora/galois.powers"], apart := false, laid := [("amphora/galois.powers", laid_amphora_galois_powers)], narrowed := true }
def ReedFewUptoSaid : Prop := reedFewUptoRow.holds Tryd.pinned (OpenSpec.upto reedFewSpec)

/-- 'amphoralaw03.ReedRepairs', WHERE WHAT IT READS IS OF BULK AT MOST 1048576: true; the input reads as it did. -/
def reedRepairsUptoRow : OpenClaim := { program := "ytmccmppijpcfbaadoor", sum := "55c568600b3e22683fc15fa8f63abcd7dd9c6d176f23c32f19e4b23722ec4ec5", func := "amphora/amphoralaw03.ReedRepairs", spec := "reedRepairs", unfollowed := true, recurses := true, named := ["amphora/galois.powers"], apart := false, laid := [("amphora/galois.powers", laid_amphora_galois_powers)], narrowed := true }
def ReedRepairsUptoSaid : Prop := reedRepairsUptoRow.holds Tryd.pinned (OpenSpec.upto reedRepairsSpec)

/-- 'amphoralaw03.ReedAny', WHERE WHAT IT READS IS OF BULK AT MOST 1048576: true; the input reads as it did. -/
def reedAnyUptoRow : OpenClaim := { program := "ytmccmppijpcfbaadoor", sum := "55c568600b3e22683fc15fa8f63abcd7dd9c6d176f23c32f19e4b23722ec4ec5", func := "amphora/amphoralaw03.ReedAny", spec := "reedAny", unfollowed := true, recurses := true, named := ["amphora/galois.powers"], apart := false, laid := [("amphora/galois.powers", laid_amphora_galois_powers)], narrowed := true }
def ReedAnyUptoSaid : Prop := reedAnyUptoRow.holds Tryd.pinned (OpenSpec.upto reedAnySpec)

/-- 'amphoralaw04.StripeBack', WHERE WHAT IT READS IS OF BULK AT MOST 1048576: true; the input reads as it did. -/
def stripeBackUptoRow : OpenClaim := { program := "ytmccmppijpcfbaadoor", sum := "55c568600b3e22683fc15fa8f63abcd7dd9c6d176f23c32f19e4b23722ec4ec5", func := "amphora/amphoralaw04.StripeBack", spec := "stripeBack", unfollowed := true, recurses := true, named := ["amphora/galois.powers"], apart := false, laid := [("amphora/galois.powers", laid_amphora_galois_powers)], narrowed := true }
def StripeBackUptoSaid : Prop := stripeBackUptoRow.holds Tryd.pinned (OpenSpec.upto stripeBackSpec)

/-- 'amphoralaw03.ReedEncodes', WHERE WHAT IT READS IS OF BULK AT MOST 1048576: true; the input reads as it did. -/
def reedEncodesUptoRow : OpenClaim := { program := "ytmccmppijpcfbaadoor", sum := "55c568600b3e22683fc15fa8f63abcd7dd9c6d176f23c32f19e4b23722ec4ec5", func := "amphora/amphoralaw03.ReedEncodes", spec := "reedEncodes", unfollowed := true, recurses := true, named := ["amphora/galois.powers"], apart := false, laid := [("amphora/galois.powers", laid_amphora_galois_powers)], narrowed := true }
def ReedEncodesUptoSaid : Prop := reedEncodesUptoRow.holds Tryd.pinned (OpenSpec.upto reedEncodesSpec)

/-- 'amphoralaw04.StripeCuts', WHERE WHAT IT READS IS OF BULK AT MOST 1048576: true; the input reads as it did. -/
def stripeCutsUptoRow : OpenClaim := { program := "ytmccmppijpcfbaadoor", sum := "55c568600b3e22683fc15fa8f63abcd7dd9c6d176f23c32f19e4b23722ec4ec5", func := "amphora/amphoralaw04.StripeCuts", spec := "stripeCuts", unfollowed := true, recurses := true, named := ["amphora/galois.powers"], apart := false, laid := [("amphora/galois.powers", laid_amphora_galois_powers)], narrowed := true }
def StripeCutsUptoSaid : Prop := stripeCutsUptoRow.holds Tryd.pinned (OpenSpec.upto stripeCutsSpec)

end Rows
end Go.Proofs.YtmccmppijpcfbaaDoor
