/-
  NARROWER THAN 'FOR EVERY INPUT', by the rows' own cells (each row's printed sentence says how): MoverBrings: laid · MoverFences: laid · MoverNobody: laid.
  DERIVED. THE GIVEN ROWS OF THIS SEAT. 3 by the template 'for every input the law returns true; each argument reads behind the call as it read before'; 0 by the template 'total and deterministic' (their statements: YteomkdpnmakdjaaDoorTotals.lean).
  GIVEN WITH THE SEED: the statements are not yours to turn. If you find one false, say at which input.
  Laid BY PROGRAM, IN A SANDBOX (cutbox-rows.mjs): the forced cells as the released guide's own fill.sh prints them over the translation 28d425c28b75cf83… (all of the seat's roots in one cut). By AI agents, Wed Nov 11 2026. No macro, syntax, notation, axiom, sorry.
-/
import Derived.Test.YteomkdpnmakdjaaDoorChecked
import GoSem.Claim
import GoSem.ClaimJoined
import GoSem.ClaimMapViews
import Derived.JoinedTies
import Derived.KernelRfl
namespace Go.Proofs.YteomkdpnmakdjaaDoor
/- THE CELL 'sum', in the pinned program and in every row, IS THE sha256 OF THE DUMP (.gsa) THAT YteomkdpnmakdjaaDoorProg.lean LOADS. Nothing in Lean hashes anything: it is a label: what it is worth is what the hold of that sum in a sandbox is worth. -/
noncomputable def Tryd.pinned : Pinned := { name := "yteomkdpnmakdjaadoor", sum := "28d425c28b75cf838020bada9cdf9c9300c4db484ee26a50eaa475c7392d3cac", checked := Tryd.checked }
namespace Rows
def none {H : Type} : Left H := { results := [], args := [] }

/- WHAT THE LISTED PACKAGE-LEVEL VARIABLES READ AS WHEN THE CALL BEGINS. Each datum BY PROGRAM (the guide's laid-datum.mjs) off the statement by which the dump's own 'gosem.cut.vars' lays the variable. In a bare row this is a premise. The card (YteomkdpnmakdjaaDoorCards.lean) ties it to the program's text. -/
def laid_amphora_galois_powers {H : Type} : DataW H := .agg [.lit (.int .u8 1), .lit (.int .u8 2), .lit (.int .u8 4), .lit (.int .u8 8), .lit (.int .u8 16), .lit (.int .u8 32), .lit (.int .u8 64), .lit (.int .u8 128), .lit (.int .u8 29), .lit (.int .u8 58), .lit (.int .u8 116), .lit (.int .u8 232), .lit (.int .u8 205), .lit (.int .u8 135), .lit (.int .u8 19)]

/-- 'amphoralaw17.MoverBrings': WHATEVER THE INPUT: true; the input reads as it did. -/
def moverBringsSpec : ChangeSpec := { name := "moverBrings", fn := fun _ => fun
  | [d1, d2, d3, d4, d5] => { results := [.lit (.bool true)], args := [d1, d2, d3, d4, d5] }
  | _ => none }
def moverBringsRow : OpenClaim := { program := "yteomkdpnmakdjaadoor", sum := "28d425c28b75cf838020bada9cdf9c9300c4db484ee26a50eaa475c7392d3cac", func := "amphora/amphoralaw17.MoverBrings", spec := "moverBrings", unfollowed := true, recurses := true, named := ["amphora/galois.powers"], apart := false, laid := [("amphora/galois.powers", laid_amphora_galois_powers)] }
def MoverBringsSaid : Prop := moverBringsRow.holds Tryd.pinned (OpenSpec.ofChange moverBringsSpec)

/-- ITS FALSE NEIGHBOUR: 'it returns false'. Refute it at one input. -/
def moverBringsWrong : ChangeSpec := { name := "moverBrings", fn := fun _ => fun
  | [d1, d2, d3, d4, d5] => { results := [.lit (.bool false)], args := [d1, d2, d3, d4, d5] }
  | _ => none }
def MoverBringsWrongFalsely : Prop := moverBringsRow.holds Tryd.pinned (OpenSpec.ofChange moverBringsWrong)

/-- 'amphoralaw17.MoverFences': WHATEVER THE INPUT: true; the input reads as it did. -/
def moverFencesSpec : ChangeSpec := { name := "moverFences", fn := fun _ => fun
  | [d1, d2, d3] => { results := [.lit (.bool true)], args := [d1, d2, d3] }
  | _ => none }
def moverFencesRow : OpenClaim := { program := "yteomkdpnmakdjaadoor", sum := "28d425c28b75cf838020bada9cdf9c9300c4db484ee26a50eaa475c7392d3cac", func := "amphora/amphoralaw17.MoverFences", spec := "moverFences", unfollowed := true, recurses := true, named := ["amphora/galois.powers"], apart := false, laid := [("amphora/galois.powers", laid_amphora_galois_powers)] }
def MoverFencesSaid : Prop := moverFencesRow.holds Tryd.pinned (OpenSpec.ofChange moverFencesSpec)

/-- ITS FALSE NEIGHBOUR: 'it returns false'. Refute it at one input. -/
def moverFencesWrong : ChangeSpec := { name := "moverFences", fn := fun _ => fun
  | [d1, d2, d3] => { results := [.lit (.bool false)], args := [d1, d2, d3] }
  | _ => none }
def MoverFencesWrongFalsely : Prop := moverFencesRow.holds Tryd.pinned (OpenSpec.ofChange moverFencesWrong)

/-- 'amphoralaw17.MoverNobody': WHATEVER THE INPUT: true; the input reads as it did. -/
def moverNobodySpec : ChangeSpec := { name := "moverNobody", fn := fun _ => fun
  | [d1, d2] => { results := [.lit (.bool true)], args := [d1, d2] }
  | _ => none }
def moverNobodyRow : OpenClaim := { program := "yteomkdpnmakdjaadoor", sum := "28d425c28b75cf838020bada9cdf9c9300c4db484ee26a50eaa475c7392d3cac", func := "amphora/amphoralaw17.MoverNobody", spec := "moverNobody", unfollowed := true, recurses := true, named := ["amphora/galois.powers"], apart := false, laid := [("amphora/galois.powers", laid_amphora_galois_powers)] }
def MoverNobodySaid : Prop := moverNobodyRow.holds Tryd.pinned (OpenSpec.ofChange moverNobodySpec)

/-- ITS FALSE NEIGHBOUR: 'it returns false'. Refute it at one input. -/
def moverNobodyWrong : ChangeSpec := { name := "moverNobody", fn := fun _ => fun
  | [d1, d2] => { results := [.lit (.bool false)], args := [d1, d2] }
  | _ => none }
def MoverNobodyWrongFalsely : Prop := moverNobodyRow.holds Tryd.pinned (OpenSpec.ofChange moverNobodyWrong)

/- THE SECOND FORM. 'bulk': how many values and letters a reading holds, each counted each time it is reached (what is shared counts as often as it is met; a slice's spare places count too). A statement '..UptoSaid' is the law's where the arguments, and the package variables that the reading takes, are together of bulk at most 1048576: NARROWER than '..Said'. Prove '..Said' where nothing that the law and all that it calls make is longer than what came in: it says more and counts as full. Else prove '..UptoSaid'. A law counts once. -/
mutual
def uptoBulk {H : Type} : DataW H → Nat
  | .lit (.string bytes) => bytes.length + 1
  | .lit _ => 1
  | .nil => 1
  | .ptr d => uptoBulk d + 1
  | .slice elems spare => uptoBulkAll elems + uptoBulkAll spare + 1
  | .agg parts => uptoBulkAll parts + 1
  | .iface _ d => uptoBulk d + 1
  | .map entries => uptoBulkEntries entries + 1
  | .held _ => 1
def uptoBulkAll {H : Type} : List (DataW H) → Nat
  | [] => 0
  | d :: r => uptoBulk d + uptoBulkAll r
def uptoBulkEntries {H : Type} : List (Lit × DataW H) → Nat
  | [] => 0
  | x :: r => uptoBulkEntry x + uptoBulkEntries r
def uptoBulkEntry {H : Type} : Lit × DataW H → Nat
  | (.string bytes, d) => bytes.length + uptoBulk d + 1
  | (_, d) => uptoBulk d + 1
 end
def uptoSmall : (H : Type) → List (DataW H) → Bool := fun _ ds => decide (uptoBulkAll ds ≤ 1048576)
def OpenSpec.upto (s : _root_.Go.ChangeSpec) : _root_.Go.OpenSpec := { _root_.Go.OpenSpec.ofChange s with cond := some uptoSmall }

/-- 'amphoralaw17.MoverBrings', WHERE WHAT IT READS IS OF BULK AT MOST 1048576: true; the input reads as it did. -/
def moverBringsUptoRow : OpenClaim := { program := "yteomkdpnmakdjaadoor", sum := "28d425c28b75cf838020bada9cdf9c9300c4db484ee26a50eaa475c7392d3cac", func := "amphora/amphoralaw17.MoverBrings", spec := "moverBrings", unfollowed := true, recurses := true, named := ["amphora/galois.powers"], apart := false, laid := [("amphora/galois.powers", laid_amphora_galois_powers)], narrowed := true }
def MoverBringsUptoSaid : Prop := moverBringsUptoRow.holds Tryd.pinned (OpenSpec.upto moverBringsSpec)

/-- 'amphoralaw17.MoverFences', WHERE WHAT IT READS IS OF BULK AT MOST 1048576: true; the input reads as it did. -/
def moverFencesUptoRow : OpenClaim := { program := "yteomkdpnmakdjaadoor", sum := "28d425c28b75cf838020bada9cdf9c9300c4db484ee26a50eaa475c7392d3cac", func := "amphora/amphoralaw17.MoverFences", spec := "moverFences", unfollowed := true, recurses := true, named := ["amphora/galois.powers"], apart := false, laid := [("amphora/galois.powers", laid_amphora_galois_powers)], narrowed := true }
def MoverFencesUptoSaid : Prop := moverFencesUptoRow.holds Tryd.pinned (OpenSpec.upto moverFencesSpec)

/-- 'amphoralaw17.MoverNobody', WHERE WHAT IT READS IS OF BULK AT MOST 1048576: true; the input reads as it did. -/
def moverNobodyUptoRow : OpenClaim := { program := "yteomkdpnmakdjaadoor", sum := "28d425c28b75cf838020bada9cdf9c9300c4db484ee26a50eaa475c7392d3cac", func := "amphora/amphoralaw17.MoverNobody", spec := "moverNobody", unfollowed := true, recurses := true, named := ["amphora/galois.powers"], apart := false, laid := [("amphora/galois.powers", laid_amphora_galois_powers)], narrowed := true }
def MoverNobodyUptoSaid : Prop := moverNobodyUptoRow.holds Tryd.pinned (OpenSpec.upto moverNobodySpec)

end Rows
end Go.Proofs.YteomkdpnmakdjaaDoor
