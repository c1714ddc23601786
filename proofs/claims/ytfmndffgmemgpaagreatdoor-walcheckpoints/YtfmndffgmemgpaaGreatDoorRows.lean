/-
  NARROWER THAN 'FOR EVERY INPUT', by the rows' own cells (each row's printed sentence says how): WalLives: laid · WalSynced: laid · WalCheckpoints: laid.
  DERIVED. THE GIVEN ROWS OF THIS SEAT. 3 by the template 'for every input the law returns true; each argument reads behind the call as it read before'; 0 by the template 'total and deterministic' (their statements: YtfmndffgmemgpaaGreatDoorTotals.lean).
  GIVEN WITH THE SEED: the statements are not yours to turn. If you find one false, say at which input.
  Laid BY PROGRAM, IN A SANDBOX (cutbox-rows.mjs): the forced cells as the released guide's own fill.sh prints them over the translation a9d142f1194e0ba2… (all of the seat's roots in one cut). By AI agents, Wed Nov 11 2026. No macro, syntax, notation, axiom, sorry.
-/
import Derived.Test.YtfmndffgmemgpaaGreatDoorChecked
import GoSem.Claim
import GoSem.ClaimJoined
import GoSem.ClaimMapViews
import Derived.JoinedTies
import Derived.KernelRfl
namespace Go.Proofs.YtfmndffgmemgpaaGreatDoor
/- THE CELL 'sum', in the pinned program and in every row, IS THE sha256 OF THE DUMP (.gsa) THAT YtfmndffgmemgpaaGreatDoorProg.lean LOADS. Nothing in Lean hashes anything: it is a label: what it is worth is what the hold of that sum in a sandbox is worth. -/
noncomputable def Tryz.pinned : Pinned := { name := "ytfmndffgmemgpaagreatdoor", sum := "a9d142f1194e0ba25d78c85ecd9943a1812be7ae9ae6947f6db85037b5213976", checked := Tryz.checked }
namespace Rows
def none {H : Type} : Left H := { results := [], args := [] }

/- WHAT THE LISTED PACKAGE-LEVEL VARIABLES READ AS WHEN THE CALL BEGINS. Each datum BY PROGRAM (the guide's laid-datum.mjs) off the statement by which the dump's own 'gosem.cut.vars' lays the variable. In a bare row this is a premise. The card (YtfmndffgmemgpaaGreatDoorCards.lean) ties it to the program's text. -/
def laid_amphora_frame_turns {H : Type} : DataW H := .agg [.lit (.int .u32 0), .lit (.int .u32 274646895), .lit (.int .u32 549293790), .lit (.int .u32 820201905), .lit (.int .u32 1098587580), .lit (.int .u32 1361435347), .lit (.int .u32 1640403810), .lit (.int .u32 1905808397), .lit (.int .u32 2197175160), .lit (.int .u32 2460548119), .lit (.int .u32 2722870694), .lit (.int .u32 2987750089), .lit (.int .u32 3280807620), .lit (.int .u32 3553878443), .lit (.int .u32 3811616794), .lit (.int .u32 4084100981)]

/-- 'amphoralaw07.WalLives': WHATEVER THE INPUT: true; the input reads as it did. -/
def walLivesSpec : ChangeSpec := { name := "walLives", fn := fun _ => fun
  | [d1, d2] => { results := [.lit (.bool true)], args := [d1, d2] }
  | _ => none }
def walLivesRow : OpenClaim := { program := "ytfmndffgmemgpaagreatdoor", sum := "a9d142f1194e0ba25d78c85ecd9943a1812be7ae9ae6947f6db85037b5213976", func := "amphora/amphoralaw07.WalLives", spec := "walLives", inPlace := ["internal/reflectlite.TypeOf"], unfollowed := true, recurses := true, named := ["amphora/frame.turns"], apart := false, laid := [("amphora/frame.turns", laid_amphora_frame_turns)] }
def WalLivesSaid : Prop := walLivesRow.holds Tryz.pinned (OpenSpec.ofChange walLivesSpec)

/-- ITS FALSE NEIGHBOUR: 'it returns false'. Refute it at one input. -/
def walLivesWrong : ChangeSpec := { name := "walLives", fn := fun _ => fun
  | [d1, d2] => { results := [.lit (.bool false)], args := [d1, d2] }
  | _ => none }
def WalLivesWrongFalsely : Prop := walLivesRow.holds Tryz.pinned (OpenSpec.ofChange walLivesWrong)

/-- 'amphoralaw07.WalSynced': WHATEVER THE INPUT: true; the input reads as it did. -/
def walSyncedSpec : ChangeSpec := { name := "walSynced", fn := fun _ => fun
  | [d1, d2, d3, d4, d5] => { results := [.lit (.bool true)], args := [d1, d2, d3, d4, d5] }
  | _ => none }
def walSyncedRow : OpenClaim := { program := "ytfmndffgmemgpaagreatdoor", sum := "a9d142f1194e0ba25d78c85ecd9943a1812be7ae9ae6947f6db85037b5213976", func := "amphora/amphoralaw07.WalSynced", spec := "walSynced", inPlace := ["internal/reflectlite.TypeOf"], unfollowed := true, recurses := true, named := ["amphora/frame.turns"], apart := false, laid := [("amphora/frame.turns", laid_amphora_frame_turns)] }
def WalSyncedSaid : Prop := walSyncedRow.holds Tryz.pinned (OpenSpec.ofChange walSyncedSpec)

/-- ITS FALSE NEIGHBOUR: 'it returns false'. Refute it at one input. -/
def walSyncedWrong : ChangeSpec := { name := "walSynced", fn := fun _ => fun
  | [d1, d2, d3, d4, d5] => { results := [.lit (.bool false)], args := [d1, d2, d3, d4, d5] }
  | _ => none }
def WalSyncedWrongFalsely : Prop := walSyncedRow.holds Tryz.pinned (OpenSpec.ofChange walSyncedWrong)

/-- 'amphoralaw07.WalCheckpoints': WHATEVER THE INPUT: true; the input reads as it did. -/
def walCheckpointsSpec : ChangeSpec := { name := "walCheckpoints", fn := fun _ => fun
  | [d1, d2, d3, d4] => { results := [.lit (.bool true)], args := [d1, d2, d3, d4] }
  | _ => none }
def walCheckpointsRow : OpenClaim := { program := "ytfmndffgmemgpaagreatdoor", sum := "a9d142f1194e0ba25d78c85ecd9943a1812be7ae9ae6947f6db85037b5213976", func := "amphora/amphoralaw07.WalCheckpoints", spec := "walCheckpoints", inPlace := ["internal/reflectlite.TypeOf"], unfollowed := true, recurses := true, named := ["amphora/frame.turns"], apart := false, laid := [("amphora/frame.turns", laid_amphora_frame_turns)] }
def WalCheckpointsSaid : Prop := walCheckpointsRow.holds Tryz.pinned (OpenSpec.ofChange walCheckpointsSpec)

/-- ITS FALSE NEIGHBOUR: 'it returns false'. Refute it at one input. -/
def walCheckpointsWrong : ChangeSpec := { name := "walCheckpoints", fn := fun _ => fun
  | [d1, d2, d3, d4] => { results := [.lit (.bool false)], args := [d1, d2, d3, d4] }
  | _ => none }
def WalCheckpointsWrongFalsely : Prop := walCheckpointsRow.holds Tryz.pinned (OpenSpec.ofChange walCheckpointsWrong)

/- THE SECOND FORM. 'bulk': how many values and letters a reading holds, each counted each time it is reached (what is shared counts as often as it is met; a slice's spare places count too). A statement '..UptoSaid' is the law's where the arguments, and the package variables that the reading takes, are together of bulk at most 1048576: NARROWER than '..Said'. Prove '..Said' where nothing that the law and all that it calls make is longer than what came in: it says more and counts as full. Else prove '..UptoSaid'. A law counts once. -/
mutual
def uptoBulk {H : Type} : DataW H → Nat
  | .lit (.string bytes) => bytes.length + 1
  | .lit _ => 1
  | .nil => 1
  | .ptr d => uptoBulk d + 1
  | .slice elems spare => uptoBulkAll elems + uptoBulkAll spare + 1
  | .agg parts => uptoBulkAll parts + 1
  | .iface _ d => uptoBulk d + 1
  | .map entries => uptoBulkEntries entries + 1
  | .held _ => 1
def uptoBulkAll {H : Type} : List (DataW H) → Nat
  | [] => 0
  | d :: r => uptoBulk d + uptoBulkAll r
def uptoBulkEntries {H : Type} : List (Lit × DataW H) → Nat
  | [] => 0
  | x :: r => uptoBulkEntry x + uptoBulkEntries r
def uptoBulkEntry {H : Type} : Lit × DataW H → Nat
  | (.string bytes, d) => bytes.length + uptoBulk d + 1
  | (_, d) => uptoBulk d + 1
 end
def uptoSmall : (H : Type) → List (DataW H) → Bool := fun _ ds => decide (uptoBulkAll ds ≤ 1048576)
def OpenSpec.upto (s : _root_.Go.ChangeSpec) : _root_.Go.OpenSpec := { _root_.Go.OpenSpec.ofChange s with cond := some uptoSmall }

/-- 'amphoralaw07.WalLives', WHERE WHAT IT READS IS OF BULK AT MOST 1048576: true; the input reads as it did. -/
def walLivesUptoRow : OpenClaim := { program := "ytfmndffgmemgpaagreatdoor", sum := "a9d142f1194e0ba25d78c85ecd9943a1812be7ae9ae6947f6db85037b5213976", func := "amphora/amphoralaw07.WalLives", spec := "walLives", inPlace := ["internal/reflectlite.TypeOf"], unfollowed := true, recurses := true, named := ["amphora/frame.turns"], apart := false, laid := [("amphora/frame.turns", laid_amphora_frame_turns)], narrowed := true }
def WalLivesUptoSaid : Prop := walLivesUptoRow.holds Tryz.pinned (OpenSpec.upto walLivesSpec)

/-- 'amphoralaw07.WalSynced', WHERE WHAT IT READS IS OF BULK AT MOST 1048576: true; the input reads as it did. -/
def walSyncedUptoRow : OpenClaim := { program := "ytfmndffgmemgpaagreatdoor", sum := "a9d142f1194e0ba25d78c85ecd9943a1812be7ae9ae6947f6db85037b5213976", func := "amphora/amphoralaw07.WalSynced", spec := "walSynced", inPlace := ["internal/reflectlite.TypeOf"], unfollowed := true, recurses := true, named := ["amphora/frame.turns"], apart := false, laid := [("amphora/frame.turns", laid_amphora_frame_turns)], narrowed := true }
def WalSyncedUptoSaid : Prop := walSyncedUptoRow.holds Tryz.pinned (OpenSpec.upto walSyncedSpec)

/-- 'amphoralaw07.WalCheckpoints', WHERE WHAT IT READS IS OF BULK AT MOST 1048576: true; the input reads as it did. -/
def walCheckpointsUptoRow : OpenClaim := { program := "ytfmndffgmemgpaagreatdoor", sum := "a9d142f1194e0ba25d78c85ecd9943a1812be7ae9ae6947f6db85037b5213976", func := "amphora/amphoralaw07.WalCheckpoints", spec := "walCheckpoints", inPlace := ["internal/reflectlite.TypeOf"], unfollowed := true, recurses := true, named := ["amphora/frame.turns"], apart := false, laid := [("amphora/frame.turns", laid_amphora_frame_turns)], narrowed := true }
def WalCheckpointsUptoSaid : Prop := walCheckpointsUptoRow.holds Tryz.pinned (OpenSpec.upto walCheckpointsSpec)

end Rows
end Go.Proofs.YtfmndffgmemgpaaGreatDoor
