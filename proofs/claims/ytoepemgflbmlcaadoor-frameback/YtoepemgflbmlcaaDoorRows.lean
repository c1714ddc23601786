/-
  NARROWER THAN 'FOR EVERY INPUT', by the rows' own cells (each row's printed sentence says how): FrameCmds: laid · FrameMsgs: laid · FrameBack: laid · FrameOnce: laid.
  DERIVED. THE GIVEN ROWS OF THIS SEAT. 4 by the template 'for every input the law returns true; each argument reads behind the call as it read before'; 0 by the template 'total and deterministic' (their statements: YtoepemgflbmlcaaDoorTotals.lean).
  GIVEN WITH THE SEED: the statements are not yours to turn. If you find one false, say at which input.
  Laid BY PROGRAM, IN A SANDBOX (cutbox-rows.mjs): the forced cells as the released guide's own fill.sh prints them over the translation 4e0299f1b9161a4c… (all of the seat's roots in one cut). By AI agents, Wed Nov 11 2026. No macro, syntax, notation, axiom, sorry.
-/
import Derived.Test.YtoepemgflbmlcaaDoorChecked
import GoSem.Claim
import GoSem.ClaimJoined
import GoSem.ClaimMapViews
import Derived.JoinedTies
import Derived.KernelRfl
namespace Go.Proofs.YtoepemgflbmlcaaDoor
/- THE CELL 'sum', in the pinned program and in every row, IS THE sha256 OF THE DUMP (.gsa) THAT YtoepemgflbmlcaaDoorProg.lean LOADS. Nothing in Lean hashes anything: it is a label: what it is worth is what the hold of that sum in a sandbox is worth. -/
noncomputable def Tryd.pinned : Pinned := { name := "ytoepemgflbmlcaadoor", sum := "4e0299f1b9161a4c0becab7bef0338668da0309246501d4874051e2eb6ab11d6", checked := Tryd.checked }
namespace Rows
def none {H : Type} : Left H := { results := [], args := [] }

/- WHAT THE LISTED PACKAGE-LEVEL VARIABLES READ AS WHEN THE CALL BEGINS. Each datum BY PROGRAM (the guide's laid-datum.mjs) off the statement by which the dump's own 'gosem.cut.vars' lays the variable. In a bare row this is a premise. The card (YtoepemgflbmlcaaDoorCards.lean) ties it to the program's text. -/
def laid_amphora_frame_turns {H : Type} : DataW H := .agg [.lit (.int .u32 0), .lit (.int .u32 274646895), .lit (.int .u32 549293790), .lit (.int .u32 820201905), .lit (.int .u32 1098587580), .lit (.int .u32 1361435347), .lit (.int .u32 1640403810), .lit (.int .u32 1905808397), .lit (.int .u32 2197175160), .lit (.int .u32 2460548119), .lit (.int .u32 2722870694), .lit (.int .u32 2987750089), .lit (.int .u32 3280807620), .lit (.int .u32 3553878443), .lit (.int .u32 3811616794), .lit (.int .u32 4084100981)]

/-- 'amphoralaw05.FrameCmds': WHATEVER THE INPUT: true; the input reads as it did. -/
def frameCmdsSpec : ChangeSpec := { name := "frameCmds", fn := fun _ => fun
  | [d1, d2] => { results := [.lit (.bool true)], args := [d1, d2] }
  | _ => none }
def frameCmdsRow : OpenClaim := { program := "ytoepemgflbmlcaadoor", sum := "4e0299f1b9161a4c0becab7bef0338668da0309246501d4874051e2eb6ab11d6", func := "amphora/amphoralaw05.FrameCmds", spec := "frameCmds", unfollowed := true, recurses := true, named := ["amphora/frame.turns"], apart := false, laid := [("amphora/frame.turns", laid_amphora_frame_turns)] }
def FrameCmdsSaid : Prop := frameCmdsRow.holds Tryd.pinned (OpenSpec.ofChange frameCmdsSpec)

/-- ITS FALSE NEIGHBOUR: 'it returns false'. Refute it at one input. -/
def frameCmdsWrong : ChangeSpec := { name := "frameCmds", fn := fun _ => fun
  | [d1, d2] => { results := [.lit (.bool false)], args := [d1, d2] }
  | _ => none }
def FrameCmdsWrongFalsely : Prop := frameCmdsRow.holds Tryd.pinned (OpenSpec.ofChange frameCmdsWrong)

/-- 'amphoralaw05.FrameMsgs': WHATEVER THE INPUT: true; the input reads as it did. -/
def frameMsgsSpec : ChangeSpec := { name := "frameMsgs", fn := fun _ => fun
  | [d1, d2] => { results := [.lit (.bool true)], args := [d1, d2] }
  | _ => none }
def frameMsgsRow : OpenClaim := { program := "ytoepemgflbmlcaadoor", sum := "4e0299f1b9161a4c0becab7bef0338668da0309246501d4874051e2eb6ab11d6", func := "amphora/amphoralaw05.FrameMsgs", spec := "frameMsgs", unfollowed := true, recurses := true, named := ["amphora/frame.turns"], apart := false, laid := [("amphora/frame.turns", laid_amphora_frame_turns)] }
def FrameMsgsSaid : Prop := frameMsgsRow.holds Tryd.pinned (OpenSpec.ofChange frameMsgsSpec)

/-- ITS FALSE NEIGHBOUR: 'it returns false'. Refute it at one input. -/
def frameMsgsWrong : ChangeSpec := { name := "frameMsgs", fn := fun _ => fun
  | [d1, d2] => { results := [.lit (.bool false)], args := [d1, d2] }
  | _ => none }
def FrameMsgsWrongFalsely : Prop := frameMsgsRow.holds Tryd.pinned (OpenSpec.ofChange frameMsgsWrong)

/-- 'amphoralaw05.FrameBack': WHATEVER THE INPUT: true; the input reads as it did. -/
def frameBackSpec : ChangeSpec := { name := "frameBack", fn := fun _ => fun
  | [d1, d2, d3] => { results := [.lit (.bool true)], args := [d1, d2, d3] }
  | _ => none }
def frameBackRow : OpenClaim := { program := "ytoepemgflbmlcaadoor", sum := "4e0299f1b9161a4c0becab7bef0338668da0309246501d4874051e2eb6ab11d6", func := "amphora/amphoralaw05.FrameBack", spec := "frameBack", unfollowed := true, recurses := true, named := ["amphora/frame.turns"], apart := false, laid := [("amphora/frame.turns", laid_amphora_frame_turns)] }
def FrameBackSaid : Prop := frameBackRow.holds Tryd.pinned (OpenSpec.ofChange frameBackSpec)

/-- ITS FALSE NEIGHBOUR: 'it returns false'. Refute it at one input. -/
def frameBackWrong : ChangeSpec := { name := "frameBack", fn := fun _ => fun
  | [d1, d2, d3] => { results := [.lit (.bool false)], args := [d1, d2, d3] }
  | _ => none }
def FrameBackWrongFalsely : Prop := frameBackRow.holds Tryd.pinned (OpenSpec.ofChange frameBackWrong)

/-- 'amphoralaw05.FrameOnce': WHATEVER THE INPUT: true; the input reads as it did. -/
def frameOnceSpec : ChangeSpec := { name := "frameOnce", fn := fun _ => fun
  | [d] => { results := [.lit (.bool true)], args := [d] }
  | _ => none }
def frameOnceRow : OpenClaim := { program := "ytoepemgflbmlcaadoor", sum := "4e0299f1b9161a4c0becab7bef0338668da0309246501d4874051e2eb6ab11d6", func := "amphora/amphoralaw05.FrameOnce", spec := "frameOnce", unfollowed := true, recurses := true, named := ["amphora/frame.turns"], apart := false, laid := [("amphora/frame.turns", laid_amphora_frame_turns)] }
def FrameOnceSaid : Prop := frameOnceRow.holds Tryd.pinned (OpenSpec.ofChange frameOnceSpec)

/-- ITS FALSE NEIGHBOUR: 'it returns false'. Refute it at one input. -/
def frameOnceWrong : ChangeSpec := { name := "frameOnce", fn := fun _ => fun
  | [d] => { results := [.lit (.bool false)], args := [d] }
  | _ => none }
def FrameOnceWrongFalsely : Prop := frameOnceRow.holds Tryd.pinned (OpenSpec.ofChange frameOnceWrong)

/- THE SECOND FORM. 'bulk': how many values and letters a reading holds, each counted each time it is reached (what is shared counts as often as it is met; a slice's spare places count too). A statement '..UptoSaid' is the law's where the arguments, and the package variables that the reading takes, are together of bulk at most 1048576: NARROWER than '..Said'. Prove '..Said' where nothing that the law and all that it calls make is longer than what came in: it says more and counts as full. Else prove '..UptoSaid'. A law counts once. -/
mutual
def uptoBulk {H : Type} : DataW H → Nat
  | .lit (.string bytes) => bytes.length + 1
  | .lit _ => 1
  | .nil => 1
  | .ptr d => uptoBulk d + 1
  | .slice elems spare => uptoBulkAll elems + uptoBulkAll spare + 1
  | .agg parts => uptoBulkAll parts + 1
  | .iface _ d => uptoBulk d + 1
  | .map entries => uptoBulkEntries entries + 1
  | .held _ => 1
def uptoBulkAll {H : Type} : List (DataW H) → Nat
  | [] => 0
  | d :: r => uptoBulk d + uptoBulkAll r
def uptoBulkEntries {H : Type} : List (Lit × DataW H) → Nat
  | [] => 0
  | x :: r => uptoBulkEntry x + uptoBulkEntries r
def uptoBulkEntry {H : Type} : Lit × DataW H → Nat
  | (.string bytes, d) => bytes.length + uptoBulk d + 1
  | (_, d) => uptoBulk d + 1
 end
def uptoSmall : (H : Type) → List (DataW H) → Bool := fun _ ds => decide (uptoBulkAll ds ≤ 1048576)
def OpenSpec.upto (s : _root_.Go.ChangeSpec) : _root_.Go.OpenSpec := { _root_.Go.OpenSpec.ofChange s with cond := some uptoSmall }

/-- 'amphoralaw05.FrameCmds', WHERE WHAT IT READS IS OF BULK AT MOST 1048576: true; the input reads as it did. -/
def frameCmdsUptoRow : OpenClaim := { program := "ytoepemgflbmlcaadoor", sum := "4e0299f1b9161a4c0becab7bef0338668da0309246501d4874051e2eb6ab11d6", func := "amphora/amphoralaw05.FrameCmds", spec := "frameCmds", unfollowed := true, recurses := true, named := ["amphora/frame.turns"], apart := false, laid := [("amphora/frame.turns", laid_amphora_frame_turns)], narrowed := true }
def FrameCmdsUptoSaid : Prop := frameCmdsUptoRow.holds Tryd.pinned (OpenSpec.upto frameCmdsSpec)

/-- 'amphoralaw05.FrameMsgs', WHERE WHAT IT READS IS OF BULK AT MOST 1048576: true; the input reads as it did. -/
def frameMsgsUptoRow : OpenClaim := { program := "ytoepemgflbmlcaadoor", sum := "4e0299f1b9161a4c0becab7bef0338668da0309246501d4874051e2eb6ab11d6", func := "amphora/amphoralaw05.FrameMsgs", spec := "frameMsgs", unfollowed := true, recurses := true, named := ["amphora/frame.turns"], apart := false, laid := [("amphora/frame.turns", laid_amphora_frame_turns)], narrowed := true }
def FrameMsgsUptoSaid : Prop := frameMsgsUptoRow.holds Tryd.pinned (OpenSpec.upto frameMsgsSpec)

/-- 'amphoralaw05.FrameBack', WHERE WHAT IT READS IS OF BULK AT MOST 1048576: true; the input reads as it did. -/
def frameBackUptoRow : OpenClaim := { program := "ytoepemgflbmlcaadoor", sum := "4e0299f1b9161a4c0becab7bef0338668da0309246501d4874051e2eb6ab11d6", func := "amphora/amphoralaw05.FrameBack", spec := "frameBack", unfollowed := true, recurses := true, named := ["amphora/frame.turns"], apart := false, laid := [("amphora/frame.turns", laid_amphora_frame_turns)], narrowed := true }
def FrameBackUptoSaid : Prop := frameBackUptoRow.holds Tryd.pinned (OpenSpec.upto frameBackSpec)

/-- 'amphoralaw05.FrameOnce', WHERE WHAT IT READS IS OF BULK AT MOST 1048576: true; the input reads as it did. -/
def frameOnceUptoRow : OpenClaim := { program := "ytoepemgflbmlcaadoor", sum := "4e0299f1b9161a4c0becab7bef0338668da0309246501d4874051e2eb6ab11d6", func := "amphora/amphoralaw05.FrameOnce", spec := "frameOnce", unfollowed := true, recurses := true, named := ["amphora/frame.turns"], apart := false, laid := [("amphora/frame.turns", laid_amphora_frame_turns)], narrowed := true }
def FrameOnceUptoSaid : Prop := frameOnceUptoRow.holds Tryd.pinned (OpenSpec.upto frameOnceSpec)

end Rows
end Go.Proofs.YtoepemgflbmlcaaDoor
