/-
  NARROWER THAN 'FOR EVERY INPUT', by the rows' own cells (each row's printed sentence says how): ShelfAny: laid · ShelfFences: laid · ShelfSynced: laid · ShelfRoom: laid · ShelfDrops: laid.
  DERIVED. THE GIVEN ROWS OF THIS SEAT. 5 by the template 'for every input the law returns true; each argument reads behind the call as it read before'; 0 by the template 'total and deterministic' (their statements: YtmooddbhcccicaaGreatDoorTotals.lean).
  GIVEN WITH THE SEED: the statements are not yours to turn. If you find one false, say at which input.
  Laid BY PROGRAM, IN A SANDBOX (cutbox-rows.mjs): the forced cells as the released guide's own fill.sh prints them over the translation 70d99f86e0d36d6e… (all of the seat's roots in one cut). By AI agents, Wed Nov 11 2026. No macro, syntax, notation, axiom, sorry.
-/
import Derived.Test.YtmooddbhcccicaaGreatDoorChecked
import GoSem.Claim
import GoSem.ClaimJoined
import GoSem.ClaimMapViews
import Derived.JoinedTies
import Derived.KernelRfl
namespace Go.Proofs.YtmooddbhcccicaaGreatDoor
/- THE CELL 'sum', in the pinned program and in every row, IS THE sha256 OF THE DUMP (.gsa) THAT YtmooddbhcccicaaGreatDoorProg.lean LOADS. Nothing in Lean hashes anything: it is a label: what it is worth is what the hold of that sum in a sandbox is worth. -/
noncomputable def Tryz.pinned : Pinned := { name := "ytmooddbhcccicaagreatdoor", sum := "70d99f86e0d36d6eee7565d4e77e15fc97980417d8e7c500efce8b2131d4bdc8", checked := Tryz.checked }
namespace Rows
def none {H : Type} : Left H := { results := [], args := [] }

/- WHAT THE LISTED PACKAGE-LEVEL VARIABLES READ AS WHEN THE CALL BEGINS. Each datum BY PROGRAM (the guide's laid-datum.mjs) off the statement by which the dump's own 'gosem.cut.vars' lays the variable. In a bare row this is a premise. The card (YtmooddbhcccicaaGreatDoorCards.lean) ties it to the program's text. -/
def laid_amphora_frame_turns {H : Type} : DataW H := .agg [.lit (.int .u32 0), .lit (.int .u32 274646895), .lit (.int .u32 549293790), .lit (.int .u32 820201905), .lit (.int .u32 1098587580), .lit (.int .u32 1361435347), .lit (.int .u32 1640403810), .lit (.int .u32 1905808397), .lit (.int .u32 2197175160), .lit (.int .u32 2460548119), .lit (.int .u32 2722870694), .lit (.int .u32 2987750089), .lit (.int .u32 3280807620), .lit (.int .u32 3553878443), .lit (.int .u32 3811616794), .lit (.int .u32 4084100981)]

/-- 'amphoralaw08.ShelfAny': WHATEVER THE INPUT: true; the input reads as it did. -/
def shelfAnySpec : ChangeSpec := { name := "shelfAny", fn := fun _ => fun
  | [d1, d2] => { results := [.lit (.bool true)], args := [d1, d2] }
  | _ => none }
def shelfAnyRow : OpenClaim := { program := "ytmooddbhcccicaagreatdoor", sum := "70d99f86e0d36d6eee7565d4e77e15fc97980417d8e7c500efce8b2131d4bdc8", func := "amphora/amphoralaw08.ShelfAny", spec := "shelfAny", inPlace := ["internal/reflectlite.TypeOf"], unfollowed := true, recurses := true, named := ["amphora/frame.turns"], plainKeys := false, apart := false, laid := [("amphora/frame.turns", laid_amphora_frame_turns)] }
def ShelfAnySaid : Prop := shelfAnyRow.holds Tryz.pinned (OpenSpec.ofChange shelfAnySpec)

/-- ITS FALSE NEIGHBOUR: 'it returns false'. Refute it at one input. -/
def shelfAnyWrong : ChangeSpec := { name := "shelfAny", fn := fun _ => fun
  | [d1, d2] => { results := [.lit (.bool false)], args := [d1, d2] }
  | _ => none }
def ShelfAnyWrongFalsely : Prop := shelfAnyRow.holds Tryz.pinned (OpenSpec.ofChange shelfAnyWrong)

/-- 'amphoralaw08.ShelfFences': WHATEVER THE INPUT: true; the input reads as it did. -/
def shelfFencesSpec : ChangeSpec := { name := "shelfFences", fn := fun _ => fun
  | [d1, d2, d3, d4, d5] => { results := [.lit (.bool true)], args := [d1, d2, d3, d4, d5] }
  | _ => none }
def shelfFencesRow : OpenClaim := { program := "ytmooddbhcccicaagreatdoor", sum := "70d99f86e0d36d6eee7565d4e77e15fc97980417d8e7c500efce8b2131d4bdc8", func := "amphora/amphoralaw08.ShelfFences", spec := "shelfFences", inPlace := ["internal/reflectlite.TypeOf"], unfollowed := true, recurses := true, named := ["amphora/frame.turns"], plainKeys := false, apart := false, laid := [("amphora/frame.turns", laid_amphora_frame_turns)] }
def ShelfFencesSaid : Prop := shelfFencesRow.holds Tryz.pinned (OpenSpec.ofChange shelfFencesSpec)

/-- ITS FALSE NEIGHBOUR: 'it returns false'. Refute it at one input. -/
def shelfFencesWrong : ChangeSpec := { name := "shelfFences", fn := fun _ => fun
  | [d1, d2, d3, d4, d5] => { results := [.lit (.bool false)], args := [d1, d2, d3, d4, d5] }
  | _ => none }
def ShelfFencesWrongFalsely : Prop := shelfFencesRow.holds Tryz.pinned (OpenSpec.ofChange shelfFencesWrong)

/-- 'amphoralaw08.ShelfSynced': WHATEVER THE INPUT: true; the input reads as it did. -/
def shelfSyncedSpec : ChangeSpec := { name := "shelfSynced", fn := fun _ => fun
  | [d1, d2, d3, d4, d5] => { results := [.lit (.bool true)], args := [d1, d2, d3, d4, d5] }
  | _ => none }
def shelfSyncedRow : OpenClaim := { program := "ytmooddbhcccicaagreatdoor", sum := "70d99f86e0d36d6eee7565d4e77e15fc97980417d8e7c500efce8b2131d4bdc8", func := "amphora/amphoralaw08.ShelfSynced", spec := "shelfSynced", inPlace := ["internal/reflectlite.TypeOf"], unfollowed := true, recurses := true, named := ["amphora/frame.turns"], plainKeys := false, apart := false, laid := [("amphora/frame.turns", laid_amphora_frame_turns)] }
def ShelfSyncedSaid : Prop := shelfSyncedRow.holds Tryz.pinned (OpenSpec.ofChange shelfSyncedSpec)

/-- ITS FALSE NEIGHBOUR: 'it returns false'. Refute it at one input. -/
def shelfSyncedWrong : ChangeSpec := { name := "shelfSynced", fn := fun _ => fun
  | [d1, d2, d3, d4, d5] => { results := [.lit (.bool false)], args := [d1, d2, d3, d4, d5] }
  | _ => none }
def ShelfSyncedWrongFalsely : Prop := shelfSyncedRow.holds Tryz.pinned (OpenSpec.ofChange shelfSyncedWrong)

/-- 'amphoralaw08.ShelfRoom': WHATEVER THE INPUT: true; the input reads as it did. -/
def shelfRoomSpec : ChangeSpec := { name := "shelfRoom", fn := fun _ => fun
  | [d1, d2] => { results := [.lit (.bool true)], args := [d1, d2] }
  | _ => none }
def shelfRoomRow : OpenClaim := { program := "ytmooddbhcccicaagreatdoor", sum := "70d99f86e0d36d6eee7565d4e77e15fc97980417d8e7c500efce8b2131d4bdc8", func := "amphora/amphoralaw08.ShelfRoom", spec := "shelfRoom", inPlace := ["internal/reflectlite.TypeOf"], unfollowed := true, recurses := true, named := ["amphora/frame.turns"], plainKeys := false, apart := false, laid := [("amphora/frame.turns", laid_amphora_frame_turns)] }
def ShelfRoomSaid : Prop := shelfRoomRow.holds Tryz.pinned (OpenSpec.ofChange shelfRoomSpec)

/-- ITS FALSE NEIGHBOUR: 'it returns false'. Refute it at one input. -/
def shelfRoomWrong : ChangeSpec := { name := "shelfRoom", fn := fun _ => fun
  | [d1, d2] => { results := [.lit (.bool false)], args := [d1, d2] }
  | _ => none }
def ShelfRoomWrongFalsely : Prop := shelfRoomRow.holds Tryz.pinned (OpenSpec.ofChange shelfRoomWrong)

/-- 'amphoralaw08.ShelfDrops': WHATEVER THE INPUT: true; the input reads as it did. -/
def shelfDropsSpec : ChangeSpec := { name := "shelfDrops", fn := fun _ => fun
  | [d1, d2, d3, d4, d5] => { results := [.lit (.bool true)], args := [d1, d2, d3, d4, d5] }
  | _ => none }
def shelfDropsRow : OpenClaim := { program := "ytmooddbhcccicaagreatdoor", sum := "70d99f86e0d36d6eee7565d4e77e15fc97980417d8e7c500efce8b2131d4bdc8", func := "amphora/amphoralaw08.ShelfDrops", spec := "shelfDrops", inPlace := ["internal/reflectlite.TypeOf"], unfollowed := true, recurses := true, named := ["amphora/frame.turns"], plainKeys := false, apart := false, laid := [("amphora/frame.turns", laid_amphora_frame_turns)] }
def ShelfDropsSaid : Prop := shelfDropsRow.holds Tryz.pinned (OpenSpec.ofChange shelfDropsSpec)

/-- ITS FALSE NEIGHBOUR: 'it returns false'. Refute it at one input. -/
def shelfDropsWrong : ChangeSpec := { name := "shelfDrops", fn := fun _ => fun
  | [d1, d2, d3, d4, d5] => { results := [.lit (.bool false)], args := [d1, d2, d3, d4, d5] }
  | _ => none }
def ShelfDropsWrongFalsely : Prop := shelfDropsRow.holds Tryz.pinned (OpenSpec.ofChange shelfDropsWrong)

/- THE SECOND FORM. 'bulk': how many values and letters a reading holds, each counted each time it is reached (what is shared counts as often as it is met; a slice's spare places count too). A statement '..UptoSaid' is the law's where the arguments, and the package variables that the reading takes, are together of bulk at most 1048576: NARROWER than '..Said'. Prove '..Said' where nothing that the law and all that it calls make is longer than what came in: it says more and counts as full. Else prove '..UptoSaid'. A law counts once. -/
mutual
def uptoBulk {H : Type} : DataW H → Nat
  | .lit (.string bytes) => bytes.length + 1
  | .lit _ => 1
  | .nil => 1
  | .ptr d => uptoBulk d + 1
  | .slice elems spare => uptoBulkAll elems + uptoBulkAll spare + 1
  | .agg parts => uptoBulkAll parts + 1
  | .iface _ d => uptoBulk d + 1
  | .map entries => uptoBulkEntries entries + 1
  | .held _ => 1
def uptoBulkAll {H : Type} : List (DataW H) → Nat
  | [] => 0
  | d :: r => uptoBulk d + uptoBulkAll r
def uptoBulkEntries {H : Type} : List (Lit × DataW H) → Nat
  | [] => 0
  | x :: r => uptoBulkEntry x + uptoBulkEntries r
def uptoBulkEntry {H : Type} : Lit × DataW H → Nat
  | (.string bytes, d) => bytes.length + uptoBulk d + 1
  | (_, d) => uptoBulk d + 1
 end
def uptoSmall : (H : Type) → List (DataW H) → Bool := fun _ ds => decide (uptoBulkAll ds ≤ 1048576)
def OpenSpec.upto (s : _root_.Go.ChangeSpec) : _root_.Go.OpenSpec := { _root_.Go.OpenSpec.ofChange s with cond := some uptoSmall }

/-- 'amphoralaw08.ShelfAny', WHERE WHAT IT READS IS OF BULK AT MOST 1048576: true; the input reads as it did. -/
def shelfAnyUptoRow : OpenClaim := { program := "ytmooddbhcccicaagreatdoor", sum := "70d99f86e0d36d6eee7565d4e77e15fc97980417d8e7c500efce8b2131d4bdc8", func := "amphora/amphoralaw08.ShelfAny", spec := "shelfAny", inPlace := ["internal/reflectlite.TypeOf"], unfollowed := true, recurses := true, named := ["amphora/frame.turns"], plainKeys := false, apart := false, laid := [("amphora/frame.turns", laid_amphora_frame_turns)], narrowed := true }
def ShelfAnyUptoSaid : Prop := shelfAnyUptoRow.holds Tryz.pinned (OpenSpec.upto shelfAnySpec)

/-- 'amphoralaw08.ShelfFences', WHERE WHAT IT READS IS OF BULK AT MOST 1048576: true; the input reads as it did. -/
def shelfFencesUptoRow : OpenClaim := { program := "ytmooddbhcccicaagreatdoor", sum := "70d99f86e0d36d6eee7565d4e77e15fc97980417d8e7c500efce8b2131d4bdc8", func := "amphora/amphoralaw08.ShelfFences", spec := "shelfFences", inPlace := ["internal/reflectlite.TypeOf"], unfollowed := true, recurses := true, named := ["amphora/frame.turns"], plainKeys := false, apart := false, laid := [("amphora/frame.turns", laid_amphora_frame_turns)], narrowed := true }
def ShelfFencesUptoSaid : Prop := shelfFencesUptoRow.holds Tryz.pinned (OpenSpec.upto shelfFencesSpec)

/-- 'amphoralaw08.ShelfSynced', WHERE WHAT IT READS IS OF BULK AT MOST 1048576: true; the input reads as it did. -/
def shelfSyncedUptoRow : OpenClaim := { program := "ytmooddbhcccicaagreatdoor", sum := "70d99f86e0d36d6eee7565d4e77e15fc97980417d8e7c500efce8b2131d4bdc8", func := "amphora/amphoralaw08.ShelfSynced", spec := "shelfSynced", inPlace := ["internal/reflectlite.TypeOf"], unfollowed := true, recurses := true, named := ["amphora/frame.turns"], plainKeys := false, apart := false, laid := [("amphora/frame.turns", laid_amphora_frame_turns)], narrowed := true }
def ShelfSyncedUptoSaid : Prop := shelfSyncedUptoRow.holds Tryz.pinned (OpenSpec.upto shelfSyncedSpec)

/-- 'amphoralaw08.ShelfRoom', WHERE WHAT IT READS IS OF BULK AT MOST 1048576: true; the input reads as it did. -/
def shelfRoomUptoRow : OpenClaim := { program := "ytmooddbhcccicaagreatdoor", sum := "70d99f86e0d36d6eee7565d4e77e15fc97980417d8e7c500efce8b2131d4bdc8", func := "amphora/amphoralaw08.ShelfRoom", spec := "shelfRoom", inPlace := ["internal/reflectlite.TypeOf"], unfollowed := true, recurses := true, named := ["amphora/frame.turns"], plainKeys := false, apart := false, laid := [("amphora/frame.turns", laid_amphora_frame_turns)], narrowed := true }
def ShelfRoomUptoSaid : Prop := shelfRoomUptoRow.holds Tryz.pinned (OpenSpec.upto shelfRoomSpec)

/-- 'amphoralaw08.ShelfDrops', WHERE WHAT IT READS IS OF BULK AT MOST 1048576: true; the input reads as it did. -/
def shelfDropsUptoRow : OpenClaim := { program := "ytmooddbhcccicaagreatdoor", sum := "70d99f86e0d36d6eee7565d4e77e15fc97980417d8e7c500efce8b2131d4bdc8", func := "amphora/amphoralaw08.ShelfDrops", spec := "shelfDrops", inPlace := ["internal/reflectlite.TypeOf"], unfollowed := true, recurses := true, named := ["amphora/frame.turns"], plainKeys := false, apart := false, laid := [("amphora/frame.turns", laid_amphora_frame_turns)], narrowed := true }
def ShelfDropsUptoSaid : Prop := shelfDropsUptoRow.holds Tryz.pinned (OpenSpec.upto shelfDropsSpec)

end Rows
end Go.Proofs.YtmooddbhcccicaaGreatDoor
