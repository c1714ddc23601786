/-
  No cell of these rows narrows 'for every input' (looked for: loops, veiled, ifaces, maps, wideKeys, modest, calm, conditions, laid).
  DERIVED. THE GIVEN ROWS OF THIS SEAT. 7 by the template 'for every input the law returns true; each argument reads behind the call as it read before'; 0 by the template 'total and deterministic' (their statements: YtbbgplnenbkfeaaTotals.lean).
  GIVEN WITH THE SEED: the statements are not yours to turn. If you find one false, say at which input.
  Laid BY PROGRAM, IN A SANDBOX (cutbox-rows.mjs): the forced cells as the released guide's own fill.sh prints them over the translation 055518d4909f36dd… (all of the seat's roots in one cut). By AI agents, Wed Nov 11 2026. No macro, syntax, notation, axiom, sorry.
-/
import Derived.Test.YtbbgplnenbkfeaaChecked
import GoSem.Claim
import GoSem.ClaimJoined
import GoSem.ClaimMapViews
import Derived.JoinedTies
import Derived.KernelRfl
namespace Go.Proofs.Ytbbgplnenbkfeaa
/- THE CELL 'sum', in the pinned program and in every row, IS THE sha256 OF THE DUMP (.gsa) THAT YtbbgplnenbkfeaaProg.lean LOADS. Nothing in Lean hashes anything: it is a label: what it is worth is what the hold of that sum in a sandbox is worth. -/
noncomputable def Try.pinned : Pinned := { name := "ytbbgplnenbkfeaa", sum := "055518d4909f36ddcded2d0dd4a5932f0dd5a4ab58690526b1927e6d6b551358", checked := Try.checked }
namespace Rows
def none {H : Type} : Left H := { results := [], args := [] }

/-- 'amphoralaw22.HistoryTells': WHATEVER THE INPUT: true; the input reads as it did. -/
def historyTellsSpec : ChangeSpec := { name := "historyTells", fn := fun _ => fun
  | [d] => { results := [.lit (.bool true)], args := [d] }
  | _ => none }
def historyTellsRow : OpenClaim := { program := "ytbbgplnenbkfeaa", sum := "055518d4909f36ddcded2d0dd4a5932f0dd5a4ab58690526b1927e6d6b551358", func := "amphora/amphoralaw22.HistoryTells", spec := "historyTells", unfollowed := true, recurses := true, apart := false }
def HistoryTellsSaid : Prop := historyTellsRow.holds Try.pinned (OpenSpec.ofChange historyTellsSpec)

/-- ITS FALSE NEIGHBOUR: 'it returns false'. Refute it at one input. -/
def historyTellsWrong : ChangeSpec := { name := "historyTells", fn := fun _ => fun
  | [d] => { results := [.lit (.bool false)], args := [d] }
  | _ => none }
def HistoryTellsWrongFalsely : Prop := historyTellsRow.holds Try.pinned (OpenSpec.ofChange historyTellsWrong)

/-- 'amphoralaw22.HistoryTried': WHATEVER THE INPUT: true; the input reads as it did. -/
def historyTriedSpec : ChangeSpec := { name := "historyTried", fn := fun _ => fun
  | [d] => { results := [.lit (.bool true)], args := [d] }
  | _ => none }
def historyTriedRow : OpenClaim := { program := "ytbbgplnenbkfeaa", sum := "055518d4909f36ddcded2d0dd4a5932f0dd5a4ab58690526b1927e6d6b551358", func := "amphora/amphoralaw22.HistoryTried", spec := "historyTried", unfollowed := true, recurses := true, apart := false }
def HistoryTriedSaid : Prop := historyTriedRow.holds Try.pinned (OpenSpec.ofChange historyTriedSpec)

/-- ITS FALSE NEIGHBOUR: 'it returns false'. Refute it at one input. -/
def historyTriedWrong : ChangeSpec := { name := "historyTried", fn := fun _ => fun
  | [d] => { results := [.lit (.bool false)], args := [d] }
  | _ => none }
def HistoryTriedWrongFalsely : Prop := historyTriedRow.holds Try.pinned (OpenSpec.ofChange historyTriedWrong)

/-- 'amphoralaw22.HistoryServed': WHATEVER THE INPUT: true; the input reads as it did. -/
def historyServedSpec : ChangeSpec := { name := "historyServed", fn := fun _ => fun
  | [d1, d2] => { results := [.lit (.bool true)], args := [d1, d2] }
  | _ => none }
def historyServedRow : OpenClaim := { program := "ytbbgplnenbkfeaa", sum := "055518d4909f36ddcded2d0dd4a5932f0dd5a4ab58690526b1927e6d6b551358", func := "amphora/amphoralaw22.HistoryServed", spec := "historyServed", unfollowed := true, recurses := true, apart := false }
def HistoryServedSaid : Prop := historyServedRow.holds Try.pinned (OpenSpec.ofChange historyServedSpec)

/-- ITS FALSE NEIGHBOUR: 'it returns false'. Refute it at one input. -/
def historyServedWrong : ChangeSpec := { name := "historyServed", fn := fun _ => fun
  | [d1, d2] => { results := [.lit (.bool false)], args := [d1, d2] }
  | _ => none }
def HistoryServedWrongFalsely : Prop := historyServedRow.holds Try.pinned (OpenSpec.ofChange historyServedWrong)

/-- 'amphoralaw22.HistoryApart': WHATEVER THE INPUT: true; the input reads as it did. -/
def historyApartSpec : ChangeSpec := { name := "historyApart", fn := fun _ => fun
  | [d] => { results := [.lit (.bool true)], args := [d] }
  | _ => none }
def historyApartRow : OpenClaim := { program := "ytbbgplnenbkfeaa", sum := "055518d4909f36ddcded2d0dd4a5932f0dd5a4ab58690526b1927e6d6b551358", func := "amphora/amphoralaw22.HistoryApart", spec := "historyApart", unfollowed := true, recurses := true, apart := false }
def HistoryApartSaid : Prop := historyApartRow.holds Try.pinned (OpenSpec.ofChange historyApartSpec)

/-- ITS FALSE NEIGHBOUR: 'it returns false'. Refute it at one input. -/
def historyApartWrong : ChangeSpec := { name := "historyApart", fn := fun _ => fun
  | [d] => { results := [.lit (.bool false)], args := [d] }
  | _ => none }
def HistoryApartWrongFalsely : Prop := historyApartRow.holds Try.pinned (OpenSpec.ofChange historyApartWrong)

/-- 'amphoralaw22.HistoryBegins': WHATEVER THE INPUT: true; the input reads as it did. -/
def historyBeginsSpec : ChangeSpec := { name := "historyBegins", fn := fun _ => fun
  | [d1, d2, d3, d4] => { results := [.lit (.bool true)], args := [d1, d2, d3, d4] }
  | _ => none }
def historyBeginsRow : OpenClaim := { program := "ytbbgplnenbkfeaa", sum := "055518d4909f36ddcded2d0dd4a5932f0dd5a4ab58690526b1927e6d6b551358", func := "amphora/amphoralaw22.HistoryBegins", spec := "historyBegins", unfollowed := true, recurses := true, apart := false }
def HistoryBeginsSaid : Prop := historyBeginsRow.holds Try.pinned (OpenSpec.ofChange historyBeginsSpec)

/-- ITS FALSE NEIGHBOUR: 'it returns false'. Refute it at one input. -/
def historyBeginsWrong : ChangeSpec := { name := "historyBegins", fn := fun _ => fun
  | [d1, d2, d3, d4] => { results := [.lit (.bool false)], args := [d1, d2, d3, d4] }
  | _ => none }
def HistoryBeginsWrongFalsely : Prop := historyBeginsRow.holds Try.pinned (OpenSpec.ofChange historyBeginsWrong)

/-- 'amphoralaw22.HistoryTwice': WHATEVER THE INPUT: true; the input reads as it did. -/
def historyTwiceSpec : ChangeSpec := { name := "historyTwice", fn := fun _ => fun
  | [d1, d2, d3] => { results := [.lit (.bool true)], args := [d1, d2, d3] }
  | _ => none }
def historyTwiceRow : OpenClaim := { program := "ytbbgplnenbkfeaa", sum := "055518d4909f36ddcded2d0dd4a5932f0dd5a4ab58690526b1927e6d6b551358", func := "amphora/amphoralaw22.HistoryTwice", spec := "historyTwice", unfollowed := true, recurses := true, apart := false }
def HistoryTwiceSaid : Prop := historyTwiceRow.holds Try.pinned (OpenSpec.ofChange historyTwiceSpec)

/-- ITS FALSE NEIGHBOUR: 'it returns false'. Refute it at one input. -/
def historyTwiceWrong : ChangeSpec := { name := "historyTwice", fn := fun _ => fun
  | [d1, d2, d3] => { results := [.lit (.bool false)], args := [d1, d2, d3] }
  | _ => none }
def HistoryTwiceWrongFalsely : Prop := historyTwiceRow.holds Try.pinned (OpenSpec.ofChange historyTwiceWrong)

/-- 'amphoralaw22.HistoryOpen': WHATEVER THE INPUT: true; the input reads as it did. -/
def historyOpenSpec : ChangeSpec := { name := "historyOpen", fn := fun _ => fun
  | [d1, d2] => { results := [.lit (.bool true)], args := [d1, d2] }
  | _ => none }
def historyOpenRow : OpenClaim := { program := "ytbbgplnenbkfeaa", sum := "055518d4909f36ddcded2d0dd4a5932f0dd5a4ab58690526b1927e6d6b551358", func := "amphora/amphoralaw22.HistoryOpen", spec := "historyOpen", unfollowed := true, recurses := true, apart := false }
def HistoryOpenSaid : Prop := historyOpenRow.holds Try.pinned (OpenSpec.ofChange historyOpenSpec)

/-- ITS FALSE NEIGHBOUR: 'it returns false'. Refute it at one input. -/
def historyOpenWrong : ChangeSpec := { name := "historyOpen", fn := fun _ => fun
  | [d1, d2] => { results := [.lit (.bool false)], args := [d1, d2] }
  | _ => none }
def HistoryOpenWrongFalsely : Prop := historyOpenRow.holds Try.pinned (OpenSpec.ofChange historyOpenWrong)

/- THE SECOND FORM. 'bulk': how many values and letters a reading holds, each counted each time it is reached (what is shared counts as often as it is met; a slice's spare places count too). A statement '..UptoSaid' is the law's where the arguments, and the package variables that the reading takes, are together of bulk at most 1048576: NARROWER than '..Said'. Prove '..Said' where nothing that the law and all that it calls make is longer than what came in: it says more and counts as full. Else prove '..UptoSaid'. A law counts once. -/
mutual
def uptoBulk {H : Type} : DataW H → Nat
  | .lit (.string bytes) => bytes.length + 1
  | .lit _ => 1
  | .nil => 1
  | .ptr d => uptoBulk d + 1
  | .slice elems spare => uptoBulkAll elems + uptoBulkAll spare + 1
  | .agg parts => uptoBulkAll parts + 1
  | .iface _ d => uptoBulk d + 1
  | .map entries => uptoBulkEntries entries + 1
  | .held _ => 1
def uptoBulkAll {H : Type} : List (DataW H) → Nat
  | [] => 0
  | d :: r => uptoBulk d + uptoBulkAll r
def uptoBulkEntries {H : Type} : List (Lit × DataW H) → Nat
  | [] => 0
  | x :: r => uptoBulkEntry x + uptoBulkEntries r
def uptoBulkEntry {H : Type} : Lit × DataW H → Nat
  | (.string bytes, d) => bytes.length + uptoBulk d + 1
  | (_, d) => uptoBulk d + 1
 end
def uptoSmall : (H : Type) → List (DataW H) → Bool := fun _ ds => decide (uptoBulkAll ds ≤ 1048576)
def OpenSpec.upto (s : _root_.Go.ChangeSpec) : _root_.Go.OpenSpec := { _root_.Go.OpenSpec.ofChange s with cond := some uptoSmall }

/-- 'amphoralaw22.HistoryTells', WHERE WHAT IT READS IS OF BULK AT MOST 1048576: true; the input reads as it did. -/
def historyTellsUptoRow : OpenClaim := { program := "ytbbgplnenbkfeaa", sum := "055518d4909f36ddcded2d0dd4a5932f0dd5a4ab58690526b1927e6d6b551358", func := "amphora/amphoralaw22.HistoryTells", spec := "historyTells", unfollowed := true, recurses := true, apart := false, narrowed := true }
def HistoryTellsUptoSaid : Prop := historyTellsUptoRow.holds Try.pinned (OpenSpec.upto historyTellsSpec)

/-- 'amphoralaw22.HistoryTried', WHERE WHAT IT READS IS OF BULK AT MOST 1048576: true; the input reads as it did. -/
def historyTriedUptoRow : OpenClaim := { program := "ytbbgplnenbkfeaa", sum := "055518d4909f36ddcded2d0dd4a5932f0dd5a4ab58690526b1927e6d6b551358", func := "amphora/amphoralaw22.HistoryTried", spec := "historyTried", unfollowed := true, recurses := true, apart := false, narrowed := true }
def HistoryTriedUptoSaid : Prop := historyTriedUptoRow.holds Try.pinned (OpenSpec.upto historyTriedSpec)

/-- 'amphoralaw22.HistoryServed', WHERE WHAT IT READS IS OF BULK AT MOST 1048576: true; the input reads as it did. -/
def historyServedUptoRow : OpenClaim := { program := "ytbbgplnenbkfeaa", sum := "055518d4909f36ddcded2d0dd4a5932f0dd5a4ab58690526b1927e6d6b551358", func := "amphora/amphoralaw22.HistoryServed", spec := "historyServed", unfollowed := true, recurses := true, apart := false, narrowed := true }
def HistoryServedUptoSaid : Prop := historyServedUptoRow.holds Try.pinned (OpenSpec.upto historyServedSpec)

/-- 'amphoralaw22.HistoryApart', WHERE WHAT IT READS IS OF BULK AT MOST 1048576: true; the input reads as it did. -/
def historyApartUptoRow : OpenClaim := { program := "ytbbgplnenbkfeaa", sum := "055518d4909f36ddcded2d0dd4a5932f0dd5a4ab58690526b1927e6d6b551358", func := "amphora/amphoralaw22.HistoryApart", spec := "historyApart", unfollowed := true, recurses := true, apart := false, narrowed := true }
def HistoryApartUptoSaid : Prop := historyApartUptoRow.holds Try.pinned (OpenSpec.upto historyApartSpec)

/-- 'amphoralaw22.HistoryBegins', WHERE WHAT IT READS IS OF BULK AT MOST 1048576: true; the input reads as it did. -/
def historyBeginsUptoRow : OpenClaim := { program := "ytbbgplnenbkfeaa", sum := "055518d4909f36ddcded2d0dd4a5932f0dd5a4ab58690526b1927e6d6b551358", func := "amphora/amphoralaw22.HistoryBegins", spec := "historyBegins", unfollowed := true, recurses := true, apart := false, narrowed := true }
def HistoryBeginsUptoSaid : Prop := historyBeginsUptoRow.holds Try.pinned (OpenSpec.upto historyBeginsSpec)

/-- 'amphoralaw22.HistoryTwice', WHERE WHAT IT READS IS OF BULK AT MOST 1048576: true; the input reads as it did. -/
def historyTwiceUptoRow : OpenClaim := { program := "ytbbgplnenbkfeaa", sum := "055518d4909f36ddcded2d0dd4a5932f0dd5a4ab58690526b1927e6d6b551358", func := "amphora/amphoralaw22.HistoryTwice", spec := "historyTwice", unfollowed := true, recurses := true, apart := false, narrowed := true }
def HistoryTwiceUptoSaid : Prop := historyTwiceUptoRow.holds Try.pinned (OpenSpec.upto historyTwiceSpec)

/-- 'amphoralaw22.HistoryOpen', WHERE WHAT IT READS IS OF BULK AT MOST 1048576: true; the input reads as it did. -/
def historyOpenUptoRow : OpenClaim := { program := "ytbbgplnenbkfeaa", sum := "055518d4909f36ddcded2d0dd4a5932f0dd5a4ab58690526b1927e6d6b551358", func := "amphora/amphoralaw22.HistoryOpen", spec := "historyOpen", unfollowed := true, recurses := true, apart := false, narrowed := true }
def HistoryOpenUptoSaid : Prop := historyOpenUptoRow.holds Try.pinned (OpenSpec.upto historyOpenSpec)

end Rows
end Go.Proofs.Ytbbgplnenbkfeaa
