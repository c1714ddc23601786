/-
  NARROWER THAN 'FOR EVERY INPUT', by the rows' own cells (each row's printed sentence says how): MoverBrings: laid · MoverFences: laid · MoverNobody: laid · RecodeStores: laid · RecodeForgets: laid · RecodeNobody: laid · RecodeWaits: laid · CoordOnce: laid · CoordNobody: laid · CoordRefused: laid.
  DERIVED. THE GIVEN ROWS OF THIS SEAT. 10 by the template 'for every input the law returns true; each argument reads behind the call as it read before'; 0 by the template 'total and deterministic' (their statements: YtmncocmeafcpfaaDoorTotals.lean).
  GIVEN WITH THE SEED: the statements are not yours to turn. If you find one false, say at which input.
  Laid BY PROGRAM, IN A SANDBOX (cutbox-rows.mjs): the forced cells as the released guide's own fill.sh prints them over the translation 5e8e01e19d7cb656… (all of the seat's roots in one cut). By AI agents, Wed Nov 11 2026. No macro, syntax, notation, axiom, sorry.
-/
import Derived.Test.YtmncocmeafcpfaaDoorChecked
import GoSem.Claim
import GoSem.ClaimJoined
import GoSem.ClaimMapViews
import Derived.JoinedTies
import Derived.KernelRfl
namespace Go.Proofs.YtmncocmeafcpfaaDoor
/- THE CELL 'sum', in the pinned program and in every row, IS THE sha256 OF THE DUMP (.gsa) THAT YtmncocmeafcpfaaDoorProg.lean LOADS. Nothing in Lean hashes anything: it is a label: what it is worth is what the hold of that sum in a sandbox is worth. -/
noncomputable def Tryd.pinned : Pinned := { name := "ytmncocmeafcpfaadoor", sum := "5e8e01e19d7cb656008ddef73e8ae63c4f0d00abc33d9919ed86e325ef5e924e", checked := Tryd.checked }
namespace Rows
def none {H : Type} : Left H := { results := [], args := [] }

/- WHAT THE LISTED PACKAGE-LEVEL VARIABLES READ AS WHEN THE CALL BEGINS. Each datum BY PROGRAM (the guide's laid-datum.mjs) off the statement by which the dump's own 'gosem.cut.vars' lays the variable. In a bare row this is a premise. The card (YtmncocmeafcpfaaDoorCards.lean) ties it to the program's text. -/
def laid_amphora_galois_powers {H : Type} : DataW H := .agg [.lit (.int .u8 1), .lit (.int .u8 2), .lit (.int .u8 4), .lit (.int .u8 8), .lit (.int .u8 16), .lit (.int .u8 32), .lit (.int .u8 64), .lit (.int .u8 128), .lit (.int .u8 29), .lit (.int .u8 58), .lit (.int .u8 116), .lit (.int .u8 232), .lit (.int .u8 205), .lit (.int .u8 135), .lit (.int .u8 19)]
def laid_amphora_frame_turns {H : Type} : DataW H := .agg [.lit (.int .u32 0), .lit (.int .u32 274646895), .lit (.int .u32 549293790), .lit (.int .u32 820201905), .lit (.int .u32 1098587580), .lit (.int .u32 1361435347), .lit (.int .u32 1640403810), .lit (.int .u32 1905808397), .lit (.int .u32 2197175160), .lit (.int .u32 2460548119), .lit (.int .u32 2722870694), .lit (.int .u32 2987750089), .lit (.int .u32 3280807620), .lit (.int .u32 3553878443), .lit (.int .u32 3811616794), .lit (.int .u32 4084100981)]

/-- 'amphoralaw17.MoverBrings': WHATEVER THE INPUT: true; the input reads as it did. -/
def moverBringsSpec : ChangeSpec := { name := "moverBrings", fn := fun _ => fun
  | [d1, d2, d3, d4, d5] => { results := [.lit (.bool true)], args := [d1, d2, d3, d4, d5] }
  | _ => none }
def moverBringsRow : OpenClaim := { program := "ytmncocmeafcpfaadoor", sum := "5e8e01e19d7cb656008ddef73e8ae63c4f0d00abc33d9919ed86e325ef5e924e", func := "amphora/amphoralaw17.MoverBrings", spec := "moverBrings", unfollowed := true, recurses := true, named := ["amphora/galois.powers"], apart := false, laid := [("amphora/galois.powers", laid_amphora_galois_powers)] }
def MoverBringsSaid : Prop := moverBringsRow.holds Tryd.pinned (OpenSpec.ofChange moverBringsSpec)

/-- ITS FALSE NEIGHBOUR: 'it returns false'. Refute it at one input. -/
def moverBringsWrong : ChangeSpec := { name := "moverBrings", fn := fun _ => fun
  | [d1, d2, d3, d4, d5] => { results := [.lit (.bool false)], args := [d1, d2, d3, d4, d5] }
  | _ => none }
def MoverBringsWrongFalsely : Prop := moverBringsRow.holds Tryd.pinned (OpenSpec.ofChange moverBringsWrong)

/-- 'amphoralaw17.MoverFences': WHATEVER THE INPUT: true; the input reads as it did. -/
def moverFencesSpec : ChangeSpec := { name := "moverFences", fn := fun _ => fun
  | [d1, d2, d3] => { results := [.lit (.bool true)], args := [d1, d2, d3] }
  | _ => none }
def moverFencesRow : OpenClaim := { program := "ytmncocmeafcpfaadoor", sum := "5e8e01e19d7cb656008ddef73e8ae63c4f0d00abc33d9919ed86e325ef5e924e", func := "amphora/amphoralaw17.MoverFences", spec := "moverFences", unfollowed := true, recurses := true, named := ["amphora/galois.powers"], apart := false, laid := [("amphora/galois.powers", laid_amphora_galois_powers)] }
def MoverFencesSaid : Prop := moverFencesRow.holds Tryd.pinned (OpenSpec.ofChange moverFencesSpec)

/-- ITS FALSE NEIGHBOUR: 'it returns false'. Refute it at one input. -/
def moverFencesWrong : ChangeSpec := { name := "moverFences", fn := fun _ => fun
  | [d1, d2, d3] => { results := [.lit (.bool false)], args := [d1, d2, d3] }
  | _ => none }
def MoverFencesWrongFalsely : Prop := moverFencesRow.holds Tryd.pinned (OpenSpec.ofChange moverFencesWrong)

/-- 'amphoralaw17.MoverNobody': WHATEVER THE INPUT: true; the input reads as it did. -/
def moverNobodySpec : ChangeSpec := { name := "moverNobody", fn := fun _ => fun
  | [d1, d2] => { results := [.lit (.bool true)], args := [d1, d2] }
  | _ => none }
def moverNobodyRow : OpenClaim := { program := "ytmncocmeafcpfaadoor", sum := "5e8e01e19d7cb656008ddef73e8ae63c4f0d00abc33d9919ed86e325ef5e924e", func := "amphora/amphoralaw17.MoverNobody", spec := "moverNobody", unfollowed := true, recurses := true, named := ["amphora/galois.powers"], apart := false, laid := [("amphora/galois.powers", laid_amphora_galois_powers)] }
def MoverNobodySaid : Prop := moverNobodyRow.holds Tryd.pinned (OpenSpec.ofChange moverNobodySpec)

/-- ITS FALSE NEIGHBOUR: 'it returns false'. Refute it at one input. -/
def moverNobodyWrong : ChangeSpec := { name := "moverNobody", fn := fun _ => fun
  | [d1, d2] => { results := [.lit (.bool false)], args := [d1, d2] }
  | _ => none }
def MoverNobodyWrongFalsely : Prop := moverNobodyRow.holds Tryd.pinned (OpenSpec.ofChange moverNobodyWrong)

/-- 'amphoralaw18.RecodeStores': WHATEVER THE INPUT: true; the input reads as it did. -/
def recodeStoresSpec : ChangeSpec := { name := "recodeStores", fn := fun _ => fun
  | [d1, d2, d3, d4, d5, d6] => { results := [.lit (.bool true)], args := [d1, d2, d3, d4, d5, d6] }
  | _ => none }
def recodeStoresRow : OpenClaim := { program := "ytmncocmeafcpfaadoor", sum := "5e8e01e19d7cb656008ddef73e8ae63c4f0d00abc33d9919ed86e325ef5e924e", func := "amphora/amphoralaw18.RecodeStores", spec := "recodeStores", unfollowed := true, recurses := true, named := ["amphora/galois.powers", "amphora/frame.turns"], apart := false, laid := [("amphora/galois.powers", laid_amphora_galois_powers), ("amphora/frame.turns", laid_amphora_frame_turns)] }
def RecodeStoresSaid : Prop := recodeStoresRow.holds Tryd.pinned (OpenSpec.ofChange recodeStoresSpec)

/-- ITS FALSE NEIGHBOUR: 'it returns false'. Refute it at one input. -/
def recodeStoresWrong : ChangeSpec := { name := "recodeStores", fn := fun _ => fun
  | [d1, d2, d3, d4, d5, d6] => { results := [.lit (.bool false)], args := [d1, d2, d3, d4, d5, d6] }
  | _ => none }
def RecodeStoresWrongFalsely : Prop := recodeStoresRow.holds Tryd.pinned (OpenSpec.ofChange recodeStoresWrong)

/-- 'amphoralaw18.RecodeForgets': WHATEVER THE INPUT: true; the input reads as it did. -/
def recodeForgetsSpec : ChangeSpec := { name := "recodeForgets", fn := fun _ => fun
  | [d1, d2] => { results := [.lit (.bool true)], args := [d1, d2] }
  | _ => none }
def recodeForgetsRow : OpenClaim := { program := "ytmncocmeafcpfaadoor", sum := "5e8e01e19d7cb656008ddef73e8ae63c4f0d00abc33d9919ed86e325ef5e924e", func := "amphora/amphoralaw18.RecodeForgets", spec := "recodeForgets", unfollowed := true, recurses := true, named := ["amphora/galois.powers", "amphora/frame.turns"], apart := false, laid := [("amphora/galois.powers", laid_amphora_galois_powers), ("amphora/frame.turns", laid_amphora_frame_turns)] }
def RecodeForgetsSaid : Prop := recodeForgetsRow.holds Tryd.pinned (OpenSpec.ofChange recodeForgetsSpec)

/-- ITS FALSE NEIGHBOUR: 'it returns false'. Refute it at one input. -/
def recodeForgetsWrong : ChangeSpec := { name := "recodeForgets", fn := fun _ => fun
  | [d1, d2] => { results := [.lit (.bool false)], args := [d1, d2] }
  | _ => none }
def RecodeForgetsWrongFalsely : Prop := recodeForgetsRow.holds Tryd.pinned (OpenSpec.ofChange recodeForgetsWrong)

/-- 'amphoralaw18.RecodeNobody': WHATEVER THE INPUT: true; the input reads as it did. -/
def recodeNobodySpec : ChangeSpec := { name := "recodeNobody", fn := fun _ => fun
  | [d1, d2] => { results := [.lit (.bool true)], args := [d1, d2] }
  | _ => none }
def recodeNobodyRow : OpenClaim := { program := "ytmncocmeafcpfaadoor", sum := "5e8e01e19d7cb656008ddef73e8ae63c4f0d00abc33d9919ed86e325ef5e924e", func := "amphora/amphoralaw18.RecodeNobody", spec := "recodeNobody", unfollowed := true, recurses := true, named := ["amphora/galois.powers", "amphora/frame.turns"], apart := false, laid := [("amphora/galois.powers", laid_amphora_galois_powers), ("amphora/frame.turns", laid_amphora_frame_turns)] }
def RecodeNobodySaid : Prop := recodeNobodyRow.holds Tryd.pinned (OpenSpec.ofChange recodeNobodySpec)

/-- ITS FALSE NEIGHBOUR: 'it returns false'. Refute it at one input. -/
def recodeNobodyWrong : ChangeSpec := { name := "recodeNobody", fn := fun _ => fun
  | [d1, d2] => { results := [.lit (.bool false)], args := [d1, d2] }
  | _ => none }
def RecodeNobodyWrongFalsely : Prop := recodeNobodyRow.holds Tryd.pinned (OpenSpec.ofChange recodeNobodyWrong)

/-- 'amphoralaw18.RecodeWaits': WHATEVER THE INPUT: true; the input reads as it did. -/
def recodeWaitsSpec : ChangeSpec := { name := "recodeWaits", fn := fun _ => fun
  | [d1, d2] => { results := [.lit (.bool true)], args := [d1, d2] }
  | _ => none }
def recodeWaitsRow : OpenClaim := { program := "ytmncocmeafcpfaadoor", sum := "5e8e01e19d7cb656008ddef73e8ae63c4f0d00abc33d9919ed86e325ef5e924e", func := "amphora/amphoralaw18.RecodeWaits", spec := "recodeWaits", unfollowed := true, recurses := true, named := ["amphora/galois.powers", "amphora/frame.turns"], apart := false, laid := [("amphora/galois.powers", laid_amphora_galois_powers), ("amphora/frame.turns", laid_amphora_frame_turns)] }
def RecodeWaitsSaid : Prop := recodeWaitsRow.holds Tryd.pinned (OpenSpec.ofChange recodeWaitsSpec)

/-- ITS FALSE NEIGHBOUR: 'it returns false'. Refute it at one input. -/
def recodeWaitsWrong : ChangeSpec := { name := "recodeWaits", fn := fun _ => fun
  | [d1, d2] => { results := [.lit (.bool false)], args := [d1, d2] }
  | _ => none }
def RecodeWaitsWrongFalsely : Prop := recodeWaitsRow.holds Tryd.pinned (OpenSpec.ofChange recodeWaitsWrong)

/-- 'amphoralaw19.CoordOnce': WHATEVER THE INPUT: true; the input reads as it did. -/
def coordOnceSpec : ChangeSpec := { name := "coordOnce", fn := fun _ => fun
  | [d1, d2] => { results := [.lit (.bool true)], args := [d1, d2] }
  | _ => none }
def coordOnceRow : OpenClaim := { program := "ytmncocmeafcpfaadoor", sum := "5e8e01e19d7cb656008ddef73e8ae63c4f0d00abc33d9919ed86e325ef5e924e", func := "amphora/amphoralaw19.CoordOnce", spec := "coordOnce", unfollowed := true, recurses := true, named := ["amphora/frame.turns", "amphora/galois.powers"], apart := false, laid := [("amphora/galois.powers", laid_amphora_galois_powers), ("amphora/frame.turns", laid_amphora_frame_turns)] }
def CoordOnceSaid : Prop := coordOnceRow.holds Tryd.pinned (OpenSpec.ofChange coordOnceSpec)

/-- ITS FALSE NEIGHBOUR: 'it returns false'. Refute it at one input. -/
def coordOnceWrong : ChangeSpec := { name := "coordOnce", fn := fun _ => fun
  | [d1, d2] => { results := [.lit (.bool false)], args := [d1, d2] }
  | _ => none }
def CoordOnceWrongFalsely : Prop := coordOnceRow.holds Tryd.pinned (OpenSpec.ofChange coordOnceWrong)

/-- 'amphoralaw19.CoordNobody': WHATEVER THE INPUT: true; the input reads as it did. -/
def coordNobodySpec : ChangeSpec := { name := "coordNobody", fn := fun _ => fun
  | [d] => { results := [.lit (.bool true)], args := [d] }
  | _ => none }
def coordNobodyRow : OpenClaim := { program := "ytmncocmeafcpfaadoor", sum := "5e8e01e19d7cb656008ddef73e8ae63c4f0d00abc33d9919ed86e325ef5e924e", func := "amphora/amphoralaw19.CoordNobody", spec := "coordNobody", unfollowed := true, recurses := true, named := ["amphora/galois.powers", "amphora/frame.turns"], apart := false, laid := [("amphora/galois.powers", laid_amphora_galois_powers), ("amphora/frame.turns", laid_amphora_frame_turns)] }
def CoordNobodySaid : Prop := coordNobodyRow.holds Tryd.pinned (OpenSpec.ofChange coordNobodySpec)

/-- ITS FALSE NEIGHBOUR: 'it returns false'. Refute it at one input. -/
def coordNobodyWrong : ChangeSpec := { name := "coordNobody", fn := fun _ => fun
  | [d] => { results := [.lit (.bool false)], args := [d] }
  | _ => none }
def CoordNobodyWrongFalsely : Prop := coordNobodyRow.holds Tryd.pinned (OpenSpec.ofChange coordNobodyWrong)

/-- 'amphoralaw19.CoordRefused': WHATEVER THE INPUT: true; the input reads as it did. -/
def coordRefusedSpec : ChangeSpec := { name := "coordRefused", fn := fun _ => fun
  | [d1, d2, d3] => { results := [.lit (.bool true)], args := [d1, d2, d3] }
  | _ => none }
def coordRefusedRow : OpenClaim := { program := "ytmncocmeafcpfaadoor", sum := "5e8e01e19d7cb656008ddef73e8ae63c4f0d00abc33d9919ed86e325ef5e924e", func := "amphora/amphoralaw19.CoordRefused", spec := "coordRefused", unfollowed := true, recurses := true, named := ["amphora/frame.turns", "amphora/galois.powers"], apart := false, laid := [("amphora/galois.powers", laid_amphora_galois_powers), ("amphora/frame.turns", laid_amphora_frame_turns)] }
def CoordRefusedSaid : Prop := coordRefusedRow.holds Tryd.pinned (OpenSpec.ofChange coordRefusedSpec)

/-- ITS FALSE NEIGHBOUR: 'it returns false'. Refute it at one input. -/
def coordRefusedWrong : ChangeSpec := { name := "coordRefused", fn := fun _ => fun
  | [d1, d2, d3] => { results := [.lit (.bool false)], args := [d1, d2, d3] }
  | _ => none }
def CoordRefusedWrongFalsely : Prop := coordRefusedRow.holds Tryd.pinned (OpenSpec.ofChange coordRefusedWrong)

/- THE SECOND FORM. 'bulk': how many values and letters a reading holds, each counted each time it is reached (what is shared counts as often as it is met; a slice's spare places count too). A statement '..UptoSaid' is the law's where the arguments, and the package variables that the reading takes, are together of bulk at most 1048576: NARROWER than '..Said'. Prove '..Said' where nothing that the law and all that it calls make is longer than what came in: it says more and counts as full. Else prove '..UptoSaid'. A law counts once. -/
mutual
def uptoBulk {H : Type} : DataW H → Nat
  | .lit (.string bytes) => bytes.length + 1
  | .lit _ => 1
  | .nil => 1
  | .ptr d => uptoBulk d + 1
  | .slice elems spare => uptoBulkAll elems + uptoBulkAll spare + 1
  | .agg parts => uptoBulkAll parts + 1
  | .iface _ d => uptoBulk d + 1
  | .map entries => uptoBulkEntries entries + 1
  | .held _ => 1
def uptoBulkAll {H : Type} : List (DataW H) → Nat
  | [] => 0
  | d :: r => uptoBulk d + uptoBulkAll r
def uptoBulkEntries {H : Type} : List (Lit × DataW H) → Nat
  | [] => 0
  | x :: r => uptoBulkEntry x + uptoBulkEntries r
def uptoBulkEntry {H : Type} : Lit × DataW H → Nat
  | (.string bytes, d) => bytes.length + uptoBulk d + 1
  | (_, d) => uptoBulk d + 1
 end
def uptoSmall : (H : Type) → List (DataW H) → Bool := fun _ ds => decide (uptoBulkAll ds ≤ 1048576)
def OpenSpec.upto (s : _root_.Go.ChangeSpec) : _root_.Go.OpenSpec := { _root_.Go.OpenSpec.ofChange s with cond := some uptoSmall }

/-- 'amphoralaw17.MoverBrings', WHERE WHAT IT READS IS OF BULK AT MOST 1048576: true; the input reads as it did. -/
def moverBringsUptoRow : OpenClaim := { program := "ytmncocmeafcpfaadoor", sum := "5e8e01e19d7cb656008ddef73e8ae63c4f0d00abc33d9919ed86e325ef5e924e", func := "amphora/amphoralaw17.MoverBrings", spec := "moverBrings", unfollowed := true, recurses := true, named := ["amphora/galois.powers"], apart := false, laid := [("amphora/galois.powers", laid_amphora_galois_powers)], narrowed := true }
def MoverBringsUptoSaid : Prop := moverBringsUptoRow.holds Tryd.pinned (OpenSpec.upto moverBringsSpec)

/-- 'amphoralaw17.MoverFences', WHERE WHAT IT READS IS OF BULK AT MOST 1048576: true; the input reads as it did. -/
def moverFencesUptoRow : OpenClaim := { program := "ytmncocmeafcpfaadoor", sum := "5e8e01e19d7cb656008ddef73e8ae63c4f0d00abc33d9919ed86e325ef5e924e", func := "amphora/amphoralaw17.MoverFences", spec := "moverFences", unfollowed := true, recurses := true, named := ["amphora/galois.powers"], apart := false, laid := [("amphora/galois.powers", laid_amphora_galois_powers)], narrowed := true }
def MoverFencesUptoSaid : Prop := moverFencesUptoRow.holds Tryd.pinned (OpenSpec.upto moverFencesSpec)

/-- 'amphoralaw17.MoverNobody', WHERE WHAT IT READS IS OF BULK AT MOST 1048576: true; the input reads as it did. -/
def moverNobodyUptoRow : OpenClaim := { program := "ytmncocmeafcpfaadoor", sum := "5e8e01e19d7cb656008ddef73e8ae63c4f0d00abc33d9919ed86e325ef5e924e", func := "amphora/amphoralaw17.MoverNobody", spec := "moverNobody", unfollowed := true, recurses := true, named := ["amphora/galois.powers"], apart := false, laid := [("amphora/galois.powers", laid_amphora_galois_powers)], narrowed := true }
def MoverNobodyUptoSaid : Prop := moverNobodyUptoRow.holds Tryd.pinned (OpenSpec.upto moverNobodySpec)

/-- 'amphoralaw18.RecodeStores', WHERE WHAT IT READS IS OF BULK AT MOST 1048576: true; the input reads as it did. -/
def recodeStoresUptoRow : OpenClaim := { program := "ytmncocmeafcpfaadoor", sum := "5e8e01e19d7cb656008ddef73e8ae63c4f0d00abc33d9919ed86e325ef5e924e", func := "amphora/amphoralaw18.RecodeStores", spec := "recodeStores", unfollowed := true, recurses := true, named := ["amphora/galois.powers", "amphora/frame.turns"], apart := false, laid := [("amphora/galois.powers", laid_amphora_galois_powers), ("amphora/frame.turns", laid_amphora_frame_turns)], narrowed := true }
def RecodeStoresUptoSaid : Prop := recodeStoresUptoRow.holds Tryd.pinned (OpenSpec.upto recodeStoresSpec)

/-- 'amphoralaw18.RecodeForgets', WHERE WHAT IT READS IS OF BULK AT MOST 1048576: true; the input reads as it did. -/
def recodeForgetsUptoRow : OpenClaim := { program := "ytmncocmeafcpfaadoor", sum := "5e8e01e19d7cb656008ddef73e8ae63c4f0d00abc33d9919ed86e325ef5e924e", func := "amphora/amphoralaw18.RecodeForgets", spec := "recodeForgets", unfollowed := true, recurses := true, named := ["amphora/galois.powers", "amphora/frame.turns"], apart := false, laid := [("amphora/galois.powers", laid_amphora_galois_powers), ("amphora/frame.turns", laid_amphora_frame_turns)], narrowed := true }
def RecodeForgetsUptoSaid : Prop := recodeForgetsUptoRow.holds Tryd.pinned (OpenSpec.upto recodeForgetsSpec)

/-- 'amphoralaw18.RecodeNobody', WHERE WHAT IT READS IS OF BULK AT MOST 1048576: true; the input reads as it did. -/
def recodeNobodyUptoRow : OpenClaim := { program := "ytmncocmeafcpfaadoor", sum := "5e8e01e19d7cb656008ddef73e8ae63c4f0d00abc33d9919ed86e325ef5e924e", func := "amphora/amphoralaw18.RecodeNobody", spec := "recodeNobody", unfollowed := true, recurses := true, named := ["amphora/galois.powers", "amphora/frame.turns"], apart := false, laid := [("amphora/galois.powers", laid_amphora_galois_powers), ("amphora/frame.turns", laid_amphora_frame_turns)], narrowed := true }
def RecodeNobodyUptoSaid : Prop := recodeNobodyUptoRow.holds Tryd.pinned (OpenSpec.upto recodeNobodySpec)

/-- 'amphoralaw18.RecodeWaits', WHERE WHAT IT READS IS OF BULK AT MOST 1048576: true; the input reads as it did. -/
def recodeWaitsUptoRow : OpenClaim := { program := "ytmncocmeafcpfaadoor", sum := "5e8e01e19d7cb656008ddef73e8ae63c4f0d00abc33d9919ed86e325ef5e924e", func := "amphora/amphoralaw18.RecodeWaits", spec := "recodeWaits", unfollowed := true, recurses := true, named := ["amphora/galois.powers", "amphora/frame.turns"], apart := false, laid := [("amphora/galois.powers", laid_amphora_galois_powers), ("amphora/frame.turns", laid_amphora_frame_turns)], narrowed := true }
def RecodeWaitsUptoSaid : Prop := recodeWaitsUptoRow.holds Tryd.pinned (OpenSpec.upto recodeWaitsSpec)

/-- 'amphoralaw19.CoordOnce', WHERE WHAT IT READS IS OF BULK AT MOST 1048576: true; the input reads as it did. -/
def coordOnceUptoRow : OpenClaim := { program := "ytmncocmeafcpfaadoor", sum := "5e8e01e19d7cb656008ddef73e8ae63c4f0d00abc33d9919ed86e325ef5e924e", func := "amphora/amphoralaw19.CoordOnce", spec := "coordOnce", unfollowed := true, recurses := true, named := ["amphora/frame.turns", "amphora/galois.powers"], apart := false, laid := [("amphora/galois.powers", laid_amphora_galois_powers), ("amphora/frame.turns", laid_amphora_frame_turns)], narrowed := true }
def CoordOnceUptoSaid : Prop := coordOnceUptoRow.holds Tryd.pinned (OpenSpec.upto coordOnceSpec)

/-- 'amphoralaw19.CoordNobody', WHERE WHAT IT READS IS OF BULK AT MOST 1048576: true; the input reads as it did. -/
def coordNobodyUptoRow : OpenClaim := { program := "ytmncocmeafcpfaadoor", sum := "5e8e01e19d7cb656008ddef73e8ae63c4f0d00abc33d9919ed86e325ef5e924e", func := "amphora/amphoralaw19.CoordNobody", spec := "coordNobody", unfollowed := true, recurses := true, named := ["amphora/galois.powers", "amphora/frame.turns"], apart := false, laid := [("amphora/galois.powers", laid_amphora_galois_powers), ("amphora/frame.turns", laid_amphora_frame_turns)], narrowed := true }
def CoordNobodyUptoSaid : Prop := coordNobodyUptoRow.holds Tryd.pinned (OpenSpec.upto coordNobodySpec)

/-- 'amphoralaw19.CoordRefused', WHERE WHAT IT READS IS OF BULK AT MOST 1048576: true; the input reads as it did. -/
def coordRefusedUptoRow : OpenClaim := { program := "ytmncocmeafcpfaadoor", sum := "5e8e01e19d7cb656008ddef73e8ae63c4f0d00abc33d9919ed86e325ef5e924e", func := "amphora/amphoralaw19.CoordRefused", spec := "coordRefused", unfollowed := true, recurses := true, named := ["amphora/frame.turns", "amphora/galois.powers"], apart := false, laid := [("amphora/galois.powers", laid_amphora_galois_powers), ("amphora/frame.turns", laid_amphora_frame_turns)], narrowed := true }
def CoordRefusedUptoSaid : Prop := coordRefusedUptoRow.holds Tryd.pinned (OpenSpec.upto coordRefusedSpec)

end Rows
end Go.Proofs.YtmncocmeafcpfaaDoor
