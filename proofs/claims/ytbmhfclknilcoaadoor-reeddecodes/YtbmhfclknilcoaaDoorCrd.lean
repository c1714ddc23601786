/- The law ReedDecodes, called with what comes in. -/
import Derived.Test.YtbmhfclknilcoaaDoorLrd
import Derived.Test.YtbmhfclknilcoaaDoorCn
namespace Go.Proofs.YtbmhfclknilcoaaDoor
open Go.ChangeShapes Go.WideShapes Go.ChangeAt Go.RowKit
theorem reedDecodes_call {w : World} {v : Value} {s : Sh} (K : Int) (wK : (Lit.int .i64 K).wf = true) (M : Int) (_wM : (Lit.int .i64 M).wf = true) (h : Tw w v s) (i : Int) (_wi : (Lit.int .i64 i).wf = true) (w' : World) (hw : w' = w) (hp : Pows w') :
    Calls Tryd.prog 3 #[.agg #[.int .i64 K, .int .i64 M], v, .int .i64 i] w' fun e w'' => e = .returned (.bool true) ∧ Below w'.heap.size w' w'' := by
  subst hw
  obtain ⟨l0, u0⟩ := bounds_i64 wK
  exact (decodes_walk K M v s i w' (fun h1 => by unfold wrap64; omega) h hp).mono fun e w'' ⟨he, hk⟩ => ⟨he, hk.below⟩
end Go.Proofs.YtbmhfclknilcoaaDoor
