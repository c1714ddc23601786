/- The law ReedEncodes, called with what comes in. -/
import Derived.Test.YtmccmppijpcfbaaDoorLen
import Derived.Test.YtmccmppijpcfbaaDoorCn
namespace Go.Proofs.YtmccmppijpcfbaaDoor
open Go.ChangeShapes Go.WideShapes Go.ChangeAt Go.RowKit
theorem reedEncodes_call {w : World} {v : Value} {s : Sh} (K : Int) (wK : (Lit.int .i64 K).wf = true) (M : Int) (_wM : (Lit.int .i64 M).wf = true) (h : Tw w v s) (w' : World) (hw : w' = w) (hp : Pows w') :
    Calls Tryd.prog 7 #[.agg #[.int .i64 K, .int .i64 M], v] w' fun e w'' => e = .returned (.bool true) ∧ Below w'.heap.size w' w'' := by
  subst hw
  obtain ⟨l0, u0⟩ := bounds_i64 wK
  exact (encodes_walk K M v s w' (fun h1 => by unfold wrap64; omega) h hp).mono fun e w'' ⟨he, hk⟩ => ⟨he, hk.below⟩
end Go.Proofs.YtmccmppijpcfbaaDoor
