/- The law StripeJoins, called with what comes in. -/
import Derived.Test.YtbmhfclknilcoaaDoorLjn
import Derived.Test.YtbmhfclknilcoaaDoorCn
namespace Go.Proofs.YtbmhfclknilcoaaDoor
open Go.ChangeShapes Go.WideShapes Go.ChangeAt Go.RowKit
theorem stripeJoins_call {w : World} {v : Value} {s : Sh} (K : Int) (_wK : (Lit.int .i64 K).wf = true) (M : Int) (_wM : (Lit.int .i64 M).wf = true) (z : Int) (_wz : (Lit.int .i64 z).wf = true) (h : Tw w v s) (w' : World) (hw : w' = w) (hp : Pows w') :
    Calls Tryd.prog 4 #[.agg #[.int .i64 K, .int .i64 M], .int .i64 z, v] w' fun e w'' => e = .returned (.bool true) ∧ Below w'.heap.size w' w'' := by
  subst hw
  exact (joins_walk K M z v s w' h hp).mono fun e w'' ⟨he, hk⟩ => ⟨he, hk.below⟩
end Go.Proofs.YtbmhfclknilcoaaDoor
