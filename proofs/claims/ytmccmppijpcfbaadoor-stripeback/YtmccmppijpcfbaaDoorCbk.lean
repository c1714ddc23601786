/- The law StripeBack, called with what comes in. -/
import Derived.Test.YtmccmppijpcfbaaDoorLbk
import Derived.Test.YtmccmppijpcfbaaDoorCn
namespace Go.Proofs.YtmccmppijpcfbaaDoor
open Go.ChangeShapes Go.WideShapes Go.ChangeAt Go.RowKit
theorem stripeBack_call {w : World} {a2 : Value} {l2 : Nat} {z2 : Nat → Int} (a0 : Int) (_w0 : (Lit.int .i64 a0).wf = true) (a1 : Int) (_w1 : (Lit.int .i64 a1).wf = true) (h2 : Ns .u8 w a2 l2 z2) (a3 : Int) (_w3 : (Lit.int .u64 a3).wf = true) (w' : World) (hw : w' = w) (hp : Pows w') :
    Calls Tryd.prog 6 #[.int .i64 a0, .int .i64 a1, a2, .int .u64 a3] w' fun e w'' => e = .returned (.bool true) ∧ Below w'.heap.size w' w'' := by
  subst hw
  obtain ⟨f2, h2⟩ := bc_of_ns h2
  exact (back_walk a0 a1 a2 l2 f2 a3 w' h2 hp).mono fun e w'' ⟨he, hk⟩ => ⟨he, hk.below⟩
end Go.Proofs.YtmccmppijpcfbaaDoor
