/- The law StripeApart, called with what comes in. -/
import Derived.Test.YtokicnokinkpfaaDoorLap
import Derived.Test.YtokicnokinkpfaaDoorCn
namespace Go.Proofs.YtokicnokinkpfaaDoor
open Go.ChangeShapes Go.WideShapes Go.ChangeAt Go.RowKit
theorem stripeApart_call {w : World} {a2 : Value} {l2 : Nat} {z2 : Nat → Int} (a0 : Int) (_w0 : (Lit.int .i64 a0).wf = true) (a1 : Int) (_w1 : (Lit.int .i64 a1).wf = true) (h2 : Ns .u8 w a2 l2 z2) (a3 : Int) (_w3 : (Lit.int .i64 a3).wf = true) (a4 : Int) (_w4 : (Lit.int .i64 a4).wf = true) (w' : World) (hw : w' = w) (hp : Pows w') :
    Calls Tryd.prog 3 #[.int .i64 a0, .int .i64 a1, a2, .int .i64 a3, .int .i64 a4] w' fun e w'' => e = .returned (.bool true) ∧ Below w'.heap.size w' w'' := by
  subst hw
  obtain ⟨f2, h2⟩ := bc_of_ns h2
  exact (apart_walk a0 a1 a2 l2 f2 a3 a4 w' h2 hp).mono fun e w'' ⟨he, hk⟩ => ⟨he, hk.below⟩
end Go.Proofs.YtokicnokinkpfaaDoor
