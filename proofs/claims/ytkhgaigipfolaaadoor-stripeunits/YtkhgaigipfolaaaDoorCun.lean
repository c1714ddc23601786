/- The law StripeUnits, called with what comes in. -/
import Derived.Test.YtkhgaigipfolaaaDoorLun
import Derived.Test.YtkhgaigipfolaaaDoorCn
namespace Go.Proofs.YtkhgaigipfolaaaDoor
open Go.ChangeShapes Go.WideShapes Go.ChangeAt Go.RowKit
theorem stripeUnits_call {w : World} {a2 : Value} {l2 : Nat} {z2 : Nat → Int} (a0 : Int) (_w0 : (Lit.int .i64 a0).wf = true) (a1 : Int) (_w1 : (Lit.int .i64 a1).wf = true) (h2 : Ns .u8 w a2 l2 z2) (w' : World) (hw : w' = w) (hp : Pows w') :
    Calls Tryd.prog 6 #[.int .i64 a0, .int .i64 a1, a2] w' fun e w'' => e = .returned (.bool true) ∧ Below w'.heap.size w' w'' := by
  subst hw
  obtain ⟨f2, h2⟩ := bc_of_ns h2
  exact (units_walk a0 a1 a2 l2 f2 w' h2 hp).mono fun e w'' ⟨he, hk⟩ => ⟨he, hk.below⟩
end Go.Proofs.YtkhgaigipfolaaaDoor
