/- The law ReedAny, called with what comes in. -/
import Derived.Test.YtmccmppijpcfbaaDoorLay
import Derived.Test.YtmccmppijpcfbaaDoorCn
namespace Go.Proofs.YtmccmppijpcfbaaDoor
open Go.ChangeShapes Go.WideShapes Go.ChangeAt Go.RowKit
theorem reedAny_call {w : World} {a3 : Value} {l3 : Nat} {z3 : Nat → Int} (a0 : Int) (_w0 : (Lit.int .i64 a0).wf = true) (a1 : Int) (_w1 : (Lit.int .i64 a1).wf = true) (a2 : Int) (_w2 : (Lit.int .i64 a2).wf = true) (h3 : Ns .u8 w a3 l3 z3) (a4 : Int) (_w4 : (Lit.int .u64 a4).wf = true) (w' : World) (hw : w' = w) (hp : Pows w') :
    Calls Tryd.prog 5 #[.int .i64 a0, .int .i64 a1, .int .i64 a2, a3, .int .u64 a4] w' fun e w'' => e = .returned (.bool true) ∧ Below w'.heap.size w' w'' := by
  subst hw
  obtain ⟨f3, h3⟩ := bs_of_ns h3
  exact (reedAny_walk a0 a1 a2 a3 l3 f3 a4 w' h3 hp).mono fun e w'' ⟨he, hk⟩ => ⟨he, hk.below⟩
end Go.Proofs.YtmccmppijpcfbaaDoor
