/- The law MatrixInverse, called with what comes in. -/
import Derived.Test.YtelbnflmchgjlaaDoorLiv
import Derived.Test.YtelbnflmchgjlaaDoorCn
namespace Go.Proofs.YtelbnflmchgjlaaDoor
open Go.ChangeShapes Go.WideShapes Go.ChangeAt Go.RowKit
theorem matrixInverse_call {w : World} {a : Value} {la : Nat} {za : Nat → Int} (ha : Ns .u8 w a la za) (n : Int) (_wn : (Lit.int .i64 n).wf = true) (w' : World) (hw : w' = w) (hp : Pows w') :
    Calls Tryd.prog 5 #[a, .int .i64 n] w' fun e w'' => e = .returned (.bool true) ∧ Below w'.heap.size w' w'' := by
  subst hw
  obtain ⟨fa, ha⟩ := bs_of_ns ha
  exact (inverse_walk a la fa n w' ha hp).mono fun e w'' ⟨he, hk⟩ => ⟨he, hk.below⟩
end Go.Proofs.YtelbnflmchgjlaaDoor
