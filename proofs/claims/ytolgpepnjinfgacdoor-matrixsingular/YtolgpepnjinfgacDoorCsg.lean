/- The law MatrixSingular, called with what comes in. -/
import Derived.Test.YtolgpepnjinfgacDoorLsg
import Derived.Test.YtolgpepnjinfgacDoorCn
namespace Go.Proofs.YtolgpepnjinfgacDoor
open Go.ChangeShapes Go.WideShapes Go.ChangeAt Go.RowKit
theorem matrixSingular_call {w : World} {a : Value} {la : Nat} {za : Nat → Int} (ha : Ns .u8 w a la za) (n : Int) (_wn : (Lit.int .i64 n).wf = true) (i : Int) (_wi : (Lit.int .i64 i).wf = true) (w' : World) (hw : w' = w) (hp : Pows w') :
    Calls Tryd.prog 3 #[a, .int .i64 n, .int .i64 i] w' fun e w'' => e = .returned (.bool true) ∧ Below w'.heap.size w' w'' := by
  subst hw
  obtain ⟨fa, ha⟩ := bs_of_ns ha
  exact (singular_walk a la fa n i w' ha hp).mono fun e w'' ⟨he, hk⟩ => ⟨he, hk.below⟩
end Go.Proofs.YtolgpepnjinfgacDoor
