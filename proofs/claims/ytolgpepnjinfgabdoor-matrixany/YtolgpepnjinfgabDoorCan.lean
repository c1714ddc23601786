/- The law MatrixAny, called with what comes in. -/
import Derived.Test.YtolgpepnjinfgabDoorLan
import Derived.Test.YtolgpepnjinfgabDoorFr
namespace Go.Proofs.YtolgpepnjinfgabDoor
open Go.ChangeShapes Go.WideShapes Go.ChangeAt Go.RowKit
theorem matrixAny_call (k : Int) (_wk : (Lit.int .i64 k).wf = true) (m : Int) (_wm : (Lit.int .i64 m).wf = true) (s : Int) (_ws : (Lit.int .u64 s).wf = true) (w : World) (hp : Pows w) :
    Calls Tryd.prog 8 #[.int .i64 k, .int .i64 m, .int .u64 s] w fun e w' => e = .returned (.bool true) ∧ Below w.heap.size w w' :=
  (any_walk k m s w hp).mono fun _ _ ⟨he, hk⟩ => ⟨he, hk.below⟩
end Go.Proofs.YtolgpepnjinfgabDoor
