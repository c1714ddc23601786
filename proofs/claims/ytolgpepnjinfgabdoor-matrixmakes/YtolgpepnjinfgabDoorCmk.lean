/- The law MatrixMakes, called with what comes in. -/
import Derived.Test.YtolgpepnjinfgabDoorLmk
import Derived.Test.YtolgpepnjinfgabDoorFr
namespace Go.Proofs.YtolgpepnjinfgabDoor
open Go.ChangeShapes Go.WideShapes Go.ChangeAt Go.RowKit
theorem matrixMakes_call (n : Int) (_wn : (Lit.int .i64 n).wf = true) (K : Int) (wk : (Lit.int .i64 K).wf = true) (M : Int) (_wm : (Lit.int .i64 M).wf = true) (w : World) (hp : Pows w) :
    Calls Tryd.prog 5 #[.int .i64 n, .agg #[.int .i64 K, .int .i64 M]] w fun e w' => e = .returned (.bool true) ∧ Below w.heap.size w w' := by
  obtain ⟨l0, u0⟩ := bounds_i64 wk
  have hw : 1 ≤ K → wrap64 (255 - K) = 255 - K := fun h => by unfold wrap64; omega
  by_cases h : n ≤ 300
  · exact (makes_few n K M w hp hw h).mono fun _ _ ⟨he, hk⟩ => ⟨he, hk.below⟩
  · exact (makes_many n K M w hp hw (by omega)).mono fun _ _ ⟨he, hk⟩ => ⟨he, hk.below⟩
end Go.Proofs.YtolgpepnjinfgabDoor
