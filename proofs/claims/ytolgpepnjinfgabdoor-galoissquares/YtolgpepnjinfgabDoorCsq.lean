/- The law GaloisSquares, called with what comes in. -/
import Derived.Test.YtolgpepnjinfgabDoorSq
import Derived.Test.YtolgpepnjinfgabDoorFr
namespace Go.Proofs.YtolgpepnjinfgabDoor
open Go.ChangeShapes Go.WideShapes Go.ChangeAt Go.RowKit
theorem galoisSquares_call (a : Int) (wa : (Lit.int .u8 a).wf = true) (b : Int) (wb : (Lit.int .u8 b).wf = true) (w : World) (hp : Pows w) :
    Calls Tryd.prog 3 #[.int .u8 a, .int .u8 b] w fun e w' => e = .returned (.bool true) ∧ Below w.heap.size w w' := by
  obtain ⟨l0, u0⟩ := bounds_u8 wa
  obtain ⟨l1, u1⟩ := bounds_u8 wb
  obtain ⟨x, rfl⟩ := Int.eq_ofNat_of_zero_le l0
  obtain ⟨y, rfl⟩ := Int.eq_ofNat_of_zero_le l1
  exact (squares_walk x y w (by omega) (by omega) hp).mono fun e w' ⟨he, n, hw⟩ => ⟨he, hw ▸ below_drewN w n⟩
end Go.Proofs.YtolgpepnjinfgabDoor
