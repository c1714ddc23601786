/- The law MatrixBrackets, called with what comes in. -/
import Derived.Test.YtolgpepnjinfgabDoorLbr
import Derived.Test.YtolgpepnjinfgabDoorCn
namespace Go.Proofs.YtolgpepnjinfgabDoor
open Go.ChangeShapes Go.WideShapes Go.ChangeAt Go.RowKit
theorem matrixBrackets_call {w : World} {a b c : Value} {la lb lc : Nat} {za zb zc : Nat → Int} (ha : Ns .u8 w a la za) (hb : Ns .u8 w b lb zb) (hc : Ns .u8 w c lc zc) (n : Int) (_wn : (Lit.int .i64 n).wf = true) (w' : World) (hw : w' = w) (hp : Pows w') :
    Calls Tryd.prog 6 #[a, b, c, .int .i64 n] w' fun e w'' => e = .returned (.bool true) ∧ Below w'.heap.size w' w'' := by
  subst hw
  obtain ⟨fa, ha⟩ := bs_of_ns ha
  obtain ⟨fb, hb⟩ := bs_of_ns hb
  obtain ⟨fc, hc⟩ := bs_of_ns hc
  exact (brackets_walk a b c la lb lc fa fb fc n w' ha hb hc hp).mono fun e w'' ⟨he, hk⟩ => ⟨he, hk.below⟩
end Go.Proofs.YtolgpepnjinfgabDoor
