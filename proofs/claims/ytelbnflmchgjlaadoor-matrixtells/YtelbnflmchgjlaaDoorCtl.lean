/- The law MatrixTells, called with what comes in. -/
import Derived.Test.YtelbnflmchgjlaaDoorLtl
import Derived.Test.YtelbnflmchgjlaaDoorCn
namespace Go.Proofs.YtelbnflmchgjlaaDoor
open Go.ChangeShapes Go.WideShapes Go.ChangeAt Go.RowKit
theorem matrixTells_call {w : World} {a b l : Value} {sa sb : Sh} {nl : Nat} {z : Nat → Int} (ha : Tw w a sa) (hb : Tw w b sb) (hl : Ns .i64 w l nl z) (w' : World) (hw : w' = w) (hp : Pows w') :
    Calls Tryd.prog 6 #[a, b, l] w' fun e w'' => e = .returned (.bool true) ∧ Below w'.heap.size w' w'' := by
  subst hw
  obtain ⟨pa, ba, oa, ca, e1, e2, e3, _⟩ := hl
  exact (tells_walk a b l sa sb nl z w' ha hb ⟨pa, ba, oa, ca, e1, e2, e3⟩ hp).mono fun e w'' ⟨he, hk⟩ => ⟨he, hk.below⟩
end Go.Proofs.YtelbnflmchgjlaaDoor
