/- The walk of SameTexts of the same. -/
import Derived.Test.YtippipeebkkghaaGreatDoorFe2
namespace Go.Proofs.YtippipeebkkghaaGreatDoor
open Go.RowKit Go.Deep

/-- texts, as they lie: row t, text r at place r -/
def Rt (w : World) (t n : Nat) (N : Nat → List Nat) : Prop := ∃ (cp : Nat) (V : Nat → Value), n ≤ cp ∧ w.rowIs t 75 cp V ∧ ∀ r, r < n → ∃ p k c, V r = .slice p k c ∧ Rb w p k (N r)

end Go.Proofs.YtippipeebkkghaaGreatDoor
