/- A shelf: Store. -/
import Derived.Test.YtippipeebkkghaaGreatDoorIl
import Derived.Deep.DeepCutAuto
namespace Go.Proofs.YtippipeebkkghaaGreatDoor
set_option linter.unusedVariables false
set_option linter.unusedSimpArgs false
open Go.RowKit Go.Deep Go.Maps

section
variable {w : World} {Z : Nat → Prop} {sh mp g bp d m gf s a b c e y : Nat} {dur : List Nat} {h : List Rc}

end
end Go.Proofs.YtippipeebkkghaaGreatDoor
