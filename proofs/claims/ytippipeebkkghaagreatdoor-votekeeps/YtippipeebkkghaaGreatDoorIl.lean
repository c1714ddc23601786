/- A shelf: Fetch. -/
import Derived.Test.YtippipeebkkghaaGreatDoorIk
namespace Go.Proofs.YtippipeebkkghaaGreatDoor
set_option linter.unusedVariables false
set_option linter.unusedSimpArgs false
open Go.RowKit Go.Deep Go.Maps

end Go.Proofs.YtippipeebkkghaaGreatDoor
