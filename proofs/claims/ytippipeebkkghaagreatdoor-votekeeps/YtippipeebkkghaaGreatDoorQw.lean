/- Messages in memory; copies of them. -/
import Derived.Test.YtippipeebkkghaaGreatDoorQv
namespace Go.Proofs.YtippipeebkkghaaGreatDoor
set_option linter.unusedVariables false
open Go.RowKit Go.Deep Go.Maps

end Go.Proofs.YtippipeebkkghaaGreatDoor
