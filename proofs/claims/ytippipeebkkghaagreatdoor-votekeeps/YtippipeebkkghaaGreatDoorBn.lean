/- Texts that are the same; texts that are gathered; what a lost record leaves. -/
import Derived.Test.YtippipeebkkghaaGreatDoorBm
import Derived.Test.YtippipeebkkghaaGreatDoorSt
namespace Go.Proofs.YtippipeebkkghaaGreatDoor
set_option linter.unusedVariables false
set_option linter.unusedSimpArgs false
open Go.RowKit Go.Deep

end Go.Proofs.YtippipeebkkghaaGreatDoor
