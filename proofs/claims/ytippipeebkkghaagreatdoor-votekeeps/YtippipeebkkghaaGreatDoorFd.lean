/- How a list of calls comes in. -/
import Derived.Test.YtippipeebkkghaaGreatDoorPl5
import Derived.Test.YtippipeebkkghaaGreatDoorFt
import Derived.Deep.Slices
import Derived.Deep.SlicePairs
namespace Go.Proofs.YtippipeebkkghaaGreatDoor
open Go.ChangeShapes Go.WideShapes Go.ChangeAt Go.RowKit Go.Deep

end Go.Proofs.YtippipeebkkghaaGreatDoor
