/- How a list of calls comes in. -/
import Derived.Test.YtfmndffgmemgpaaDoorPl5
import Derived.Test.YtfmndffgmemgpaaDoorFt
import Derived.Deep.Slices
import Derived.Deep.SlicePairs
namespace Go.Proofs.YtfmndffgmemgpaaDoor
open Go.ChangeShapes Go.WideShapes Go.ChangeAt Go.RowKit Go.Deep

end Go.Proofs.YtfmndffgmemgpaaDoor
