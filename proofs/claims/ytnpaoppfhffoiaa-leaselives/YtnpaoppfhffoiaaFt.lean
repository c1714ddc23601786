/- What the rows' frames share: how bytes come in, as lists that the walks take. -/
import Derived.Test.YtnpaoppfhffoiaaKb
import Derived.ShutString
import Derived.ChangeOld
import Derived.Below
import Derived.SizedLaws
import Derived.Test.YtnpaoppfhffoiaaRows
import Derived.ProofKit
import Derived.OpenShut
namespace Go.Proofs.Ytnpaoppfhffoiaa
open Go.ChangeShapes Go.WideShapes Go.ChangeAt Go.RowKit

theorem laidOut : laidOutB Try.prog = true := by kernel_rfl

end Go.Proofs.Ytnpaoppfhffoiaa
