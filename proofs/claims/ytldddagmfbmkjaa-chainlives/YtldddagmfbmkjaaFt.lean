/- What the rows' frames share: how bytes come in, as lists that the walks take. -/
import Derived.Test.YtldddagmfbmkjaaKb
import Derived.ShutString
import Derived.ChangeOld
import Derived.Below
import Derived.SizedLaws
import Derived.Test.YtldddagmfbmkjaaRows
import Derived.ProofKit
import Derived.OpenShut
namespace Go.Proofs.Ytldddagmfbmkjaa
open Go.ChangeShapes Go.WideShapes Go.ChangeAt Go.RowKit

theorem laidOut : laidOutB Try.prog = true := by kernel_rfl

end Go.Proofs.Ytldddagmfbmkjaa
