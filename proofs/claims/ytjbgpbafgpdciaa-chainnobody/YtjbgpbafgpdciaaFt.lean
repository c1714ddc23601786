/- What the rows' frames share: how bytes come in, as lists that the walks take. -/
import Derived.Test.YtjbgpbafgpdciaaKb
import Derived.ShutString
import Derived.ChangeOld
import Derived.Below
import Derived.SizedLaws
import Derived.Test.YtjbgpbafgpdciaaRows
import Derived.ProofKit
import Derived.OpenShut
namespace Go.Proofs.Ytjbgpbafgpdciaa
open Go.ChangeShapes Go.WideShapes Go.ChangeAt Go.RowKit

theorem laidOut : laidOutB Try.prog = true := by kernel_rfl

end Go.Proofs.Ytjbgpbafgpdciaa
