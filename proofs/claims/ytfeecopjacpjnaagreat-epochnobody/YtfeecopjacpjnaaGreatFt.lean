/- What the rows' frames share: how bytes come in, as lists that the walks take. -/
import Derived.Test.YtfeecopjacpjnaaGreatKb
import Derived.ShutString
import Derived.ChangeOld
import Derived.Below
import Derived.SizedLaws
import Derived.Test.YtfeecopjacpjnaaGreatRows
import Derived.ProofKit
import Derived.OpenShut
namespace Go.Proofs.YtfeecopjacpjnaaGreat
open Go.ChangeShapes Go.WideShapes Go.ChangeAt Go.RowKit

theorem laidOut : laidOutB Tryz.prog = true := by kernel_rfl

end Go.Proofs.YtfeecopjacpjnaaGreat
