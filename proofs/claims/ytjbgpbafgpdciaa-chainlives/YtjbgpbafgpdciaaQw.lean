/- Messages in memory; copies of them. -/
import Derived.Test.YtjbgpbafgpdciaaQv
namespace Go.Proofs.Ytjbgpbafgpdciaa
set_option linter.unusedVariables false
open Go.RowKit Go.Deep Go.Maps

end Go.Proofs.Ytjbgpbafgpdciaa
