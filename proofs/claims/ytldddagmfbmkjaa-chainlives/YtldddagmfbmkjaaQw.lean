/- Messages in memory; copies of them. -/
import Derived.Test.YtldddagmfbmkjaaQv
namespace Go.Proofs.Ytldddagmfbmkjaa
set_option linter.unusedVariables false
open Go.RowKit Go.Deep Go.Maps

end Go.Proofs.Ytldddagmfbmkjaa
