/- Walks of the laws FnExactIsRing, FnExactModulusOf, FnExactReduceTo. -/
import Derived.Test.YtghhjeebcpcepaaDoorReduce
namespace Go.Proofs.YtghhjeebcpcepaaDoor
open Go.RowKit
set_option linter.unusedVariables false
end Go.Proofs.YtghhjeebcpcepaaDoor
