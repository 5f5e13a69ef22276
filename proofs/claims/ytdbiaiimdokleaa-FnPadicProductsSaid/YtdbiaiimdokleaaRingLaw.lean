/- Walks of the laws FnExactIsRing, FnExactModulusOf, FnExactReduceTo. -/
import Derived.Test.YtdbiaiimdokleaaReduce
namespace Go.Proofs.Ytdbiaiimdokleaa
open Go.RowKit
set_option linter.unusedVariables false
end Go.Proofs.Ytdbiaiimdokleaa
