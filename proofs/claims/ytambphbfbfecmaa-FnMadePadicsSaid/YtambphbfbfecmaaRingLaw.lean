/- Walks of the laws FnExactIsRing, FnExactModulusOf, FnExactReduceTo. -/
import Derived.Test.YtambphbfbfecmaaReduce
namespace Go.Proofs.Ytambphbfbfecmaa
open Go.RowKit
set_option linter.unusedVariables false
end Go.Proofs.Ytambphbfbfecmaa
