/- Walks of the laws FnExactIsRing, FnExactModulusOf, FnExactReduceTo. -/
import Derived.Test.YtjmecidbnoimnaaReduce
namespace Go.Proofs.Ytjmecidbnoimnaa
open Go.RowKit
set_option linter.unusedVariables false
end Go.Proofs.Ytjmecidbnoimnaa
