/- The drawn arguments of ValuationOf. -/
import Derived.Test.YtgckamlibbjgcaaDrawPrime
namespace Go.Proofs.Ytgckamlibbjgcaa
open Go.RowKit
set_option linter.unusedVariables false
end Go.Proofs.Ytgckamlibbjgcaa
