/- The drawn arguments of ValuationOf. -/
import Derived.Test.YtmkelfkbbdfjdaaDrawPrime
namespace Go.Proofs.Ytmkelfkbbdfjdaa
open Go.RowKit
set_option linter.unusedVariables false
end Go.Proofs.Ytmkelfkbbdfjdaa
