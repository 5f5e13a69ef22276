/- The drawn arguments of ValuationOf. -/
import Derived.Test.YtmggcoacaijnjaaDrawPrime
namespace Go.Proofs.Ytmggcoacaijnjaa
open Go.RowKit
set_option linter.unusedVariables false
end Go.Proofs.Ytmggcoacaijnjaa
