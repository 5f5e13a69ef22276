/- Contracts of the walk: impl.isBasePrime, spec.l01Small, impl.divideOut, spec.l01Valuation and both ValuationOf; divideOut's and l01Valuation's ask that p is at least 2 and n a value other than 0. -/
import Derived.Test.YtghhjeebcpcepaaDoorGcd
import Derived.Test.YtghhjeebcpcepaaDoorValMath
import Derived.Test.YtghhjeebcpcepaaDoorBez
namespace Go.Proofs.YtghhjeebcpcepaaDoor
open Go.RowKit
set_option linter.unusedVariables false
end Go.Proofs.YtghhjeebcpcepaaDoor
