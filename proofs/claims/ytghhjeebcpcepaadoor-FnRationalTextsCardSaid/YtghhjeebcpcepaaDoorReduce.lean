/- Contracts of the walk: both ReduceTo, both CountUnits, and the remainders that they use. -/
import Derived.Test.YtghhjeebcpcepaaDoorRingOf
import Derived.Test.YtghhjeebcpcepaaDoorOrdMath2
import Derived.BigQuiet
namespace Go.Proofs.YtghhjeebcpcepaaDoor
open Go.RowKit
set_option linter.unusedVariables false
def redV (p n x : Int) : Int := if ringM p n = 0 then 0 else if valueB x then x % ringM p n else 0
def redC (p n x : Int) : Int := if ringM p n = 0 then 1 else if valueB x then 0 else 2
end Go.Proofs.YtghhjeebcpcepaaDoor
