/- Contracts of the walk: both PowerOf, both TeichmuellerOf, and the laws FnExactInverseOf, FnExactPowerOf, FnExactTeichmuellerOf. -/
import Derived.Test.YtbolmmgkmgmfeaaResid
import Derived.Test.YtbolmmgkmgmfeaaUnits
namespace Go.Proofs.Ytbolmmgkmgmfeaa
open Go.RowKit
set_option linter.unusedVariables false
def powC (p n a e : Int) : Int := if resC p n a = 0 then (if 0 ≤ e ∧ e ≤ 1000000000000 then 0 else 2) else resC p n a
def powV (p n a e : Int) : Int := if powC p n a e = 0 then powM a e.toNat (ringM p n) else 0
def teiV (p n a : Int) : Int := if resC p n a = 0 then powM a (ringM p n / p).toNat (ringM p n) else 0
end Go.Proofs.Ytbolmmgkmgmfeaa
