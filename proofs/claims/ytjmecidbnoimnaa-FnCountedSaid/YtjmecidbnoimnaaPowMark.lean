/- Contracts of the walk: markPowerS writes consecutive marks into a row of prime powers, heldPowerS finds them there. Rows of at most 1000000 elements. -/
import Derived.Test.YtjmecidbnoimnaaPow
import Derived.Test.YtjmecidbnoimnaaMark
import Derived.Deep.Draws
namespace Go.Proofs.Ytjmecidbnoimnaa
open Go.RowKit
set_option linter.unusedVariables false
end Go.Proofs.Ytjmecidbnoimnaa
