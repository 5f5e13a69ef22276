/- Contracts of the walk: chapter 3's exported functions in spec: places of equality, digits, and numbers made of integers. -/
import Derived.Test.YtjmecidbnoimnaaPadSpec4
namespace Go.Proofs.Ytjmecidbnoimnaa
open Go.RowKit
set_option linter.unusedVariables false
set_option maxRecDepth 20000
set_option linter.unusedSimpArgs false
end Go.Proofs.Ytjmecidbnoimnaa
