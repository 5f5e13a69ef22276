/- Contracts of the walk: chapter 3's functions in spec: opposites, products, digits. -/
import Derived.Test.YtjmecidbnoimnaaPadSpec2
namespace Go.Proofs.Ytjmecidbnoimnaa
open Go.RowKit
set_option linter.unusedVariables false
set_option maxRecDepth 20000
set_option linter.unusedSimpArgs false
end Go.Proofs.Ytjmecidbnoimnaa
