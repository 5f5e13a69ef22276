/- Contracts of the walk: chapter 5's sums, products and made numbers, in impl and in spec, for every argument. -/
import Derived.Test.YtgckamlibbjgcaaRatImpl2
namespace Go.Proofs.Ytgckamlibbjgcaa
open Go.RowKit
set_option linter.unusedVariables false
set_option linter.unusedSimpArgs false
set_option maxRecDepth 20000
end Go.Proofs.Ytgckamlibbjgcaa
