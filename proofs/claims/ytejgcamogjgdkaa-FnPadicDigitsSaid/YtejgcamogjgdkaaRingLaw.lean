/- Walks of the laws FnExactIsRing, FnExactModulusOf, FnExactReduceTo. -/
import Derived.Test.YtejgcamogjgdkaaReduce
namespace Go.Proofs.Ytejgcamogjgdkaa
open Go.RowKit
set_option linter.unusedVariables false
end Go.Proofs.Ytejgcamogjgdkaa
