/- Walks of the laws FnExactIsRing, FnExactModulusOf, FnExactReduceTo. -/
import Derived.Test.YtejgcamogjgdkaaDoorReduce
namespace Go.Proofs.YtejgcamogjgdkaaDoor
open Go.RowKit
set_option linter.unusedVariables false
end Go.Proofs.YtejgcamogjgdkaaDoor
