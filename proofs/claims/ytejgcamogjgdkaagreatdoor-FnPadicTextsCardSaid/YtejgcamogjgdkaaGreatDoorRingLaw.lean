/- Walks of the laws FnExactIsRing, FnExactModulusOf, FnExactReduceTo. -/
import Derived.Test.YtejgcamogjgdkaaGreatDoorReduce
namespace Go.Proofs.YtejgcamogjgdkaaGreatDoor
open Go.RowKit
set_option linter.unusedVariables false
end Go.Proofs.YtejgcamogjgdkaaGreatDoor
