/- Contracts of the walk: impl.isValue, spec.l01Is, impl.greatestDivisor, spec.l01Abs, spec.l01Gcd, and both CommonDivisor. Values are integers from -10^12 to 10^12; gcd's contracts ask for values. -/
import Derived.Test.YtejgcamogjgdkaaGreatDoorPrime
import Derived.Deep.QuietTactic
import Derived.BigQuiet
import Derived.IntWalk
namespace Go.Proofs.YtejgcamogjgdkaaGreatDoor
open Go.RowKit
set_option linter.unusedVariables false

theorem grown_drewN {W w : World} (h : Grown W w) (n : Nat) : Grown W (w.drewN n) := h
end Go.Proofs.YtejgcamogjgdkaaGreatDoor
