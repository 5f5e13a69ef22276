/- Contracts of the walk: impl.isValue, spec.l01Is, impl.greatestDivisor, spec.l01Abs, spec.l01Gcd, and both CommonDivisor. Values are integers from -10^12 to 10^12; gcd's contracts ask for values. -/
import Derived.Test.YtcennddgbpkclaaDoorPrime
import Derived.Deep.QuietTactic
import Derived.BigQuiet
import Derived.IntWalk
namespace Go.Proofs.YtcennddgbpkclaaDoor
open Go.RowKit
set_option linter.unusedVariables false

theorem grown_drewN {W w : World} (h : Grown W w) (n : Nat) : Grown W (w.drewN n) := h
theorem l01Abs_any (a : Int) (w : World) (h1 : -1000000000000 ≤ a) (h2 : a ≤ 1000000000000) :
    Calls Tryd.prog 42 #[.int .i64 a] w fun e w' => e = .returned (.int .i64 (a.natAbs : Int)) ∧ w = w' := by
  by_cases h : 0 ≤ a
  all_goals
    go_enter Tryd.func42, Tryd.ntmps42
    go_wp2
    go_ret
    exact ⟨ret_int (by omega), rfl⟩
end Go.Proofs.YtcennddgbpkclaaDoor
