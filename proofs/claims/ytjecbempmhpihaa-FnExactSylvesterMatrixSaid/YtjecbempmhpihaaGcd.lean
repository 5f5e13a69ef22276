/- Contracts of the walk: impl.isValue, spec.l01Is, impl.greatestDivisor, spec.l01Abs, spec.l01Gcd, and both CommonDivisor. Values are integers from -10^12 to 10^12; gcd's contracts ask for values. -/
import Derived.Test.YtjecbempmhpihaaPrime
import Derived.Deep.QuietTactic
import Derived.BigQuiet
import Derived.IntWalk
namespace Go.Proofs.Ytjecbempmhpihaa
open Go.RowKit
set_option linter.unusedVariables false

theorem grown_drewN {W w : World} (h : Grown W w) (n : Nat) : Grown W (w.drewN n) := h
theorem l01Is_any (n : Int) (w : World) :
    Calls Try.prog 45 #[.int .i64 n] w fun e w' => e = .returned (.bool (valueB n)) ∧ w = w' := by
  go_enter Try.func45, Try.ntmps45
  go_wp2_with (go_at_call 38; refine (in_any _ _ _ _).mono ?_; rintro e w' ⟨rfl, rfl⟩)
  go_ret
  exact ⟨rfl, rfl⟩
end Go.Proofs.Ytjecbempmhpihaa
