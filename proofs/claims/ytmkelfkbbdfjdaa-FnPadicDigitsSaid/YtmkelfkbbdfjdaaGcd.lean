/- Contracts of the walk: impl.isValue, spec.l01Is, impl.greatestDivisor, spec.l01Abs, spec.l01Gcd, and both CommonDivisor. Values are integers from -10^12 to 10^12; gcd's contracts ask for values. -/
import Derived.Test.YtmkelfkbbdfjdaaPrime
import Derived.Deep.QuietTactic
import Derived.BigQuiet
import Derived.IntWalk
namespace Go.Proofs.Ytmkelfkbbdfjdaa
open Go.RowKit
set_option linter.unusedVariables false

theorem grown_drewN {W w : World} (h : Grown W w) (n : Nat) : Grown W (w.drewN n) := h
theorem isValue_yes (n : Int) (w : World) (h1 : -1000000000000 ≤ n) (h2 : n ≤ 1000000000000) :
    Calls Try.prog 135 #[.int .i64 n] w fun e w' => e = .returned (.bool true) ∧ w = w' := by
  go_enter Try.func135, Try.ntmps135
  go_wp2
  go_ret
  exact ⟨rfl, rfl⟩
theorem isValue_no (n : Int) (w : World) (h : n < -1000000000000 ∨ 1000000000000 < n) :
    Calls Try.prog 135 #[.int .i64 n] w fun e w' => e = .returned (.bool false) ∧ w = w' := by
  by_cases h1 : -1000000000000 ≤ n
  · have h2 : 1000000000000 < n := by omega
    clear h
    go_enter Try.func135, Try.ntmps135
    go_wp2
    go_ret
    exact ⟨ret_bool (decide_eq_false (by omega)), rfl⟩
  · clear h
    go_enter Try.func135, Try.ntmps135
    go_wp2
    go_ret
    exact ⟨rfl, rfl⟩
theorem isValue_any (n : Int) (w : World) :
    Calls Try.prog 135 #[.int .i64 n] w fun e w' => e = .returned (.bool (valueB n)) ∧ w = w' := by
  by_cases h : -1000000000000 ≤ n ∧ n ≤ 1000000000000
  · rw [valueB_t h.1 h.2]; exact isValue_yes n w h.1 h.2
  · rw [valueB_f h]; exact isValue_no n w (by omega)
end Go.Proofs.Ytmkelfkbbdfjdaa
