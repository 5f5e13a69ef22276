/- Contracts of the walk: impl.isBasePrime, spec.l01Small, impl.divideOut, spec.l01Valuation and both ValuationOf; divideOut's and l01Valuation's ask that p is at least 2 and n a value other than 0. -/
import Derived.Test.YtidcpmhbkldpeaaGcd
import Derived.Test.YtidcpmhbkldpeaaValMath
import Derived.Test.YtidcpmhbkldpeaaBez
namespace Go.Proofs.Ytidcpmhbkldpeaa
open Go.RowKit
set_option linter.unusedVariables false
theorem basePrime_any (p : Int) (w : World) :
    Calls Try.prog 105 #[.int .i64 p] w fun e w' => e = .returned (.bool (smallB p)) ∧ w = w' := by
  by_cases h : p ≤ 97
  · have e : isPrimeB p = smallB p := by
      by_cases h2 : 2 ≤ p
      · rw [isPrimeB_in h2 (by omega), smallB_in h2 h]
      · rw [isPrimeB_out (by omega), smallB_out (by omega)]
    have E := Lib.hid e
    clear e
    go_enter Try.func105, Try.ntmps105
    go_wp2_with (go_at_call 118; refine (implIsPrime_any _ _).mono ?_; rintro e w' ⟨rfl, rfl⟩)
    go_ret
    exact ⟨ret_bool E.out, rfl⟩
  · rw [smallB_out (by omega)]
    go_enter Try.func105, Try.ntmps105
    go_wp2_with fail
    go_ret
    exact ⟨rfl, rfl⟩
theorem l01Small_any (p : Int) (w : World) :
    Calls Try.prog 45 #[.int .i64 p] w fun e w' => e = .returned (.bool (smallB p)) ∧ w = w' := by
  by_cases h : 2 ≤ p ∧ p ≤ 97
  · have e := inB_t h.1 h.2
    rw [smallB_in h.1 h.2]
    obtain ⟨h1, h2⟩ := h
    go_enter Try.func45, Try.ntmps45
    go_wp2_with (first | (go_at_call 47; refine (in_any _ _ _ _).mono ?_; rintro e w' ⟨rfl, rfl⟩) | (go_at_call 61; refine (l01Prime_any _ _ (by omega) (by omega)).mono ?_; rintro e w' ⟨rfl, rfl⟩))
    go_ret
    exact ⟨rfl, rfl⟩
  · have e : inB p 2 97 = false := inB_f (by omega)
    rw [smallB_out (by omega)]
    clear h
    go_enter Try.func45, Try.ntmps45
    go_wp2_with (go_at_call 47; refine (in_any _ _ _ _).mono ?_; rintro e w' ⟨rfl, rfl⟩)
    go_ret
    exact ⟨rfl, rfl⟩
end Go.Proofs.Ytidcpmhbkldpeaa
