/- Plain mathematics of chapter 8: small primes are prime; inverses by a prime. -/
import Derived.Test.YtbjkcoajabcibaaModGcd
import Derived.Test.YtbjkcoajabcibaaOrdMath2
namespace Go.Proofs.Ytbjkcoajabcibaa
set_option linter.unusedVariables false
set_option maxRecDepth 20000
set_option linter.unusedSimpArgs false
theorem primeP_of {p : Int} (h2 : 2 ≤ p) (h : primeB p = true) : PrimeP p := by
  refine ⟨h2, fun a b hab => ?_⟩
  have hg : ((Nat.gcd p.natAbs a.natAbs : Nat) : Int) ∣ p := by
    have := Nat.gcd_dvd_left p.natAbs a.natAbs
    exact Int.natAbs_dvd_natAbs.1 (by simpa using this)
  rcases primeB_dvd h h2 hg with h1 | h1
  · right
    have hc : Nat.Coprime p.natAbs a.natAbs := h1
    have h3 : p.natAbs ∣ a.natAbs * b.natAbs := by rw [← Int.natAbs_mul]; exact Int.natAbs_dvd_natAbs.2 hab
    exact Int.natAbs_dvd_natAbs.1 (hc.dvd_of_dvd_mul_left h3)
  · left
    have h3 := Nat.gcd_dvd_right p.natAbs a.natAbs
    have h4 : Nat.gcd p.natAbs a.natAbs = p.natAbs := by omega
    rw [h4] at h3
    exact Int.natAbs_dvd_natAbs.1 h3
end Go.Proofs.Ytbjkcoajabcibaa
