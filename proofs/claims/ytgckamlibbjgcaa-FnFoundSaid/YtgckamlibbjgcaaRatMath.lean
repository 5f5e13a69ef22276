/- Plain mathematics of chapter 5: rational numbers in lowest terms, and that at most one small one agrees with a residue. -/
import Derived.Test.YtgckamlibbjgcaaBezMath
namespace Go.Proofs.Ytgckamlibbjgcaa
open Go.RowKit
set_option linter.unusedVariables false
theorem mul_le_bd {a b B : Int} (h1 : -B ≤ a) (h2 : a ≤ B) (h3 : 1 ≤ b) (h4 : b ≤ B) : -(B * B) ≤ a * b ∧ a * b ≤ B * B := by
  have hB : 0 ≤ B := by omega
  constructor
  · have e1 : (-B) * b ≤ a * b := Int.mul_le_mul_of_nonneg_right h1 (by omega)
    have e2 : B * b ≤ B * B := Int.mul_le_mul_of_nonneg_left h4 hB
    rw [Int.neg_mul] at e1
    omega
  · have e1 : a * b ≤ B * b := Int.mul_le_mul_of_nonneg_right h2 (by omega)
    have e2 : B * b ≤ B * B := Int.mul_le_mul_of_nonneg_left h4 hB
    omega
theorem dvd_left {a b c : Int} (h : a ∣ b * c) (g : Int.gcd b a = 1) : a ∣ c := by
  have h1 : a.natAbs ∣ c.natAbs * b.natAbs := by
    rw [Nat.mul_comm, ← Int.natAbs_mul]; exact Int.natAbs_dvd_natAbs.2 h
  have h2 : Nat.Coprime a.natAbs b.natAbs := by
    show Nat.gcd a.natAbs b.natAbs = 1
    rw [Nat.gcd_comm]; exact g
  exact Int.natAbs_dvd_natAbs.1 (h2.dvd_of_dvd_mul_right h1)
/-- fractions in lowest terms that are equal have the same parts -/
theorem frac_eq {n1 d1 n2 d2 : Int} (p1 : 1 ≤ d1) (p2 : 1 ≤ d2) (g1 : Int.gcd n1 d1 = 1) (g2 : Int.gcd n2 d2 = 1) (h : n1 * d2 = n2 * d1) : n1 = n2 ∧ d1 = d2 := by
  have a1 : d1 ∣ n1 * d2 := ⟨n2, by rw [h, Int.mul_comm]⟩
  have a2 : d2 ∣ n2 * d1 := ⟨n1, by rw [← h, Int.mul_comm]⟩
  have b1 : d1 ∣ d2 := dvd_left a1 g1
  have b2 : d2 ∣ d1 := dvd_left a2 g2
  have c1 := Int.le_of_dvd (by omega) b1
  have c2 := Int.le_of_dvd (by omega) b2
  have e : d1 = d2 := by omega
  subst e
  exact ⟨Int.eq_of_mul_eq_mul_right (by omega) h, rfl⟩
/-- at most one fraction of small parts agrees with a residue -/
theorem found_unique {m B u n1 d1 n2 d2 : Int} (hB : 2 * (B * B) < m) (l1 : -B ≤ n1) (r1 : n1 ≤ B) (p1 : 1 ≤ d1) (q1 : d1 ≤ B) (l2 : -B ≤ n2) (r2 : n2 ≤ B) (p2 : 1 ≤ d2) (q2 : d2 ≤ B)
    (c1 : m ∣ n1 - u * d1) (c2 : m ∣ n2 - u * d2) (g1 : Int.gcd n1 d1 = 1) (g2 : Int.gcd n2 d2 = 1) : n1 = n2 ∧ d1 = d2 := by
  have hd : m ∣ n1 * d2 - n2 * d1 := by
    have e : n1 * d2 - n2 * d1 = (n1 - u * d1) * d2 - (n2 - u * d2) * d1 := by
      rw [Int.sub_mul, Int.sub_mul, Int.mul_assoc u d1 d2, Int.mul_assoc u d2 d1, Int.mul_comm d2 d1]; omega
    rw [e]
    exact Int.dvd_sub (Int.dvd_mul_of_dvd_left c1) (Int.dvd_mul_of_dvd_left c2)
  obtain ⟨x1, x2⟩ := mul_le_bd l1 r1 p2 q2
  obtain ⟨y1, y2⟩ := mul_le_bd l2 r2 p1 q1
  have h0 : n1 * d2 - n2 * d1 = 0 := by
    obtain ⟨k, hk⟩ := hd
    have hm : 0 < m := by
      have := Int.mul_nonneg (show 0 ≤ B by omega) (show 0 ≤ B by omega)
      omega
    by_cases hk0 : k = 0
    · rw [hk, hk0, Int.mul_zero]
    · exfalso
      rcases Int.lt_or_gt_of_ne hk0 with h | h
      · have : m * k ≤ m * (-1) := Int.mul_le_mul_of_nonneg_left (by omega) (by omega)
        omega
      · have : m * 1 ≤ m * k := Int.mul_le_mul_of_nonneg_left (by omega) (by omega)
        omega
  exact frac_eq p1 p2 g1 g2 (by omega)
/-- a number divided by the greatest common divisor: lowest terms -/
theorem lowest {n d : Int} (hd : d ≠ 0) : Int.gcd (n / (Int.gcd n d : Int)) (d / (Int.gcd n d : Int)) = 1 := by
  have hg : Int.gcd n d ≠ 0 := fun h => hd (Int.gcd_eq_zero_iff.1 h).2
  exact Int.gcd_ediv_gcd_ediv_gcd (by omega)
end Go.Proofs.Ytgckamlibbjgcaa
