/- Plain mathematics of chapter 10: how many irreducible polynomials there are, up to the degree 8. -/
import Derived.Test.YtjmecidbnoimnaaMath
namespace Go.Proofs.Ytjmecidbnoimnaa
set_option linter.unusedVariables false
set_option linter.unusedSimpArgs false
/-- the Moebius numbers of 1 to 8 -/
def moeT (d : Nat) : Int := if d = 1 ∨ d = 6 then 1 else if d = 4 ∨ d = 8 then 0 else -1
/-- the sum over the divisors d of n up to k of the Moebius number of d times p to the power of n / d -/
def irrT (p : Int) (n : Nat) : Nat → Int
  | 0 => 0
  | k + 1 => irrT p n k + (if n % (k + 1) = 0 then moeT (k + 1) * p ^ (n / (k + 1)) else 0)
def irrN (p : Int) (n : Nat) : Int := irrT p n n / n
/-- the sum over the divisors d of n up to k of d times their number -/
def cntT (p : Int) (n : Nat) : Nat → Int
  | 0 => 0
  | k + 1 => cntT p n k + (if n % (k + 1) = 0 then ((k + 1 : Nat) : Int) * irrN p (k + 1) else 0)
theorem pow_one' (p : Int) : p ^ 1 = p := by rw [show (1 : Nat) = 0 + 1 from rfl, Int.pow_succ]; simp
theorem irr1 (p : Int) : irrT p 1 1 = p := by simp [irrT, moeT, pow_one']
theorem irr2 (p : Int) : irrT p 2 2 = p ^ 2 - p := by simp [irrT, moeT, pow_one']; omega
theorem irr3 (p : Int) : irrT p 3 3 = p ^ 3 - p := by simp [irrT, moeT, pow_one']; omega
theorem irr4 (p : Int) : irrT p 4 4 = p ^ 4 - p ^ 2 := by simp [irrT, moeT, pow_one']; omega
theorem irr5 (p : Int) : irrT p 5 5 = p ^ 5 - p := by simp [irrT, moeT, pow_one']; omega
theorem irr6 (p : Int) : irrT p 6 6 = p ^ 6 - p ^ 3 - p ^ 2 + p := by simp [irrT, moeT, pow_one']; omega
theorem irr7 (p : Int) : irrT p 7 7 = p ^ 7 - p := by simp [irrT, moeT, pow_one']; omega
theorem irr8 (p : Int) : irrT p 8 8 = p ^ 8 - p ^ 4 := by simp [irrT, moeT, pow_one']; omega
theorem rest2 (p : Int) : (p ^ 2 - p) % 2 = 0 := by
  rcases (by omega : p % 2 = 0 ∨ p % 2 = 1) with h | h <;> simp [Int.sub_emod, Int.mul_emod, Int.pow_succ, h]
theorem rest3 (p : Int) : (p ^ 3 - p) % 3 = 0 := by
  rcases (by omega : p % 3 = 0 ∨ p % 3 = 1 ∨ p % 3 = 2) with h | h | h <;> simp [Int.sub_emod, Int.mul_emod, Int.pow_succ, h]
theorem rest4 (p : Int) : (p ^ 4 - p ^ 2) % 4 = 0 := by
  rcases (by omega : p % 4 = 0 ∨ p % 4 = 1 ∨ p % 4 = 2 ∨ p % 4 = 3) with h | h | h | h <;> simp [Int.sub_emod, Int.mul_emod, Int.pow_succ, h]
theorem rest5 (p : Int) : (p ^ 5 - p) % 5 = 0 := by
  rcases (by omega : p % 5 = 0 ∨ p % 5 = 1 ∨ p % 5 = 2 ∨ p % 5 = 3 ∨ p % 5 = 4) with h | h | h | h | h <;> simp [Int.sub_emod, Int.mul_emod, Int.pow_succ, h]
theorem rest6 (p : Int) : (p ^ 6 - p ^ 3 - p ^ 2 + p) % 6 = 0 := by
  rcases (by omega : p % 6 = 0 ∨ p % 6 = 1 ∨ p % 6 = 2 ∨ p % 6 = 3 ∨ p % 6 = 4 ∨ p % 6 = 5) with h | h | h | h | h | h <;> simp [Int.sub_emod, Int.add_emod, Int.mul_emod, Int.pow_succ, h]
theorem rest7 (p : Int) : (p ^ 7 - p) % 7 = 0 := by
  rcases (by omega : p % 7 = 0 ∨ p % 7 = 1 ∨ p % 7 = 2 ∨ p % 7 = 3 ∨ p % 7 = 4 ∨ p % 7 = 5 ∨ p % 7 = 6) with h | h | h | h | h | h | h <;> simp [Int.sub_emod, Int.mul_emod, Int.pow_succ, h]
theorem rest8 (p : Int) : (p ^ 8 - p ^ 4) % 8 = 0 := by
  rcases (by omega : p % 8 = 0 ∨ p % 8 = 1 ∨ p % 8 = 2 ∨ p % 8 = 3 ∨ p % 8 = 4 ∨ p % 8 = 5 ∨ p % 8 = 6 ∨ p % 8 = 7) with h | h | h | h | h | h | h | h <;> simp [Int.sub_emod, Int.mul_emod, Int.pow_succ, h]
/-- n times the number is the sum -/
theorem irr_times (p : Int) {n : Nat} (h1 : 1 ≤ n) (h8 : n ≤ 8) : (n : Int) * irrN p n = irrT p n n := by
  rcases (by omega : n = 1 ∨ n = 2 ∨ n = 3 ∨ n = 4 ∨ n = 5 ∨ n = 6 ∨ n = 7 ∨ n = 8) with rfl | rfl | rfl | rfl | rfl | rfl | rfl | rfl <;> rw [irrN]
  · simp
  · rw [irr2]; have := rest2 p; omega
  · rw [irr3]; have := rest3 p; omega
  · rw [irr4]; have := rest4 p; omega
  · rw [irr5]; have := rest5 p; omega
  · rw [irr6]; have := rest6 p; omega
  · rw [irr7]; have := rest7 p; omega
  · rw [irr8]; have := rest8 p; omega
/-- what FnCounted asks -/
theorem cnt_all (p : Int) {n : Nat} (h1 : 1 ≤ n) (h8 : n ≤ 8) : cntT p n n = p ^ n := by
  have k1 := irr_times p (n := 1) (by omega) (by omega)
  have k2 := irr_times p (n := 2) (by omega) (by omega)
  have k3 := irr_times p (n := 3) (by omega) (by omega)
  have k4 := irr_times p (n := 4) (by omega) (by omega)
  have k5 := irr_times p (n := 5) (by omega) (by omega)
  have k6 := irr_times p (n := 6) (by omega) (by omega)
  have k7 := irr_times p (n := 7) (by omega) (by omega)
  have k8 := irr_times p (n := 8) (by omega) (by omega)
  rw [irr1] at k1
  rw [irr2] at k2
  rw [irr3] at k3
  rw [irr4] at k4
  rw [irr5] at k5
  rw [irr6] at k6
  rw [irr7] at k7
  rw [irr8] at k8
  rcases (by omega : n = 1 ∨ n = 2 ∨ n = 3 ∨ n = 4 ∨ n = 5 ∨ n = 6 ∨ n = 7 ∨ n = 8) with rfl | rfl | rfl | rfl | rfl | rfl | rfl | rfl <;> simp [cntT, pow_one'] <;> simp at k1 k2 k3 k4 k5 k6 k7 k8 <;> omega
end Go.Proofs.Ytjmecidbnoimnaa
