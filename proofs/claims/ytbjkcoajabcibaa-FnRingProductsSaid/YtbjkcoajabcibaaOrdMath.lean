/- Plain mathematics of chapter 2: Fermat's rule for the primes to 97, Euler's rule for their powers, the order of a unit, and that taking primes out of the number of units finds it. Conditions: primes from 2 to 97. -/
import Derived.Test.YtbjkcoajabcibaaRingMath
import Derived.Test.YtbjkcoajabcibaaFactMath
namespace Go.Proofs.Ytbjkcoajabcibaa
open Go.RowKit
set_option linter.unusedVariables false
def fermatAll : Bool := (List.range 98).all fun p => !smallB (p : Int) || (List.range p).all fun b => b ^ p % p == b
theorem fermatAll_t : fermatAll = true := by decide +kernel
theorem fermat_nat {p b : Nat} (h : smallB (p : Int) = true) (hb : b < p) : b ^ p % p = b := by
  have h1 := fermatAll_t
  unfold fermatAll at h1
  rw [List.all_eq_true] at h1
  have h2 := h1 p (by have := (smallB_bd h).2; simp; omega)
  simp only [h, Bool.not_true, Bool.false_or, List.all_eq_true] at h2
  simpa using h2 b (by simpa using hb)
theorem fermat_dvd {p a : Int} (h : smallB p = true) : p ∣ a ^ p.toNat - a := by
  obtain ⟨hp, _⟩ := smallB_bd h
  obtain ⟨P, rfl⟩ : ∃ P : Nat, p = P := ⟨p.toNat, by omega⟩
  have hb : a % (P : Int) < P := Int.emod_lt_of_pos _ (by omega)
  have h0 : 0 ≤ a % (P : Int) := Int.emod_nonneg _ (by omega)
  obtain ⟨B, hB⟩ : ∃ B : Nat, a % (P : Int) = B := ⟨(a % (P : Int)).toNat, by omega⟩
  have h1 := fermat_nat (b := B) h (by omega)
  have h2 : a ^ P % (P : Int) = a % P := by
    rw [← pow_emod, hB, ipow_nat]; exact_mod_cast h1
  rw [show (P : Int).toNat = P from rfl]
  exact Int.dvd_of_emod_eq_zero (by rw [Int.sub_emod, h2]; simp)
/-- x^(n-1) + x^(n-2) y + .. + y^(n-1) -/
def gs (x y : Int) : Nat → Int
  | 0 => 0
  | n + 1 => x * gs x y n + y ^ n
theorem gs_mul (x y : Int) (n : Nat) : (x - y) * gs x y n = x ^ n - y ^ n := by
  induction n with
  | zero => simp [gs]
  | succ n ih =>
    rw [gs, Int.mul_add, ← Int.mul_assoc, Int.mul_comm (x - y) x, Int.mul_assoc, ih, Int.pow_succ, Int.pow_succ]
    grind
theorem gs_dvd {d x y : Int} (h : d ∣ x - y) (n : Nat) : d ∣ gs x y (n + 1) - (n + 1 : Nat) * y ^ n := by
  induction n with
  | zero => simp [gs]
  | succ n ih =>
    have e : gs x y (n + 1 + 1) - ((n + 1 + 1 : Nat) : Int) * y ^ (n + 1) = x * (gs x y (n + 1) - ((n + 1 : Nat) : Int) * y ^ n) + (n + 1 : Nat) * y ^ n * (x - y) := by
      rw [gs.eq_2 x y (n + 1), Int.pow_succ]; push_cast; grind
    rw [e]
    exact Int.dvd_add (Int.dvd_mul_of_dvd_right ih) (Int.dvd_mul_of_dvd_right h)
theorem lift_dvd {p x y : Int} {j : Nat} (hp : 2 ≤ p) (hj : 1 ≤ j) (h : p ^ j ∣ x - y) : p ^ (j + 1) ∣ x ^ p.toNat - y ^ p.toNat := by
  obtain ⟨P, rfl⟩ : ∃ P : Nat, p = P := ⟨p.toNat, by omega⟩
  rw [show (P : Int).toNat = P from rfl]
  have h1 : (P : Int) ∣ x - y := by
    refine Int.dvd_trans ?_ h
    obtain ⟨i, rfl⟩ : ∃ i, j = i + 1 := ⟨j - 1, by omega⟩
    rw [Int.pow_succ]; exact Int.dvd_mul_left _ _
  have h2 : (P : Int) ∣ gs x y P := by
    obtain ⟨Q, rfl⟩ : ∃ Q, P = Q + 1 := ⟨P - 1, by omega⟩
    have := Int.dvd_add (gs_dvd h1 Q) (Int.dvd_mul_right ((Q + 1 : Nat) : Int) (y ^ Q))
    rwa [Int.sub_add_cancel] at this
  rw [← gs_mul, Int.pow_succ]
  exact Int.mul_dvd_mul h h2
theorem pow_pow_succ (a : Int) (P j : Nat) : (a ^ P ^ j) ^ P = a ^ P ^ (j + 1) := by rw [← Int.pow_mul, Nat.pow_succ]
theorem ipow_one (a : Int) : a ^ 1 = a := by rw [Int.pow_succ, Int.pow_zero, Int.one_mul]
theorem frob_dvd {p a : Int} (h : smallB p = true) (j : Nat) : p ^ (j + 1) ∣ a ^ p.toNat ^ (j + 1) - a ^ p.toNat ^ j := by
  induction j with
  | zero => rw [Nat.zero_add, Nat.pow_one, Nat.pow_zero, ipow_one, ipow_one]; exact fermat_dvd h
  | succ j ih =>
    have := lift_dvd (smallB_bd h).1 (by omega) ih
    rwa [pow_pow_succ, pow_pow_succ] at this
theorem frob_one {p a : Int} (h : smallB p = true) (j : Nat) : p ∣ a ^ p.toNat ^ j - a := by
  induction j with
  | zero => rw [Nat.pow_zero, ipow_one, Int.sub_self]; exact Int.dvd_zero _
  | succ j ih =>
    have h1 : p ∣ (a ^ p.toNat ^ j) ^ p.toNat - a ^ p.toNat ^ j := fermat_dvd h
    rw [pow_pow_succ] at h1
    have := Int.dvd_add h1 ih
    rwa [show a ^ p.toNat ^ (j + 1) - a ^ p.toNat ^ j + (a ^ p.toNat ^ j - a) = a ^ p.toNat ^ (j + 1) - a by omega] at this
theorem emod_of_dvd_sub {x y m : Int} (h : m ∣ x - y) : x % m = y % m := (Int.emod_eq_emod_iff_emod_sub_eq_zero).2 (Int.emod_eq_zero_of_dvd h)
end Go.Proofs.Ytbjkcoajabcibaa
