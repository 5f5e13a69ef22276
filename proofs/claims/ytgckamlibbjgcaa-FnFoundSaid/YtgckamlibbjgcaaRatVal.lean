/- Plain mathematics of chapter 5: valuations of products and of rational numbers in lowest terms, and multiples by powers of a prime. Conditions: primes from 2 to 97, values to 10^12. -/
import Derived.Test.YtgckamlibbjgcaaRatFnd
namespace Go.Proofs.Ytgckamlibbjgcaa
open Go.RowKit
set_option linter.unusedVariables false
theorem prime_mul {p a b : Int} (hs : smallB p = true) (ha : a % p ≠ 0) (hb : b % p ≠ 0) : a * b % p ≠ 0 := by
  intro h
  have hg := coprime_of_not_dvd hs ha
  have hd := Int.dvd_of_emod_eq_zero h
  have := dvd_left hd hg
  exact hb (Int.emod_eq_zero_of_dvd this)
theorem prime_pow {p a : Int} (hp : 2 ≤ p) {j : Nat} (hj : 1 ≤ j) : a * p ^ j % p = 0 := by
  obtain ⟨i, rfl⟩ : ∃ i, j = i + 1 := ⟨j - 1, by omega⟩
  rw [Int.pow_succ]
  exact Int.emod_eq_zero_of_dvd ⟨a * p ^ i, by grind⟩
theorem pow_ne {p : Int} (hp : 2 ≤ p) (k : Nat) : p ^ k ≠ 0 := by have := pow_ge1 hp k; omega
/-- the exponent of a product with a unit is known -/
theorem exp_unique {p : Int} (hp : 2 ≤ p) : ∀ (i j : Nat) (a b : Int), a % p ≠ 0 → b % p ≠ 0 → a * p ^ i = b * p ^ j → i = j ∧ a = b := by
  have key : ∀ (i j : Nat) (a b : Int), a % p ≠ 0 → a * p ^ i = b * p ^ j → ¬ i < j := by
    intro i j a b ha h hlt
    obtain ⟨k, rfl⟩ : ∃ k, j = i + 1 + k := ⟨j - i - 1, by omega⟩
    have e : a = b * p ^ (1 + k) := by
      refine Int.eq_of_mul_eq_mul_right (pow_ne hp i) ?_
      rw [h, show i + 1 + k = (1 + k) + i by omega, Int.pow_add]; grind
    apply ha
    rw [e]; exact prime_pow hp (by omega)
  intro i j a b ha hb h
  have h1 := key i j a b ha h
  have h2 := key j i b a hb h.symm
  obtain rfl : i = j := by omega
  exact ⟨rfl, Int.eq_of_mul_eq_mul_right (pow_ne hp i) h⟩
theorem tmod_ne {a p : Int} (hp : 2 ≤ p) : a.tmod p ≠ 0 ↔ a % p ≠ 0 := by
  constructor
  · intro h h2
    exact h (Int.tmod_eq_zero_of_dvd (Int.dvd_of_emod_eq_zero h2))
  · intro h h2
    exact h (Int.emod_eq_zero_of_dvd (Int.dvd_of_tmod_eq_zero h2))
/-- a number is its rest times the power of p -/
theorem val_parts {n p : Int} (hp : 2 ≤ p) (h0 : n ≠ 0) (h1 : -1000000000000 ≤ n) (h2 : n ≤ 1000000000000) :
    n = valRest n p * p ^ (valCount n p).toNat ∧ valRest n p % p ≠ 0 ∧ 0 ≤ valCount n p ∧ valCount n p ≤ 39 := by
  obtain ⟨a, b, c, d⟩ := pad_val (n := n) hp h0 (by omega)
  exact ⟨a.symm, (tmod_ne hp).1 b, c, d⟩
theorem val_of {n p r : Int} {k : Nat} (hp : 2 ≤ p) (h1 : -1000000000000 ≤ n) (h2 : n ≤ 1000000000000) (hr : r % p ≠ 0) (e : n = r * p ^ k) : valCount n p = k ∧ valRest n p = r := by
  have h0 : n ≠ 0 := by
    intro hz
    have : r = 0 := by
      rcases Int.mul_eq_zero.1 (e.symm.trans hz) with h | h
      · exact h
      · exact absurd h (pow_ne hp k)
    rw [this] at hr; simp at hr
  obtain ⟨a, b, c, d⟩ := val_parts hp h0 h1 h2
  obtain ⟨e1, e2⟩ := exp_unique hp _ _ _ _ b hr (a.symm.trans e)
  exact ⟨by omega, e2⟩
/-- equal cross products have equal valuations -/
theorem val_cross {p a b c d x y : Int} (hs : smallB p = true) (h : x * (b * d) = (a * c) * y)
    (ha : a ≠ 0) (hb : b ≠ 0) (hc : c ≠ 0) (hd : d ≠ 0) (hx : x ≠ 0) (hy : y ≠ 0)
    (ba : valueB a = true) (bb : valueB b = true) (bc : valueB c = true) (bd : valueB d = true) (bx : valueB x = true) (bY : valueB y = true) :
    valCount x p - valCount y p = (valCount a p - valCount b p) + (valCount c p - valCount d p) := by
  have hp := (smallB_bd hs).1
  obtain ⟨ea, ra, ca, _⟩ := val_parts hp ha (valueB_bd ba).1 (valueB_bd ba).2
  obtain ⟨eb, rb, cb, _⟩ := val_parts hp hb (valueB_bd bb).1 (valueB_bd bb).2
  obtain ⟨ec, rc, cc, _⟩ := val_parts hp hc (valueB_bd bc).1 (valueB_bd bc).2
  obtain ⟨ed, rd, cd, _⟩ := val_parts hp hd (valueB_bd bd).1 (valueB_bd bd).2
  obtain ⟨ex, rx, cx, _⟩ := val_parts hp hx (valueB_bd bx).1 (valueB_bd bx).2
  obtain ⟨ey, ry, cy, _⟩ := val_parts hp hy (valueB_bd bY).1 (valueB_bd bY).2
  generalize valCount a p = ka at *
  generalize valCount b p = kb at *
  generalize valCount c p = kc at *
  generalize valCount d p = kd at *
  generalize valCount x p = kx at *
  generalize valCount y p = ky at *
  generalize valRest a p = va at *
  generalize valRest b p = vb at *
  generalize valRest c p = vc at *
  generalize valRest d p = vd at *
  generalize valRest x p = vx at *
  generalize valRest y p = vy at *
  have e : (vx * (vb * vd)) * p ^ (kx.toNat + (kb.toNat + kd.toNat)) = (va * vc * vy) * p ^ ((ka.toNat + kc.toNat) + ky.toNat) := by
    rw [Int.pow_add, Int.pow_add, Int.pow_add, Int.pow_add]
    rw [ea, eb, ec, ed, ex, ey] at h
    grind
  have := (exp_unique hp _ _ _ _ (prime_mul hs rx (prime_mul hs rb rd)) (prime_mul hs (prime_mul hs ra rc) ry) e).1
  omega
/-- the product's valuation, for the law -/
theorem mul_val {a b c d p : Int} (hs : smallB p = true) (h : mulRC a b c d = 0) (ha : a ≠ 0) (hc : c ≠ 0) :
    isRatB a b = true ∧ isRatB c d = true ∧ isRatB (mulRQ a b c d).1 (mulRQ a b c d).2 = true ∧ (mulRQ a b c d).1 ≠ 0 ∧
    rvalC a b p = 0 ∧ rvalC c d p = 0 ∧ rvalC (mulRQ a b c d).1 (mulRQ a b c d).2 p = 0 ∧
    rvalV (mulRQ a b c d).1 (mulRQ a b c d).2 p = rvalV a b p + rvalV c d p ∧ -200 ≤ rvalV a b p ∧ rvalV a b p ≤ 200 ∧ -200 ≤ rvalV c d p ∧ rvalV c d p ≤ 200 := by
  have ht : rtwoC a b c d = 0 := by
    refine Classical.byContradiction fun hn => ?_
    unfold mulRC at h
    rw [if_neg hn] at h
    exact hn h
  obtain ⟨v1, v2, a0, a1, b0, b1, c0, c1, d0, d1⟩ := rtwo_zero ht
  have hl : rlimC (rlN (a * c) (b * d)) (rlD (a * c) (b * d)) = 0 := by unfold mulRC at h; rwa [if_pos ht] at h
  have hv : isRatB (rlN (a * c) (b * d)) (rlD (a * c) (b * d)) = true := by
    unfold rlimC at hl; split at hl
    · assumption
    · omega
  have hq : mulRQ a b c d = (rlN (a * c) (b * d), rlD (a * c) (b * d)) := by simp [mulRQ, ht, rresQ, hv]
  rw [hq]
  have hbd : b * d ≠ 0 := by have := mul_pos6 b0 d0; omega
  have hx := low_cross (a * c) (b * d) hbd
  obtain ⟨i1, i2, i3, i4, i5⟩ := isRat_of hv
  obtain ⟨j1, j2, j3, j4, j5⟩ := isRat_of v1
  obtain ⟨k1, k2, k3, k4, k5⟩ := isRat_of v2
  have hx0 : rlN (a * c) (b * d) ≠ 0 := by
    intro hz
    rw [hz, Int.zero_mul] at hx
    rcases Int.mul_eq_zero.1 hx.symm with h1 | h1
    · rcases Int.mul_eq_zero.1 h1 with h2 | h2
      · exact ha h2
      · exact hc h2
    · omega
  have hval := val_cross (p := p) hs hx ha (by omega) hc (by omega) hx0 (by omega) (valueB_t (by omega) (by omega)) (valueB_t (by omega) (by omega)) (valueB_t (by omega) (by omega)) (valueB_t (by omega) (by omega)) (valueB_t i1 i2) (valueB_t (by omega) (by omega))
  have hp := (smallB_bd hs).1
  have y1 := val_bd (p := p) hp ha j1 j2
  have y2 := val_bd (n := b) (p := p) hp (by omega) (by omega) (by omega)
  have y3 := val_bd (p := p) hp hc k1 k2
  have y4 := val_bd (n := d) (p := p) hp (by omega) (by omega) (by omega)
  have r1 : rvalC a b p = 0 := by simp [rvalC, v1, hs, ha]
  have r2 : rvalC c d p = 0 := by simp [rvalC, v2, hs, hc]
  have r3 : rvalC (rlN (a * c) (b * d)) (rlD (a * c) (b * d)) p = 0 := by simp [rvalC, hv, hs, hx0]
  refine ⟨v1, v2, hv, hx0, r1, r2, r3, ?_⟩
  simp only [rvalV, r1, r2, r3, if_true]
  omega
theorem gcd_pow {n d p : Int} (hs : smallB p = true) (g : Int.gcd n d = 1) (hd : d % p ≠ 0) : ∀ k : Nat, Int.gcd (n * p ^ k) d = 1 := by
  intro k
  induction k with
  | zero => simpa using g
  | succ k ih =>
    have h2 : Nat.Coprime p.natAbs d.natAbs := by
      show Nat.gcd p.natAbs d.natAbs = 1
      rw [Nat.gcd_comm]; exact coprime_of_not_dvd hs hd
    have h1 : Nat.Coprime (n * p ^ k).natAbs d.natAbs := ih
    show Nat.gcd (n * p ^ (k + 1)).natAbs d.natAbs = 1
    rw [Int.pow_succ, ← Int.mul_assoc, Int.natAbs_mul]
    exact Nat.Coprime.mul_left h1 h2
/-- what is found is not divisible by p, if the residue is not -/
theorem fit_unit {p m u b n d : Int} (hs : smallB p = true) (hm : p ∣ m) (hu : u % p ≠ 0) (h : Fits m u b n d) : n % p ≠ 0 ∧ d % p ≠ 0 ∧ n ≠ 0 := by
  obtain ⟨n0, n1, d0, d1, g, hd⟩ := h
  have hp := (smallB_bd hs).1
  have hx : p ∣ n - u * d := Int.dvd_trans hm hd
  have hdp : d % p ≠ 0 := by
    intro hz
    have h1 := Int.dvd_of_emod_eq_zero hz
    have h2 : p ∣ n := by
      have e : n = (n - u * d) + u * d := by omega
      rw [e]; exact Int.dvd_add hx (Int.dvd_mul_of_dvd_right h1)
    have h3 := Int.dvd_coe_gcd h2 h1
    rw [g] at h3
    have := Int.le_of_dvd (by omega) h3
    omega
  have hnp : n % p ≠ 0 := by
    intro hz
    have h2 := Int.dvd_of_emod_eq_zero hz
    have h3 : p ∣ u * d := by
      have e : u * d = n - (n - u * d) := by omega
      rw [e]; exact Int.dvd_sub h2 hx
    exact prime_mul hs hu hdp (Int.emod_eq_zero_of_dvd h3)
  exact ⟨hnp, hdp, by rintro rfl; simp at hnp⟩
/-- the code and the value of FindRational -/
def findC (p v u k : Int) : Int := if padB p v u k then (if k = 0 then 4 else if fitO (ringM p k) u then rlimC (mF v.toNat (fitN (ringM p k) u) p) (mF (-v).toNat (fitD (ringM p k) u) p) else 4) else 1
def findQ (p v u k : Int) : Q2 := if padB p v u k then (if k = 0 then (0, 0) else if fitO (ringM p k) u then rresQ (mF v.toNat (fitN (ringM p k) u) p) (mF (-v).toNat (fitD (ringM p k) u) p) else (0, 0)) else (0, 0)
/-- multiples are valid rational numbers if they are values -/
theorem mF_rat {p n d : Int} (hs : smallB p = true) (g : Int.gcd n d = 1) (hn : n % p ≠ 0) (hd : d % p ≠ 0) (d1 : 1 ≤ d) (v : Int) (h1 : valueB (mF v.toNat n p) = true) (h2 : valueB (mF (-v).toNat d p) = true) :
    isRatB (mF v.toNat n p) (mF (-v).toNat d p) = true := by
  have e1 := mF_pow _ _ h1
  have e2 := mF_pow _ _ h2
  obtain ⟨b1, b2⟩ := valueB_bd h1
  obtain ⟨b3, b4⟩ := valueB_bd h2
  have hp := (smallB_bd hs).1
  have hpos : 1 ≤ mF (-v).toNat d p := by
    rw [e2]
    have := pow_ge1 hp (-v).toNat
    exact mul_pos6 d1 this
  refine isRat_mk b1 b2 hpos b4 ?_
  rw [e1, e2]
  by_cases hv : 0 ≤ v
  · rw [show (-v).toNat = 0 by omega, Int.pow_zero, Int.mul_one]
    exact gcd_pow hs g hd _
  · rw [show v.toNat = 0 by omega, Int.pow_zero, Int.mul_one, Int.gcd_comm]
    exact gcd_pow hs (by rw [Int.gcd_comm]; exact g) hn _
end Go.Proofs.Ytgckamlibbjgcaa
