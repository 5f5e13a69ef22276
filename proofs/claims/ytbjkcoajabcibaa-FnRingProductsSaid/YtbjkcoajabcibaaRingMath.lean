/- Plain mathematics of chapter 2: the modulus of a ring and powers by a modulus, with what holds at the head of each round of the loops that compute them. Conditions: primes from 2 to 97, moduli to 10^9. -/
import Derived.Test.YtbjkcoajabcibaaBezMath
import Derived.Test.YtbjkcoajabcibaaValMath
namespace Go.Proofs.Ytbjkcoajabcibaa
open Go.RowKit
set_option linter.unusedVariables false
/-- the modulus of a ring with a prime and a precision, 0 if it is not valid -/
def ringM (p n : Int) : Int := if smallB p && (decide (1 ≤ n) && decide (p ^ n.toNat ≤ 1000000000)) then p ^ n.toNat else 0
theorem ipow_nat (P k : Nat) : (P : Int) ^ k = ((P ^ k : Nat) : Int) := by simp
theorem pow_ge1 {p : Int} (h : 2 ≤ p) (k : Nat) : 1 ≤ p ^ k := by
  obtain ⟨P, rfl⟩ : ∃ P : Nat, p = P := ⟨p.toNat, by omega⟩
  rw [ipow_nat]; have := Nat.pow_pos (n := k) (show 0 < P by omega); omega
theorem pow_le {p : Int} (h : 2 ≤ p) {j k : Nat} (hjk : j ≤ k) : p ^ j ≤ p ^ k := by
  obtain ⟨P, rfl⟩ : ∃ P : Nat, p = P := ⟨p.toNat, by omega⟩
  rw [ipow_nat, ipow_nat]; have := Nat.pow_le_pow_right (n := P) (show P > 0 by omega) hjk; omega
theorem two_pow_le {p : Int} (h : 2 ≤ p) (k : Nat) : (2 : Int) ^ k ≤ p ^ k := by
  obtain ⟨P, rfl⟩ : ∃ P : Nat, p = P := ⟨p.toNat, by omega⟩
  rw [ipow_nat, show (2 : Int) = ((2 : Nat) : Int) from rfl, ipow_nat]
  have := Nat.pow_le_pow_left (show 2 ≤ P by omega) k; omega
theorem pow_29 {p : Int} (h : 2 ≤ p) {k : Nat} (hk : p ^ k ≤ 1000000000) : k ≤ 29 := by
  refine Nat.le_of_not_lt fun hlt => ?_
  have h1 := pow_le h (show 30 ≤ k by omega)
  have h2 := two_pow_le h 30
  have h3 : (2 : Int) ^ 30 = 1073741824 := by decide
  omega
theorem ringM_in {p n : Int} (h : ringM p n ≠ 0) : smallB p = true ∧ 1 ≤ n ∧ p ^ n.toNat ≤ 1000000000 ∧ ringM p n = p ^ n.toNat := by
  unfold ringM at h ⊢
  split at h
  · rename_i hc
    simp only [Bool.and_eq_true, decide_eq_true_eq] at hc
    simp [hc.1, hc.2.1, hc.2.2]
  · exact absurd rfl h
theorem ringM_bd {p n : Int} (h : ringM p n ≠ 0) : 2 ≤ p ∧ p ≤ 97 ∧ 1 ≤ n ∧ n ≤ 29 ∧ 2 ≤ ringM p n ∧ ringM p n ≤ 1000000000 ∧ p ≤ ringM p n := by
  obtain ⟨h1, h2, h3, h4⟩ := ringM_in h
  obtain ⟨h5, h6⟩ := smallB_bd h1
  have h7 := pow_29 h5 h3
  have h8 := pow_le h5 (show 1 ≤ n.toNat by omega)
  have h9 : p ^ 1 = p := Int.pow_succ p 0 ▸ by simp
  exact ⟨h5, h6, h2, by omega, by omega, by omega, by omega⟩
theorem ringM_small {p n : Int} (h : smallB p = false) : ringM p n = 0 := by simp [ringM, h]
theorem ringM_low {p n : Int} (h : n < 1) : ringM p n = 0 := by simp [ringM, show ¬ (1 ≤ n) by omega]
theorem ringM_high {p n : Int} (h : 30 ≤ n) : ringM p n = 0 := by
  refine Classical.byContradiction fun h0 => ?_
  have := ringM_bd h0; omega
/-- after i rounds -/
def MRel (p i m : Int) : Prop := 0 ≤ i ∧ i ≤ 29 ∧ m = p ^ i.toNat ∧ 1 ≤ m ∧ m ≤ 1000000000
theorem mRel_start (p : Int) : MRel p 0 1 := ⟨by omega, by omega, by simp, by omega, by omega⟩
theorem mRel_mul {p i m : Int} (h : MRel p i m) : m * p = p ^ (i + 1).toNat := by
  rw [h.2.2.1, show (i + 1).toNat = i.toNat + 1 by have := h.1; omega, Int.pow_succ]
theorem mRel_prod {p i m : Int} (hp : 2 ≤ p) (hq : p ≤ 97) (h : MRel p i m) : 2 ≤ m * p ∧ m * p ≤ 97000000000 := by
  obtain ⟨_, _, _, h1, h2⟩ := h
  constructor
  · have := Int.mul_le_mul h1 hp (by omega) (by omega); omega
  · have := Int.mul_le_mul h2 hq (by omega) (by omega); omega
theorem mRel_step {p i m : Int} (hp : 2 ≤ p) (hq : p ≤ 97) (h : MRel p i m) (hm : m * p ≤ 1000000000) : MRel p (i + 1) (m * p) := by
  have h1 := mRel_mul h
  have h2 := mRel_prod hp hq h
  have h3 := pow_29 hp (h1 ▸ hm)
  exact ⟨by have := h.1; omega, by omega, h1, by omega, hm⟩
theorem mRel_over {p n i m : Int} (hp : 2 ≤ p) (h : MRel p i m) (hm : 1000000000 < m * p) (hi : i < n) : ringM p n = 0 := by
  refine Classical.byContradiction fun h0 => ?_
  obtain ⟨_, _, h3, _⟩ := ringM_in h0
  have h1 := mRel_mul h
  have := pow_le hp (show (i + 1).toNat ≤ n.toNat by have := h.1; omega)
  omega
theorem mRel_end {p n i m : Int} (hs : smallB p = true) (h : MRel p i m) (hi : i = n) (hn : 1 ≤ n) : ringM p n = m := by
  subst hi
  have : p ^ i.toNat ≤ 1000000000 := by rw [← h.2.2.1]; exact h.2.2.2.2
  simp [ringM, hs, hn, this, h.2.2.1]
theorem over_iff {p m : Int} (hp : 2 ≤ p) : (1000000000 : Int) / p < m ↔ 1000000000 < m * p := Int.ediv_lt_iff_lt_mul (by omega)
/-- the remainder of a power -/
def powM (a : Int) (e : Nat) (m : Int) : Int := a ^ e % m
theorem pow_emod (a m : Int) (k : Nat) : (a % m) ^ k % m = a ^ k % m := by
  induction k with
  | zero => simp
  | succ k ih => rw [Int.pow_succ, Int.pow_succ, Int.mul_emod, ih, Int.emod_emod, ← Int.mul_emod]
theorem sq_pow (a : Int) (k : Nat) : (a * a) ^ k = a ^ (2 * k) := by
  rw [Int.pow_mul, show a ^ 2 = a * a by simp [Int.pow_succ]]
theorem mul_emod_l (a b m : Int) : (a % m) * b % m = a * b % m := by rw [Int.mul_emod, Int.emod_emod, ← Int.mul_emod]
theorem mul_emod_r (a b m : Int) : a * (b % m) % m = a * b % m := by rw [Int.mul_emod, Int.emod_emod, ← Int.mul_emod]
/-- at the head of a round of a power's loop -/
def PRel (a0 : Int) (e0 : Nat) (m out a e : Int) : Prop :=
  0 ≤ out ∧ out < m ∧ 0 ≤ a ∧ a < m ∧ 0 ≤ e ∧ e ≤ 4000000000000000000 ∧ out * a ^ e.toNat % m = a0 ^ e0 % m
theorem pRel_start {a0 e0 m : Int} (hm : 2 ≤ m) (h1 : 0 ≤ a0) (h2 : a0 < m) (h3 : 0 ≤ e0) (h4 : e0 ≤ 4000000000000000000) : PRel a0 e0.toNat m 1 a0 e0 :=
  ⟨by omega, by omega, h1, h2, h3, h4, by simp⟩
theorem prod_lt {a b m : Int} (hm : m ≤ 1000000000) (h1 : 0 ≤ a) (h2 : a < m) (h3 : 0 ≤ b) (h4 : b < m) : 0 ≤ a * b ∧ a * b ≤ 1000000000000000000 := by
  refine ⟨Int.mul_nonneg h1 h3, ?_⟩
  have := Int.mul_le_mul (show a ≤ 1000000000 by omega) (show b ≤ 1000000000 by omega) h3 (by omega)
  omega
theorem tmod_nonneg {a m : Int} (h : 0 ≤ a) : a.tmod m = a % m := Int.tmod_eq_emod_of_nonneg h
theorem pRel_odd {a0 m out a e : Int} {e0 : Nat} (hm : 2 ≤ m) (h : PRel a0 e0 m out a e) (ho : e % 2 = 1) :
    PRel a0 e0 m (out * a % m) (a * a % m) (e / 2) := by
  obtain ⟨h1, h2, h3, h4, h5, h6, h7⟩ := h
  refine ⟨Int.emod_nonneg _ (by omega), Int.emod_lt_of_pos _ (by omega), Int.emod_nonneg _ (by omega), Int.emod_lt_of_pos _ (by omega), by omega, by omega, ?_⟩
  rw [← h7, mul_emod_l, ← mul_emod_r, pow_emod, mul_emod_r, sq_pow, show e.toNat = 2 * (e / 2).toNat + 1 by omega, Int.pow_succ, Int.mul_assoc out a, Int.mul_comm a (a ^ _)]
theorem pRel_even {a0 m out a e : Int} {e0 : Nat} (hm : 2 ≤ m) (h : PRel a0 e0 m out a e) (ho : e % 2 = 0) :
    PRel a0 e0 m out (a * a % m) (e / 2) := by
  obtain ⟨h1, h2, h3, h4, h5, h6, h7⟩ := h
  refine ⟨h1, h2, Int.emod_nonneg _ (by omega), Int.emod_lt_of_pos _ (by omega), by omega, by omega, ?_⟩
  rw [← h7, ← mul_emod_r, pow_emod, mul_emod_r, sq_pow, show e.toNat = 2 * (e / 2).toNat by omega]

theorem pRel_end {a0 m out a e : Int} {e0 : Nat} (h : PRel a0 e0 m out a e) (he : e ≤ 0) : out = powM a0 e0 m := by
  obtain ⟨h1, h2, h3, h4, h5, h6, h7⟩ := h
  have : e = 0 := by omega
  subst this
  simp only [Int.toNat_zero, Int.pow_zero, Int.mul_one] at h7
  rw [powM, ← h7, Int.emod_eq_of_lt h1 h2]
theorem powM_bd {a m : Int} {e : Nat} (hm : 2 ≤ m) : 0 ≤ powM a e m ∧ powM a e m < m := ⟨Int.emod_nonneg _ (by omega), Int.emod_lt_of_pos _ (by omega)⟩
theorem tmod_self (x m : Int) : x.tmod m % m = x % m := by
  have h := Int.tmod_add_mul_tdiv x m
  have e : x.tmod m = x - m * x.tdiv m := by omega
  rw [e]
  have h2 : m ∣ x - (x - m * x.tdiv m) := ⟨x.tdiv m, by omega⟩
  exact ((Int.emod_eq_emod_iff_emod_sub_eq_zero).2 (Int.emod_eq_zero_of_dvd h2)).symm
theorem tmod_bd {x m : Int} (hm : 0 < m) : -m < x.tmod m ∧ x.tmod m < m := by
  have := tmod_lt x (show m ≠ 0 by omega); omega
theorem rem_pos {x m : Int} (hm : 0 < m) (h : ¬ x.tmod m < 0) : x.tmod m = x % m := by
  have := tmod_bd (x := x) hm
  rw [← tmod_self, Int.emod_eq_of_lt (by omega) (by omega)]
theorem rem_neg {x m : Int} (hm : 0 < m) (h : x.tmod m < 0) : x.tmod m + m = x % m := by
  have := tmod_bd (x := x) hm
  rw [← tmod_self, ← Int.add_emod_right, Int.emod_eq_of_lt (by omega) (by omega)]
theorem mod_twice {x m : Int} (hm : 0 < m) : (x.tmod m + m).tmod m = x % m := by
  have := tmod_bd (x := x) hm
  rw [tmod_nonneg (by omega), Int.add_emod_right, tmod_self]
theorem mod_twice2 {x m : Int} (hm : 0 < m) : (x.tmod m + m) % m = x % m := by rw [Int.add_emod_right, tmod_self]
end Go.Proofs.Ytbjkcoajabcibaa
