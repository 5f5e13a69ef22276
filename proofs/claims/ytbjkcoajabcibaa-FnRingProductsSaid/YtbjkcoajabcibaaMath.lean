/- Plain mathematics for chapter 1's contracts: when an integer has no divisor up to its root, and the Bool functions that the contracts answer. No conditions. -/
namespace Go.Proofs.Ytbjkcoajabcibaa
/-- no number from 2 below k divides n -/
def NoDiv (n : Int) (k : Nat) : Prop := ∀ j : Nat, 2 ≤ j → j < k → n % (j : Int) ≠ 0
/-- no number whose square is at most n divides n -/
def primeB (n : Int) : Bool := (List.range n.toNat).all fun d => decide (2 ≤ d → (d : Int) * d ≤ n → n % (d : Int) ≠ 0)
def inB (n lo hi : Int) : Bool := decide (lo ≤ n) && decide (n ≤ hi)
def valueB (n : Int) : Bool := inB n (-1000000000000) 1000000000000
def isPrimeB (n : Int) : Bool := inB n 2 1000000 && primeB n
def smallB (n : Int) : Bool := inB n 2 97 && primeB n

theorem inB_t {n lo hi : Int} (h1 : lo ≤ n) (h2 : n ≤ hi) : inB n lo hi = true := by simp [inB, h1, h2]
theorem inB_f {n lo hi : Int} (h : n < lo ∨ hi < n) : inB n lo hi = false := by
  unfold inB; rcases h with h | h
  · rw [decide_eq_false (by omega : ¬ lo ≤ n)]; rfl
  · rw [decide_eq_false (by omega : ¬ n ≤ hi)]; simp

theorem noDiv_two (n : Int) : NoDiv n 2 := fun j h1 h2 => by omega
theorem noDiv_succ {n : Int} {k : Nat} (h : NoDiv n k) (h0 : n % (k : Int) ≠ 0) : NoDiv n (k + 1) := by
  intro j h1 h2
  by_cases e : j = k
  · subst e; exact h0
  · exact h j h1 (by omega)
theorem primeB_true {n : Int} {k : Nat} (h : NoDiv n k) (hk : n < (k : Int) * k) : primeB n = true := by
  unfold primeB; rw [List.all_eq_true]; intro d _
  apply decide_eq_true; intro h2 h3
  refine h d h2 ?_
  refine Nat.lt_of_not_le fun hle => ?_
  have : k * k ≤ d * d := Nat.mul_le_mul hle hle
  have : ((k * k : Nat) : Int) ≤ ((d * d : Nat) : Int) := by exact_mod_cast this
  simp at this; omega
theorem primeB_false {n : Int} {k : Nat} (h2 : 2 ≤ k) (h3 : (k : Int) * k ≤ n) (h0 : n % (k : Int) = 0) : primeB n = false := by
  have hk : k < n.toNat := by
    have : 2 * k ≤ k * k := Nat.mul_le_mul h2 (Nat.le_refl _)
    have : ((2 * k : Nat) : Int) ≤ ((k * k : Nat) : Int) := by exact_mod_cast this
    simp at this; omega
  rw [← Bool.not_eq_true]; intro ht
  unfold primeB at ht; rw [List.all_eq_true] at ht
  have := ht k (by simp [hk])
  exact of_decide_eq_true this h2 h3 h0
theorem sq_le_1000 {k : Nat} {n : Int} (hn : n ≤ 1000000) (h : (k : Int) * k ≤ n) : k ≤ 1000 := by
  refine Nat.le_of_not_lt fun hlt => ?_
  have : 1001 * 1001 ≤ k * k := Nat.mul_le_mul hlt hlt
  have : ((1001 * 1001 : Nat) : Int) ≤ ((k * k : Nat) : Int) := by exact_mod_cast this
  simp at this; omega
theorem sq_bd {k : Nat} (h : k ≤ 1001) : 0 ≤ (k : Int) * k ∧ (k : Int) * k ≤ 1002001 := by
  have : k * k ≤ 1001 * 1001 := Nat.mul_le_mul h h
  have : ((k * k : Nat) : Int) ≤ ((1001 * 1001 : Nat) : Int) := by exact_mod_cast this
  simp at this; exact ⟨by exact_mod_cast Nat.zero_le _, by omega⟩
theorem isPrimeB_in {n : Int} (h1 : 2 ≤ n) (h2 : n ≤ 1000000) : isPrimeB n = primeB n := by simp [isPrimeB, inB_t h1 h2]
theorem isPrimeB_out {n : Int} (h : n < 2 ∨ 1000000 < n) : isPrimeB n = false := by simp [isPrimeB, inB_f h]
theorem smallB_in {n : Int} (h1 : 2 ≤ n) (h2 : n ≤ 97) : smallB n = primeB n := by simp [smallB, inB_t h1 h2]
theorem smallB_out {n : Int} (h : n < 2 ∨ 97 < n) : smallB n = false := by simp [smallB, inB_f h]
theorem gcd_tmod (x y : Int) : Int.gcd y (x.tmod y) = Int.gcd x y := by
  show Nat.gcd y.natAbs (x.tmod y).natAbs = Nat.gcd x.natAbs y.natAbs
  rw [Int.natAbs_tmod, Nat.gcd_comm, ← Nat.gcd_rec, Nat.gcd_comm]
theorem gcd_nmod (x y : Nat) : Int.gcd (y : Int) ((x % y : Nat) : Int) = Int.gcd (x : Int) (y : Int) := by
  show Nat.gcd y (x % y) = Nat.gcd x y
  rw [Nat.gcd_comm, ← Nat.gcd_rec, Nat.gcd_comm]
theorem tmod_lt (x : Int) {y : Int} (h : y ≠ 0) : (x.tmod y).natAbs < y.natAbs := by
  rw [Int.natAbs_tmod]; exact Nat.mod_lt _ (by omega)
theorem tmod_le (x y : Int) : (x.tmod y).natAbs ≤ x.natAbs := by
  rw [Int.natAbs_tmod]; exact Nat.mod_le _ _
theorem valueB_t {n : Int} (h1 : -1000000000000 ≤ n) (h2 : n ≤ 1000000000000) : valueB n = true := inB_t h1 h2
theorem valueB_f {n : Int} (h : ¬ (-1000000000000 ≤ n ∧ n ≤ 1000000000000)) : valueB n = false := inB_f (by omega)
theorem valueB_bd {n : Int} (h : valueB n = true) : -1000000000000 ≤ n ∧ n ≤ 1000000000000 := by
  simpa [valueB, inB] using h
/-- what both CommonDivisor answer: the number and the code -/
def commonG (a b : Int) : Int := if valueB a && valueB b then (Int.gcd a b : Int) else 0
def commonC (a b : Int) : Int := if valueB a && valueB b then 0 else 2
theorem commonG_t {a b : Int} (ha : valueB a = true) (hb : valueB b = true) : commonG a b = (Int.gcd a b : Int) := by simp [commonG, ha, hb]
theorem commonC_t {a b : Int} (ha : valueB a = true) (hb : valueB b = true) : commonC a b = 0 := by simp [commonC, ha, hb]
theorem commonG_f {a b : Int} (h : valueB a = false ∨ valueB b = false) : commonG a b = 0 := by rcases h with h | h <;> simp [commonG, h]
theorem commonC_f {a b : Int} (h : valueB a = false ∨ valueB b = false) : commonC a b = 2 := by rcases h with h | h <;> simp [commonC, h]
end Go.Proofs.Ytbjkcoajabcibaa
