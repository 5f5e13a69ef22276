/- Plain mathematics of chapter 10: the number of a polynomial by p, and the polynomial with a number. -/
import Derived.Test.YtjmecidbnoimnaaModDef
namespace Go.Proofs.Ytjmecidbnoimnaa
set_option linter.unusedVariables false
set_option linter.unusedSimpArgs false
/-- the value at p, formed without remainders -/
def numP (p : Int) : List Int → Int
  | [] => 0
  | a :: l => a + p * numP p l
theorem numP_drop (p : Int) : ∀ (f : List Int) (i : Nat), i < f.length → numP p (f.drop i) = numP p (f.drop (i + 1)) * p + f.getD i 0
  | [], i, h => by simp at h
  | a :: l, 0, h => by simp [numP]; rw [Int.mul_comm, Int.add_comm]
  | a :: l, i + 1, h => by
    have := numP_drop p l i (by simpa using h)
    simpa using this
theorem numP_end (p : Int) {f : List Int} {i : Nat} (h : f.length ≤ i) : numP p (f.drop i) = 0 := by
  rw [List.drop_eq_nil_of_le h]; rfl
/-- the digits of n by p, at most k of them -/
def digP (p : Int) : Nat → Int → List Int
  | 0, _ => []
  | k + 1, n => if 0 < n then n % p :: digP p k (n / p) else []
theorem modP_tail {p a : Int} {l : List Int} (h : ModP p (a :: l)) : ModP p l := by
  refine ⟨fun i => by simpa using h.rng (i + 1), ?_⟩
  have h2 := h.last
  unfold lastB at h2 ⊢
  cases l with
  | nil => simp
  | cons b m => simpa using h2
theorem numP_pos {p : Int} (hp : 2 ≤ p) : ∀ {f : List Int}, ModP p f → 0 ≤ numP p f ∧ (f ≠ [] → 0 < numP p f)
  | [], h => ⟨by simp [numP], fun e => absurd rfl e⟩
  | a :: l, h => by
    have ih := numP_pos hp (modP_tail h)
    have ha := h.rng 0
    simp at ha
    by_cases hl : l = []
    · subst hl
      have h2 := h.last
      simp [lastB] at h2
      simp only [numP]
      omega
    · have h3 := ih.2 hl
      have h4 : 0 < p * numP p l := Int.mul_pos (by omega) h3
      simp only [numP]
      omega
theorem num_back {p : Int} (hp : 2 ≤ p) : ∀ {f : List Int} {k : Nat}, ModP p f → f.length ≤ k → digP p k (numP p f) = f
  | [], 0, _, _ => rfl
  | [], k + 1, _, _ => by simp [numP, digP]
  | a :: l, 0, _, h => by simp at h
  | a :: l, k + 1, h, hk => by
    have h0 := (numP_pos hp h).2 (by simp)
    have ha := h.rng 0
    simp at ha
    have e1 : (a + p * numP p l) % p = a := by rw [Int.add_mul_emod_self_left]; exact Int.emod_eq_of_lt ha.1 ha.2
    have e2 : (a + p * numP p l) / p = numP p l := by rw [Int.add_mul_ediv_left _ _ (by omega), Int.ediv_eq_zero_of_lt ha.1 ha.2, Int.zero_add]
    rw [digP, if_pos h0, numP, e1, e2, num_back hp (modP_tail h) (by simpa using hk)]
/-- the digits make the number again -/
theorem dig_back {p : Int} (hp : 2 ≤ p) : ∀ {k : Nat} {n : Int}, 0 ≤ n → n < p ^ k → numP p (digP p k n) = n
  | 0, n, h0, h1 => by simp at h1; simp [digP, numP]; omega
  | k + 1, n, h0, h1 => by
    rw [digP]
    split
    · rename_i h
      have h2 : n / p < p ^ k := Int.ediv_lt_of_lt_mul (by omega) (by rw [Int.pow_succ] at h1; exact h1)
      rw [numP, dig_back hp (Int.ediv_nonneg h0 (by omega)) h2]
      exact Int.emod_add_mul_ediv n p
    · simp [numP]; omega
theorem dig_mod {p : Int} (hp : 2 ≤ p) : ∀ {k : Nat} {n : Int}, 0 ≤ n → n < p ^ k → ModP p (digP p k n)
  | 0, n, h0, h1 => ⟨fun i => by simp [digP]; omega, by simp [digP, lastB]⟩
  | k + 1, n, h0, h1 => by
    rw [digP]
    split
    · rename_i h
      have h2 : n / p < p ^ k := Int.ediv_lt_of_lt_mul (by omega) (by rw [Int.pow_succ] at h1; exact h1)
      have h3 : 0 ≤ n / p := Int.ediv_nonneg h0 (by omega)
      have ih := dig_mod hp h3 h2
      have hb := dig_back hp h3 h2
      refine ⟨fun i => ?_, ?_⟩
      · cases i with
        | zero => exact ⟨Int.emod_nonneg _ (by omega), Int.emod_lt_of_pos _ (by omega)⟩
        | succ i => simpa using ih.rng i
      · generalize digP p k (n / p) = l at *
        cases l with
        | nil =>
          simp [numP] at hb
          have := Int.emod_add_mul_ediv n p
          rw [← hb] at this
          simp [lastB]
          omega
        | cons b m =>
          have h5 := ih.last
          unfold lastB at h5 ⊢
          simpa using h5
    · exact ⟨fun i => by simp; omega, by simp [lastB]⟩
end Go.Proofs.Ytjmecidbnoimnaa
