/- Plain mathematics of chapter 9: powers by the prime itself. -/
import Derived.Test.YtckpeoadglkbgaaModDer
import Derived.Test.YtckpeoadglkbgaaSylMath
namespace Go.Proofs.Ytckpeoadglkbgaa
set_option linter.unusedVariables false
set_option maxRecDepth 20000
set_option linter.unusedSimpArgs false
theorem binZ_succ (a b : Nat) : binZ (a + 1) (b + 1) = binZ a b + binZ a (b + 1) := by simp [binZ]
theorem bin_mul : ∀ n k : Nat, ((k : Int) + 1) * binZ (n + 1) (k + 1) = ((n : Int) + 1) * binZ n k
  | 0, k => by
    rw [binZ_succ, bin_out (a := 0) (b := k + 1) (by omega)]
    cases k with
    | zero => simp
    | succ k => rw [bin_out (by omega)]; simp
  | n + 1, 0 => by
    have h := bin_mul n 0
    rw [binZ_succ (n + 1) 0, bin_zero]
    rw [bin_zero] at h
    push_cast at h ⊢
    omega
  | n + 1, k + 1 => by
    have h1 := bin_mul n (k + 1)
    have h2 := bin_mul n k
    have h3 := binZ_succ n k
    rw [binZ_succ (n + 1) (k + 1)]
    push_cast at *
    generalize binZ (n + 1) (k + 1) = A at *
    generalize binZ (n + 1) (k + 1 + 1) = B at *
    generalize binZ n k = C at *
    generalize binZ n (k + 1) = D at *
    subst h3
    grind
theorem bin_dvd {p : Int} {P : Nat} (hp : PrimeP p) (hP : (P : Int) = p) {k : Nat} (h0 : 0 < k) (h1 : k < P) : p ∣ binZ P k := by
  obtain ⟨j, rfl⟩ : ∃ j, k = j + 1 := ⟨k - 1, by omega⟩
  obtain ⟨n, rfl⟩ : ∃ n, P = n + 1 := ⟨P - 1, by omega⟩
  have h := bin_mul n j
  have h2 : p ∣ ((j : Int) + 1) * binZ (n + 1) (j + 1) := ⟨binZ n j, by rw [h, ← hP]; push_cast; rfl⟩
  rcases hp.2 _ _ h2 with h3 | h3
  · exfalso
    have := Int.le_of_dvd (by omega) h3
    omega
  · exact h3
theorem binom (a b : Int) : ∀ n, (a + b) ^ n = sumZ (n + 1) fun k => binZ n k * (a ^ k * b ^ (n - k))
  | 0 => by simp [sumZ, bin_zero]
  | n + 1 => by
    have h := binom a b n
    rw [Int.pow_succ, h, sumZ_first (n + 1) (fun k => binZ (n + 1) k * (a ^ k * b ^ (n + 1 - k)))]
    have e1 : sumZ (n + 1) (fun k => binZ (n + 1) (k + 1) * (a ^ (k + 1) * b ^ (n + 1 - (k + 1)))) = sumZ (n + 1) (fun k => a * (binZ n k * (a ^ k * b ^ (n - k))) + 1 * (binZ n (k + 1) * (a ^ (k + 1) * b ^ (n + 1 - (k + 1))))) := sumZ_congr fun i hi => by
      rw [binZ_succ, show n + 1 - (i + 1) = n - i by omega, Int.pow_succ]; grind
    rw [e1, sumZ_lin]
    have e2 := sumZ_first (n + 1) (fun k => binZ n k * (a ^ k * b ^ (n + 1 - k)))
    have e3 : sumZ (n + 2) (fun k => binZ n k * (a ^ k * b ^ (n + 1 - k))) = sumZ (n + 1) (fun k => binZ n k * (a ^ k * b ^ (n + 1 - k))) := by
      rw [sumZ, bin_out (by omega)]; simp
    have e4 : sumZ (n + 1) (fun k => binZ n k * (a ^ k * b ^ (n + 1 - k))) = sumZ (n + 1) (fun k => b * (binZ n k * (a ^ k * b ^ (n - k))) + 0 * 0) := sumZ_congr fun i hi => by
      rw [show n + 1 - i = (n - i) + 1 by omega, Int.pow_succ]; grind
    rw [sumZ_lin b 0 (n + 1) (fun k => binZ n k * (a ^ k * b ^ (n - k))) (fun _ => 0)] at e4
    simp only [bin_zero, Nat.sub_zero, Int.pow_zero] at e2 ⊢
    generalize sumZ (n + 1) (fun k => binZ n k * (a ^ k * b ^ (n - k))) = S at *
    rw [e3, e4] at e2
    grind
/-- a sum of polynomials -/
def sumL : Nat → (Nat → List Int) → List Int
  | 0, _ => []
  | n + 1, F => addL (sumL n F) (F n) 1
theorem pval_sumL (F : Nat → List Int) (x : Int) : ∀ n, pval (sumL n F) x = sumZ n fun k => pval (F k) x
  | 0 => rfl
  | n + 1 => by rw [sumL, pval_add, pval_sumL F x n, sumZ, Int.one_mul]
theorem frob_add {p : Int} {P : Nat} (hp : PrimeP p) (hP : (P : Int) = p) (u v : List Int) : CgP p (powP (addL u v 1) P) (addL (powP u P) (powP v P) 1) := by
  obtain ⟨n, rfl⟩ : ∃ n, P = n + 1 := ⟨P - 1, by have := hp.1; omega⟩
  refine ⟨sumL n fun k => smulL (binZ (n + 1) (k + 1) / p) (mulL (powP u (k + 1)) (powP v (n - k))), fun x => ?_⟩
  rw [pval_powP, pval_add, Int.one_mul, binom, sumZ_first, sumZ, bin_self, bin_zero, pval_sumL, pval_add, pval_powP, pval_powP]
  have e : sumZ n (fun k => binZ (n + 1) (k + 1) * (pval u x ^ (k + 1) * pval v x ^ (n + 1 - (k + 1)))) = sumZ n (fun k => p * pval (smulL (binZ (n + 1) (k + 1) / p) (mulL (powP u (k + 1)) (powP v (n - k)))) x + 0 * 0) := sumZ_congr fun i hi => by
    have hd := Int.mul_ediv_cancel' (bin_dvd hp hP (k := i + 1) (by omega) (by omega))
    rw [pval_smul, pval_mul, pval_powP, pval_powP, show n + 1 - (i + 1) = n - i by omega]
    grind
  rw [sumZ_lin p 0 n (fun k => pval (smulL (binZ (n + 1) (k + 1) / p) (mulL (powP u (k + 1)) (powP v (n - k)))) x) (fun _ => 0)] at e
  rw [e]
  simp only [Nat.sub_self, Nat.sub_zero, Int.pow_zero]
  omega
theorem dvd_pow_sub {p x y : Int} (h : p ∣ x - y) : ∀ n : Nat, p ∣ x ^ n - y ^ n
  | 0 => by simp
  | n + 1 => by
    obtain ⟨c, hc⟩ := h
    obtain ⟨d, hd⟩ := dvd_pow_sub ⟨c, hc⟩ n
    exact ⟨c * x ^ n + y * d, by rw [Int.pow_succ, Int.pow_succ]; grind⟩
theorem fermatP_nat {p : Int} {P : Nat} (hp : PrimeP p) (hP : (P : Int) = p) : ∀ a : Nat, p ∣ (a : Int) ^ P - a
  | 0 => by
    obtain ⟨n, rfl⟩ : ∃ n, P = n + 1 := ⟨P - 1, by have := hp.1; omega⟩
    simp [Int.pow_succ]
  | a + 1 => by
    obtain ⟨c, hc⟩ := fermatP_nat hp hP a
    obtain ⟨w, hw⟩ := frob_add hp hP [(a : Int)] [1]
    have := hw 0
    rw [pval_powP, pval_add, pval_add, pval_powP, pval_powP, pval_one, pval_one, Int.one_mul, Int.one_pow, Int.one_mul] at this
    exact ⟨c + pval w 0, by push_cast; rw [this]; rw [Int.mul_add]; omega⟩
theorem fermatP {p : Int} {P : Nat} (hp : PrimeP p) (hP : (P : Int) = p) (a : Int) : p ∣ a ^ P - a := by
  have hp2 := hp.1
  have h0 := Int.emod_nonneg a (show p ≠ 0 by omega)
  obtain ⟨c, hc⟩ := fermatP_nat hp hP (a % p).toNat
  rw [Int.toNat_of_nonneg h0] at hc
  have h1 := Int.emod_add_mul_ediv a p
  obtain ⟨d, hd⟩ := dvd_pow_sub (p := p) (x := a) (y := a % p) ⟨a / p, by omega⟩ P
  exact ⟨c + d - a / p, by rw [Int.mul_sub, Int.mul_add]; omega⟩
/-- g of x to the p -/
def upX (P : Nat) : List Int → List Int
  | [] => []
  | a :: l => a :: (List.replicate (P - 1) 0 ++ upX P l)
theorem pval_zeros (h : List Int) (x : Int) : ∀ m, pval (List.replicate m 0 ++ h) x = x ^ m * pval h x
  | 0 => by simp
  | m + 1 => by rw [List.replicate_succ, List.cons_append, pval_up, pval_zeros h x m, Int.pow_succ]; grind
theorem pval_upX {P : Nat} (hP : 0 < P) (x : Int) : ∀ g, pval (upX P g) x = pval g (x ^ P)
  | [] => rfl
  | a :: l => by
    rw [upX, pval_cons, pval_cons, pval_zeros, pval_upX hP x l]
    obtain ⟨n, rfl⟩ : ∃ n, P = n + 1 := ⟨P - 1, by omega⟩
    rw [Nat.add_sub_cancel, Int.pow_succ]; grind
theorem upX_getD {P : Nat} (hP : 0 < P) : ∀ (g : List Int) (j : Nat), (upX P g).getD j 0 = if j % P = 0 then g.getD (j / P) 0 else 0
  | [], j => by simp [upX]
  | a :: l, j => by
    rw [upX]
    cases j with
    | zero => simp
    | succ j =>
      rw [show (a :: (List.replicate (P - 1) 0 ++ upX P l)).getD (j + 1) 0 = (List.replicate (P - 1) 0 ++ upX P l).getD j 0 by simp]
      by_cases h : j + 1 < P
      · rw [Nat.mod_eq_of_lt h, if_neg (by omega)]
        simp [List.getD, List.getElem?_append, show j < P - 1 by omega]
      · obtain ⟨m, rfl⟩ : ∃ m, j = m + (P - 1) := ⟨j - (P - 1), by omega⟩
        have e : m + (P - 1) + 1 = m + P := by omega
        rw [e, Nat.add_mod_right, Nat.add_div_right _ hP]
        rw [show (List.replicate (P - 1) (0 : Int) ++ upX P l).getD (m + (P - 1)) 0 = (upX P l).getD m 0 by
          simp [List.getD, List.getElem?_append, show ¬ m + (P - 1) < P - 1 by omega]]
        rw [upX_getD hP l m]
        simp
/-- powers by the prime itself -/
theorem frob {p : Int} {P : Nat} (hp : PrimeP p) (hP : (P : Int) = p) : ∀ g, CgP p (powP g P) (upX P g)
  | [] => cgp_val fun x => by
    obtain ⟨n, rfl⟩ : ∃ n, P = n + 1 := ⟨P - 1, by have := hp.1; omega⟩
    rw [pval_powP, pval_upX (by omega), pval_nil, pval_nil, Int.pow_succ, Int.mul_zero]
  | a :: l => by
    have hP0 : 0 < P := by have := hp.1; omega
    obtain ⟨w, hw⟩ := frob_add hp hP [a] (0 :: l)
    obtain ⟨v, hv⟩ := frob hp hP l
    obtain ⟨c, hc⟩ := fermatP hp hP a
    refine ⟨addL (addL w [c] 1) (mulL (xL P) v) 1, fun x => ?_⟩
    have e1 := hw x
    have e2 := hv x
    rw [pval_upX hP0] at e2 ⊢
    simp only [pval_add, pval_mul, pval_powP, pval_one, pval_up, pval_cons, pval_xL, pval_nil, Int.one_mul, Int.mul_zero, Int.add_zero, Int.zero_add] at e1 e2 ⊢
    rw [Int.mul_pow, e2] at e1
    rw [e1]
    grind
/-- a polynomial whose derivative is 0 is the power of another one -/
def rootX (P : Nat) (f : List Int) : List Int := tabL ((f.length + (P - 1)) / P) fun i => f.getD (i * P) 0
theorem der_none {p : Int} {P : Nat} (hp : PrimeP p) (hP : (P : Int) = p) {f : List Int} (hf : ModP p f) (h : ∀ i, p ∣ (derL f).getD i 0) : CgP p f (powP (rootX P f) P) := by
  have hP0 : 0 < P := by have := hp.1; omega
  refine cgp_trans (cgp_val fun x => pval_same x fun j => ?_) (cgp_symm (frob hp hP _))
  rw [upX_getD hP0]
  by_cases h0 : j % P = 0
  · rw [if_pos h0, rootX]
    have h1 : j / P * P = j := by have := Nat.div_add_mod j P; rw [Nat.mul_comm]; omega
    by_cases h2 : j / P < (f.length + (P - 1)) / P
    · rw [tabL_getD h2, h1]
    · rw [tabL_out (by omega), getD_out]
      have h3 : f.length + (P - 1) < (j / P + 1) * P := by
        rw [← Nat.div_lt_iff_lt_mul hP0]; omega
      rw [Nat.add_mul, h1] at h3
      omega
  · rw [if_neg h0]
    obtain ⟨i, rfl⟩ : ∃ i, j = i + 1 := ⟨j - 1, by have : j ≠ 0 := fun e => h0 (by rw [e]; simp); omega⟩
    have h1 := h i
    rw [derL_getD] at h1
    rcases hp.2 _ _ h1 with h2 | h2
    · exfalso
      rw [← hP] at h2
      have h3 : P ∣ i + 1 := by exact_mod_cast h2
      exact h0 (Nat.mod_eq_zero_of_dvd h3)
    · exact mod_same (hf.rng _) ⟨Int.le_refl _, by have := hp.1; omega⟩ (by rwa [Int.sub_zero])
end Go.Proofs.Ytckpeoadglkbgaa
