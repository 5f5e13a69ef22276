/- Plain mathematics of chapter 12: there are inverses, when powers reach the modulus, what is divided by a power. -/
import Derived.Test.YtbjkcoajabcibaaLfA
namespace Go.Proofs.Ytbjkcoajabcibaa
set_option linter.unusedVariables false
set_option linter.unusedSimpArgs false
theorem inv_exists {p : Int} {g h : List Int} (h2 : 2 ≤ p) (h97 : p ≤ 97) (hp : PrimeP p) (hg : ModP p g) (hh : ModP p h) (lg : 2 ≤ g.length) (h1 : (gcdL p g h).length = 1) : IsInvP p h g (invL p h g) := by
  have G := gcdL_is h2 h97 hp hg hh
  have hne : gcdL p g h ≠ [] := fun e => by rw [e] at h1; simp at h1
  have hm := G.mon.resolve_left hne
  obtain ⟨d, hd⟩ := List.length_eq_one_iff.1 h1
  rw [hd] at hm
  simp only [List.length_singleton, Nat.sub_self, List.getD_cons_zero] at hm
  obtain ⟨u, v, k, hk⟩ := G.comb
  rw [hd, hm] at hk
  have hdv := divP_is h2 h97 hp (redL_mod (by omega) v) hg (fun e => by rw [e] at lg; simp at lg)
  obtain ⟨m, hm'⟩ := hdv.eq
  obtain ⟨r, hr⟩ := redL_cg p v
  refine invL_is (s := remP p (redL p v) g) ⟨hdv.mr, hdv.deg, addL (smulL (-1) u) (mulL h (quoP p (redL p v) g)) (-1), addL (mulL h (addL r m (-1))) k (-1), fun x => ?_⟩
  have f1 := hk x
  have f2 := hm' x
  have f3 := hr x
  simp only [pval_add, pval_mul, pval_smul, pval_one] at f1 f2 f3 ⊢
  generalize pval h x = H at *
  generalize pval g x = G at *
  generalize pval (quoP p (redL p v) g) x = Q at *
  generalize pval (remP p (redL p v) g) x = R at *
  generalize pval (redL p v) x = D at *
  generalize pval u x = U at *
  generalize pval v x = V at *
  generalize pval k x = K at *
  generalize pval m x = M at *
  generalize pval r x = RR at *
  have f4 : R = V + p * RR - G * Q - p * M := by omega
  rw [f4]
  grind
theorem both_inv {p : Int} {f g h : List Int} (h2 : 2 ≤ p) (h97 : p ≤ 97) (hp : PrimeP p) (hg : ModP p g) (hh : ModP p h) (e : TwinOk p f g h) : InvOk p g h :=
  ⟨inv_exists h2 h97 hp hg hh e.lg e.one, inv_exists h2 h97 hp hh hg e.lh (by rw [gcdL_comm h2 h97 hp hh hg]; exact e.one)⟩
theorem pow_more {p : Int} (h2 : 2 ≤ p) (k : Nat) : p ^ k < p ^ (k + 1) := by
  have h := pow_ge1 h2 k
  rw [Int.pow_succ]
  have : p ^ k * 2 ≤ p ^ k * p := Int.mul_le_mul_of_nonneg_left h2 (by omega)
  omega
theorem pow_reach {p : Int} (h2 : 2 ≤ p) {k N : Nat} : p ^ k < p ^ N ↔ k < N := by
  constructor
  · intro h
    by_cases h3 : k < N
    · exact h3
    · have := pow_le h2 (show N ≤ k by omega); omega
  · intro h
    have h4 := pow_more h2 k
    have h5 := pow_le h2 (show k + 1 ≤ N by omega)
    omega
theorem lack_eq (p q M : Int) (f a b D : List Int) (h : redL M (addL f (prodL M a b) (-1)) = D) : lackL p q M f a b = trimL (tabL D.length fun i => D.getD i 0 / q % p) := by
  unfold lackL redL
  rw [show trimL (tabL (addL f (prodL M a b) (-1)).length fun i => (addL f (prodL M a b) (-1)).getD i 0 % M) = D from h, tabL_length]
  congr 1
  exact List.ext_getElem (by simp [tabL]) fun i h1 h2 => by simp [tabL] at h1 ⊢; simp [h1]
theorem lifN_succ (p M : Int) (f g h : List Int) (k : Nat) : lifN p M f g h (k + 1) = stepF p (p ^ (k + 1)) M f g h (lifN p M f g h k) := rfl
end Go.Proofs.Ytbjkcoajabcibaa
