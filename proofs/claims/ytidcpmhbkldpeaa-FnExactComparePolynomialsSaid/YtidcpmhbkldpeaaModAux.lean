/- Plain mathematics of chapter 8: what the walks over division, products, common divisors and powers keep in their loops. -/
import Derived.Test.YtidcpmhbkldpeaaModLaws
import Derived.Test.YtidcpmhbkldpeaaPolySpec5
namespace Go.Proofs.Ytidcpmhbkldpeaa
set_option linter.unusedVariables false
set_option maxRecDepth 20000
set_option linter.unusedSimpArgs false
theorem prime_inv {p inv a : Int} (hp : PrimeP p) (hi : p ∣ inv * a - 1) : ¬ p ∣ inv := by
  rintro ⟨c, rfl⟩
  obtain ⟨d, hd⟩ := hi
  have h1 : p * (c * a - d) = 1 := by grind
  have h2 := hp.1
  rcases (by omega : c * a - d ≤ 0 ∨ 1 ≤ c * a - d) with h | h
  · have := Int.mul_le_mul_of_nonneg_left h (show (0 : Int) ≤ p by omega)
    omega
  · have := Int.mul_le_mul_of_nonneg_left h (show (0 : Int) ≤ p by omega)
    omega
/-! division -/
def subX (p : Int) (r : Nat → Int) (g : List Int) (c : Int) (N i j : Nat) : List Int := tabL N fun t => if i ≤ t ∧ t < i + j then (r t - c * g.getD (t - i) 0) % p else r t
theorem subX_zero (p : Int) (r : Nat → Int) (g : List Int) (c : Int) (N i : Nat) : subX p r g c N i 0 = tabL N r := tabL_ext fun t ht => by rw [if_neg (by omega)]
theorem subX_length (p : Int) (r : Nat → Int) (g : List Int) (c : Int) (N i j : Nat) : (subX p r g c N i j).length = N := tabL_length _ _
theorem subX_at {p : Int} {r : Nat → Int} {g : List Int} {c : Int} {N i j t : Nat} (ht : i + j = t) (h9 : t < N) : (subX p r g c N i j).getD t 0 = r t := by
  rw [subX, tabL_getD h9, if_neg (by omega)]
theorem subX_step {p : Int} {r : Nat → Int} {g : List Int} {c : Int} {N i j t : Nat} (ht : i + j = t) (h9 : t < N) : (subX p r g c N i j).set t ((r t - c * g.getD j 0) % p) = subX p r g c N i (j + 1) := by
  unfold subX
  rw [tab_set _ h9]
  refine tabL_ext fun u hu => ?_
  by_cases e : u = t
  · rw [if_pos e, if_pos (by omega), e, show t - i = j by omega]
  · rw [if_neg e]
    by_cases h2 : i ≤ u ∧ u < i + j
    · rw [if_pos h2, if_pos (by omega)]
    · rw [if_neg h2, if_neg (by omega)]
theorem subX_end {p inv : Int} {g : List Int} {r0 : Nat → Int} {N i k : Nat} (h : i + g.length + k = N) : subX p (mdS p inv g r0 N k) g (mdC p inv g r0 N k) N i g.length = tabL N (mdS p inv g r0 N (k + 1)) := by
  unfold subX
  refine tabL_ext fun t ht => ?_
  show _ = if N - g.length - k ≤ t ∧ t < N - g.length - k + g.length then (mdS p inv g r0 N k t - mdC p inv g r0 N k * g.getD (t - (N - g.length - k)) 0) % p else mdS p inv g r0 N k t
  rw [show N - g.length - k = i by omega]
def qX (p inv : Int) (f g : List Int) (q k : Nat) : List Int := tabL q fun j => if f.length < j + g.length + k then mdC p inv g (fun j => f.getD j 0) f.length (f.length - g.length - j) else 0
theorem qX_zero {p inv : Int} {f g : List Int} {q : Nat} (h : q + g.length = f.length + 1) : qX p inv f g q 0 = tabL q fun _ => 0 := tabL_ext fun j hj => by rw [if_neg (by omega)]
theorem qX_length (p inv : Int) (f g : List Int) (q k : Nat) : (qX p inv f g q k).length = q := tabL_length _ _
theorem qX_step {p inv : Int} {f g : List Int} {q k i : Nat} (h : q + g.length = f.length + 1) (hi : i + g.length + k = f.length) : (qX p inv f g q k).set i (mdC p inv g (fun j => f.getD j 0) f.length k) = qX p inv f g q (k + 1) := by
  unfold qX
  rw [tab_set _ (by omega)]
  refine tabL_ext fun t ht => ?_
  by_cases e : t = i
  · rw [if_pos e, if_pos (by omega), e, show f.length - g.length - i = k by omega]
  · rw [if_neg e]
    by_cases h2 : f.length < t + g.length + k
    · rw [if_pos h2, if_pos (by omega)]
    · rw [if_neg h2, if_neg (by omega)]
theorem qX_end {p : Int} {f g : List Int} {q : Nat} (h : q + g.length = f.length + 1) : trimL (qX p (invP p g) f g q q) = quoP p f g := by
  unfold qX quoP mdQ
  rw [show f.length + 1 - g.length = q by omega]
  congr 1
  exact tabL_ext fun t ht => by rw [if_pos (by omega)]
theorem rX_end {p : Int} {f g : List Int} {q N : Nat} (hN : N = f.length) (h : q = f.length + 1 - g.length) : trimL (tabL N (mdS p (invP p g) g (fun j => f.getD j 0) N q)) = remP p f g := by
  subst hN h; rfl
theorem few_quo {p : Int} {f g : List Int} (h : f.length < g.length) : quoP p f g = [] := by
  unfold quoP mdQ; rw [show f.length + 1 - g.length = 0 by omega]; rfl
theorem few_rem {p : Int} {f g : List Int} (h : f.length < g.length) : trimL f = remP p f g := by
  unfold remP mdR
  rw [show f.length + 1 - g.length = 0 by omega]
  congr 1
  refine ext_getD (by rw [tabL_length]) fun i hi => ?_
  rw [tabL_getD hi]; rfl
/-- the quotient has no zero at its end -/
theorem qX_full {p : Int} {f g : List Int} {q : Nat} (hp : PrimeP p) (hf : ModP p f) (hi : p ∣ invP p g * g.getD (g.length - 1) 0 - 1) (hq : q + g.length = f.length + 1) (h0 : 1 ≤ q) (hl : 1 ≤ g.length) : qX p (invP p g) f g q q = quoP p f g := by
  rw [← qX_end hq]
  refine (trimL_self ?_).symm
  unfold lastB
  rw [qX_length]
  have hne : f ≠ [] := fun e => by rw [e] at hq; simp at hq; omega
  have e1 : (qX p (invP p g) f g q q).getD (q - 1) 0 = f.getD (f.length - 1) 0 * invP p g % p := by
    unfold qX
    rw [tabL_getD (by omega), if_pos (by omega), show f.length - g.length - (q - 1) = 0 by omega]; rfl
  rw [e1]
  have h3 : ¬ f.getD (f.length - 1) 0 * invP p g % p = 0 := fun h => by
    rcases hp.2 _ _ (Int.dvd_of_emod_eq_zero h) with h | h
    · exact modP_last hf hne h
    · exact prime_inv hp hi h
  generalize f.getD (f.length - 1) 0 * invP p g % p = x at h3 ⊢
  simp [h3]
/-- made monic by a division -/
theorem mon_quo {p : Int} {f : List Int} (h2 : 2 ≤ p) (h97 : p ≤ 97) (hp : PrimeP p) (hf : ModP p f) (h0 : f.length ≠ 0) : quoP p f [f.getD (f.length - 1) 0] = monP p f := by
  have hne : f ≠ [] := fun e => h0 (by rw [e]; rfl)
  have hl := modP_last hf hne
  have hr := hf.rng (f.length - 1)
  have hm : ModP p [f.getD (f.length - 1) 0] := ⟨fun i => by
    cases i with
    | zero => exact hr
    | succ i => simp; omega, by
      have : ¬ f.getD (f.length - 1) 0 = 0 := fun e => hl (by rw [e]; exact Int.dvd_zero _)
      simpa [lastB] using this⟩
  have hd := divP_is h2 h97 hp hf hm (by simp)
  have hi := invP_dvd h2 h97 hp hf hne
  have hr0 : remP p f [f.getD (f.length - 1) 0] = [] := nil_of (by have h := hd.deg; rw [List.length_singleton] at h; exact Nat.lt_one_iff.1 h)
  rw [hr0] at hd
  unfold monP
  rw [if_neg h0]
  refine modP_eq hd.mq (redL_mod (by omega) _) (cgp_trans ?_ (cgp_symm (redL_cg p _)))
  obtain ⟨k, hk⟩ := hd.eq
  obtain ⟨m, hm2⟩ := hi
  refine ⟨smulL (-1) (addL (smulL m (quoP p f [f.getD (f.length - 1) 0])) (smulL (invP p f) k) 1), fun x => ?_⟩
  have e1 := hk x
  simp only [pval_add, pval_mul, pval_one, pval_nil, pval_smul] at e1 ⊢
  generalize f.getD (f.length - 1) 0 = a at *
  generalize pval (quoP p f [a]) x = Q at *
  generalize pval f x = F at *
  generalize pval k x = K at *
  generalize invP p f = v at *
  have e2 : v * a = 1 + p * m := by omega
  rw [e1]
  grind
/-! products -/
theorem mulW_mod {p : Int} {f g : List Int} {i k n : Nat} (hi : i + k = n) : (mulW f g i k n % p + f.getD i 0 * g.getD k 0) % p = mulW f g i (k + 1) n % p := by
  have e : mulW f g i (k + 1) n = mulW f g i k n + f.getD i 0 * g.getD k 0 := by
    rw [mulW_at hi]
    unfold mulW
    rw [if_pos (by omega), show n - i = k by omega]
  rw [e, Int.emod_add_emod]
def mulY (p : Int) (f g : List Int) (N i k : Nat) : List Int := tabL N fun n => mulW f g i k n % p
theorem mulY_length (p : Int) (f g : List Int) (N i k : Nat) : (mulY p f g N i k).length = N := tabL_length _ _
theorem mulY_start (p : Int) (f g : List Int) (N : Nat) : mulY p f g N 0 0 = tabL N fun _ => 0 := tabL_ext fun n _ => by rw [mulW_zero]; simp [mulP]
theorem mulY_row {p : Int} {f g : List Int} {N i k : Nat} (h : g.length ≤ k) : mulY p f g N i k = mulY p f g N (i + 1) 0 := tabL_ext fun n _ => by rw [mulW_row h, mulW_zero]
theorem mulY_at {p : Int} {f g : List Int} {N i k m : Nat} (hm : m < N) : (mulY p f g N i k).getD m 0 = mulW f g i k m % p := tabL_getD hm
theorem mulY_step {p : Int} {f g : List Int} {N i k m : Nat} (hm : m < N) (hik : i + k = m) : (mulY p f g N i k).set m ((mulW f g i k m % p + f.getD i 0 * g.getD k 0) % p) = mulY p f g N i (k + 1) := by
  rw [mulW_mod hik]
  unfold mulY
  rw [tab_set _ hm]
  refine tabL_ext fun n hn => ?_
  by_cases e : n = m
  · rw [if_pos e, e]
  · rw [if_neg e]
    unfold mulW
    by_cases h2 : i ≤ n ∧ n < i + k
    · rw [if_pos h2, if_pos (by omega)]
    · rw [if_neg h2, if_neg (by omega)]
theorem mulY_end {p : Int} {f g : List Int} {N : Nat} (h : N = f.length + g.length) : trimL (mulY p f g N f.length 0) = prodL p f g := by
  refine last_unique (trimL_last _) (trimL_last _) fun n => ?_
  rw [trimL_getD]
  show _ = (prodL p f g).getD n 0
  rw [prodL, redL_getD, mulL_getD]
  by_cases hn : n < N
  · rw [mulY_at hn, mulW_zero]
  · rw [getD_out (by rw [mulY_length]; omega), ← mulL_getD, getD_out (l := mulL f g) (by have := mulL_le f g; omega)]; simp
theorem redL_trim {p : Int} (l : List Int) : redL p (trimL l) = redL p l :=
  last_unique (trimL_last _) (trimL_last _) fun n => by
    show (redL p (trimL l)).getD n 0 = (redL p l).getD n 0
    rw [redL_getD, redL_getD, trimL_getD]
/-! common divisors -/
theorem gcdL_step {p : Int} {f g : List Int} (h2 : 2 ≤ p) (h97 : p ≤ 97) (hp : PrimeP p) (hf : ModP p f) (hg : ModP p g) (h0 : g.length ≠ 0) : gcdL p f g = gcdL p g (remP p f g) := by
  have hd := divP_is h2 h97 hp hf hg (fun e => h0 (by rw [e]; rfl))
  exact gcd_unique hp (gcdL_is h2 h97 hp hf hg) (gcd_step hd (gcdL_is h2 h97 hp hg hd.mr))
theorem gcdL_end {p : Int} {f g : List Int} (h0 : g.length = 0) : gcdL p f g = monP p f := by
  rw [nil_of h0]; rfl
/-! powers -/
/-- a power of x by f, not necessarily the remainder -/
structure IsPw (p : Int) (f : List Int) (e : Nat) (r : List Int) : Prop where
  mod : ModP p r
  len : r.length ≤ 9
  eq : ∃ q, CgP p (xL e) (addL (mulL f q) r 1)
theorem pw_of {p : Int} {f r : List Int} {e : Nat} (h : IsPow p f e r) (hf : f.length ≤ 9) : IsPw p f e r := ⟨h.mod, by have := h.deg; omega, h.eq⟩
theorem pw_x {p : Int} (hp : 2 ≤ p) (f : List Int) : IsPw p f 1 [0, 1] := by
  refine ⟨⟨fun i => ?_, by simp [lastB]⟩, by simp, [], cgp_val fun x => ?_⟩
  · match i with
    | 0 => exact ⟨by simp, by simp; omega⟩
    | 1 => exact ⟨by simp, by simp; omega⟩
    | i + 2 => simp; omega
  · rw [pval_xL, pval_add, pval_mul, pval_nil, pval_lin, Int.pow_succ, Int.pow_zero]; omega
theorem pw_mul {p : Int} {f r s m q t : List Int} {a b : Nat} (h1 : IsPw p f a r) (h2 : IsPw p f b s) (hm : CgP p m (mulL r s)) (h : IsDiv p m f q t) : IsPow p f (a + b) t := by
  obtain ⟨q1, k1, e1⟩ := h1.eq
  obtain ⟨q2, k2, e2⟩ := h2.eq
  obtain ⟨k3, e3⟩ := hm
  obtain ⟨k4, e4⟩ := h.eq
  refine ⟨h.mr, h.deg, addL (addL (mulL (mulL f q1) q2) (mulL q1 s) 1) (addL (mulL q2 r) q 1) 1, addL (addL (mulL (addL (mulL f q1) r 1) k2) (mulL (addL (mulL f q2) s 1) k1) 1) (addL (smulL p (mulL k1 k2)) (addL k4 k3 (-1)) 1) 1, fun x => ?_⟩
  have f1 := e1 x
  have f2 := e2 x
  have f3 := e3 x
  have f4 := e4 x
  rw [pval_xL] at f1 f2
  simp only [pval_add, pval_mul, pval_smul] at f1 f2 f3 f4 ⊢
  rw [pval_xL, Int.pow_add, f1, f2]
  generalize pval f x = F at *
  generalize pval q1 x = Q1 at *
  generalize pval q2 x = Q2 at *
  generalize pval r x = R at *
  generalize pval s x = S at *
  generalize pval k1 x = K1 at *
  generalize pval k2 x = K2 at *
  generalize pval k3 x = K3 at *
  generalize pval k4 x = K4 at *
  generalize pval q x = Q at *
  generalize pval t x = T at *
  generalize pval m x = M at *
  grind
theorem pw_join {p : Int} (h2 : 2 ≤ p) (h97 : p ≤ 97) (hp : PrimeP p) {f r s : List Int} (hf : ModP p f) (h0 : f ≠ []) {a b : Nat} (hr : IsPw p f a r) (hs : IsPw p f b s) : IsPow p f (a + b) (remP p (prodL p r s) f) :=
  pw_mul hr hs (redL_cg p (mulL r s)) (divP_is h2 h97 hp (redL_mod (by omega) _) hf h0)
/-- what is left of the exponent -/
theorem half_odd {A B E e : Nat} (h : A + B * e = E) (ho : e % 2 = 1) : A + B + (B + B) * (e / 2) = E := by
  have h1 : e = 2 * (e / 2) + 1 := by omega
  have h2 : B * e = B * (2 * (e / 2) + 1) := by rw [← h1]
  rw [Nat.mul_add, Nat.mul_one, ← Nat.mul_assoc, Nat.mul_two] at h2
  omega
theorem half_even {A B E e : Nat} (h : A + B * e = E) (ho : e % 2 = 0) : A + (B + B) * (e / 2) = E := by
  have h1 : e = 2 * (e / 2) := by omega
  have h2 : B * e = B * (2 * (e / 2)) := by rw [← h1]
  rw [← Nat.mul_assoc, Nat.mul_two] at h2
  omega
end Go.Proofs.Ytidcpmhbkldpeaa
