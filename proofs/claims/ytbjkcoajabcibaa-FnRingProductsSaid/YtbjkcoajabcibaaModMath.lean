/- Plain mathematics of chapter 8: polynomials by a prime: congruence, division and its uniqueness, greatest common divisors, powers of x, roots. -/
import Derived.Test.YtbjkcoajabcibaaPolyShift
import Derived.Test.YtbjkcoajabcibaaMonic
namespace Go.Proofs.Ytbjkcoajabcibaa
set_option linter.unusedVariables false
set_option maxRecDepth 20000
set_option linter.unusedSimpArgs false
theorem addL_getD (f g : List Int) (k : Int) (i : Nat) : (addL f g k).getD i 0 = f.getD i 0 + k * g.getD i 0 := by
  unfold addL
  by_cases h : i < max f.length g.length
  · rw [tabL_getD h]
  · rw [tabL_out (by omega), getD_out (l := f) (by omega), getD_out (l := g) (by omega)]; simp
def smulL (k : Int) (f : List Int) : List Int := addL [] f k
theorem pval_nil (x : Int) : pval [] x = 0 := rfl
theorem pval_smul (k : Int) (f : List Int) (x : Int) : pval (smulL k f) x = k * pval f x := by rw [smulL, pval_add, pval_nil, Int.zero_add]
theorem mulP_none {f g : List Int} {n : Nat} : ∀ k, (∀ i, i < k → i ≤ n → f.getD i 0 * g.getD (n - i) 0 = 0) → mulP f g n k = 0
  | 0, _ => rfl
  | k + 1, h => by
    rw [mulP, mulP_none k (fun i hi hn => h i (by omega) hn), Int.zero_add]
    split
    · exact h k (by omega) (by assumption)
    · rfl
theorem mulL_getD (f g : List Int) (n : Nat) : (mulL f g).getD n 0 = mulP f g n f.length := by
  unfold mulL
  by_cases h0 : f.length = 0 ∨ g.length = 0
  · rw [if_pos h0, mulP_none f.length (fun i hi _ => by rw [getD_out (l := g) (by omega), Int.mul_zero])]; simp
  · rw [if_neg h0]
    by_cases h : n < f.length + g.length - 1
    · rw [tabL_getD h]
    · rw [tabL_out (by omega), mulP_none f.length (fun i hi _ => by rw [getD_out (l := g) (by omega), Int.mul_zero])]
/-- congruent by p -/
def CgP (p : Int) (f g : List Int) : Prop := ∃ h : List Int, ∀ x, pval f x = pval g x + p * pval h x
theorem cgp_refl (p : Int) (f : List Int) : CgP p f f := ⟨[], fun x => by rw [pval_nil]; omega⟩
theorem cgp_symm {p : Int} {f g : List Int} (h : CgP p f g) : CgP p g f := by
  obtain ⟨k, hk⟩ := h
  exact ⟨smulL (-1) k, fun x => by rw [pval_smul, hk x]; grind⟩
theorem cgp_trans {p : Int} {f g h : List Int} (h1 : CgP p f g) (h2 : CgP p g h) : CgP p f h := by
  obtain ⟨a, ha⟩ := h1
  obtain ⟨b, hb⟩ := h2
  exact ⟨addL a b 1, fun x => by rw [pval_add, ha x, hb x]; grind⟩
theorem cgp_add {p : Int} {a b c d : List Int} (k : Int) (h1 : CgP p a b) (h2 : CgP p c d) : CgP p (addL a c k) (addL b d k) := by
  obtain ⟨u, hu⟩ := h1
  obtain ⟨v, hv⟩ := h2
  exact ⟨addL u v k, fun x => by rw [pval_add, pval_add, pval_add, hu x, hv x]; grind⟩
theorem cgp_mul {p : Int} {a b c d : List Int} (h1 : CgP p a b) (h2 : CgP p c d) : CgP p (mulL a c) (mulL b d) := by
  obtain ⟨u, hu⟩ := h1
  obtain ⟨v, hv⟩ := h2
  refine ⟨addL (addL (mulL b v) (mulL u d) 1) (mulL u v) p, fun x => ?_⟩
  simp only [pval_add, pval_mul, hu x, hv x]
  grind
/-- of equal values -/
theorem cgp_val {p : Int} {f g : List Int} (h : ∀ x, pval f x = pval g x) : CgP p f g := ⟨[], fun x => by rw [h x, pval_nil]; omega⟩
theorem val_coef {f g : List Int} (h : ∀ x, pval f x = pval g x) (i : Nat) : f.getD i 0 = g.getD i 0 := by
  have e : trimL f = trimL g := pval_ext (trimL_last f) (trimL_last g) fun x => by rw [pval_trim, pval_trim]; exact h x
  rw [← trimL_getD f i, ← trimL_getD g i, e]
theorem cgp_coef {p : Int} {f g : List Int} (h : CgP p f g) (i : Nat) : p ∣ f.getD i 0 - g.getD i 0 := by
  obtain ⟨k, hk⟩ := h
  have := val_coef (f := f) (g := addL g k p) (fun x => by rw [pval_add]; exact hk x) i
  rw [addL_getD] at this
  exact ⟨k.getD i 0, by omega⟩
theorem cgp_of {p : Int} {f g : List Int} (h : ∀ i, p ∣ f.getD i 0 - g.getD i 0) : CgP p f g := by
  refine ⟨tabL (max f.length g.length) fun i => (f.getD i 0 - g.getD i 0) / p, fun x => ?_⟩
  rw [← pval_add]
  refine pval_same x fun i => ?_
  rw [addL_getD]
  have hd := Int.mul_ediv_cancel' (h i)
  by_cases hi : i < max f.length g.length
  · rw [tabL_getD hi]; omega
  · rw [tabL_out (by omega), getD_out (l := f) (by omega), getD_out (l := g) (by omega)]; simp
/-- a polynomial by p: remainders, the last one not 0 -/
structure ModP (p : Int) (f : List Int) : Prop where
  rng : ∀ i, 0 ≤ f.getD i 0 ∧ f.getD i 0 < p
  last : lastB f = true
theorem mod_same {p x y : Int} (hx : 0 ≤ x ∧ x < p) (hy : 0 ≤ y ∧ y < p) (h : p ∣ x - y) : x = y := by
  have h1 := Int.emod_emod_of_dvd x (Int.dvd_refl p)
  have h2 : (x - y) % p = 0 := Int.emod_eq_zero_of_dvd h
  have h3 := Int.emod_eq_emod_iff_emod_sub_eq_zero.2 h2
  rwa [Int.emod_eq_of_lt hx.1 hx.2, Int.emod_eq_of_lt hy.1 hy.2] at h3
theorem modP_eq {p : Int} {f g : List Int} (hf : ModP p f) (hg : ModP p g) (h : CgP p f g) : f = g :=
  last_unique hf.last hg.last fun i => mod_same (hf.rng i) (hg.rng i) (cgp_coef h i)
def redL (p : Int) (f : List Int) : List Int := trimL (tabL f.length fun i => f.getD i 0 % p)
theorem redL_getD (p : Int) (f : List Int) (i : Nat) : (redL p f).getD i 0 = f.getD i 0 % p := by
  rw [redL, trimL_getD]
  by_cases h : i < f.length
  · rw [tabL_getD h]
  · rw [tabL_out (by omega), getD_out (by omega)]; simp
theorem redL_mod {p : Int} (hp : 0 < p) (f : List Int) : ModP p (redL p f) :=
  ⟨fun i => by rw [redL_getD]; exact ⟨Int.emod_nonneg _ (by omega), Int.emod_lt_of_pos _ hp⟩, trimL_last _⟩
theorem redL_cg (p : Int) (f : List Int) : CgP p (redL p f) f := cgp_of fun i => by
  rw [redL_getD]
  exact ⟨-(f.getD i 0 / p), by have := Int.emod_add_mul_ediv (f.getD i 0) p; grind⟩
theorem redL_same {p : Int} (hp : 0 < p) {f g : List Int} (h : CgP p f g) : redL p f = redL p g :=
  modP_eq (redL_mod hp f) (redL_mod hp g) (cgp_trans (redL_cg p f) (cgp_trans h (cgp_symm (redL_cg p g))))
theorem redL_self {p : Int} (hp : 0 < p) {f : List Int} (h : ModP p f) : redL p f = f := modP_eq (redL_mod hp f) h (redL_cg p f)
theorem modP_nil {p : Int} (hp : 0 < p) : ModP p [] := ⟨fun i => by simp [hp], rfl⟩
theorem modP_zero {p : Int} {f : List Int} (h : ModP p f) (h0 : ∀ i, p ∣ f.getD i 0) : f = [] := by
  have hp : 0 < p := by have := h.rng 0; omega
  exact modP_eq h (modP_nil hp) (cgp_of fun i => by simpa using h0 i)
theorem modP_last {p : Int} {f : List Int} (h : ModP p f) (h0 : f ≠ []) : ¬ p ∣ f.getD (f.length - 1) 0 := by
  intro hd
  have hl := h.last
  unfold lastB at hl
  have hlen : f.length ≠ 0 := fun e => h0 (List.eq_nil_of_length_eq_zero e)
  simp [hlen] at hl
  have hr := h.rng (f.length - 1)
  obtain ⟨k, hk⟩ := hd
  rcases (by omega : k ≤ 0 ∨ 1 ≤ k) with h1 | h1
  · have : p * k ≤ 0 := by
      have h2 : p * k ≤ p * 0 := Int.mul_le_mul_of_nonneg_left h1 (by omega)
      omega
    exact hl (by simp [List.getD] at *; omega)
  · have : p * 1 ≤ p * k := Int.mul_le_mul_of_nonneg_left h1 (by omega)
    omega
def PrimeP (p : Int) : Prop := 2 ≤ p ∧ ∀ a b : Int, p ∣ a * b → p ∣ a ∨ p ∣ b
/-- the product's coefficient but for one term -/
theorem mulP_one {p : Int} {f g : List Int} {n t : Nat} (ht : t ≤ n) : ∀ k, (∀ j, j < k → j ≤ n → j ≠ t → p ∣ f.getD j 0 * g.getD (n - j) 0) → p ∣ mulP f g n k - (if t < k then f.getD t 0 * g.getD (n - t) 0 else 0)
  | 0, _ => by simp [mulP]
  | k + 1, h => by
    have ih := mulP_one (f := f) (g := g) ht k (fun j hj => h j (by omega))
    rw [mulP]
    by_cases e : k = t
    · subst e
      rw [if_neg (Nat.lt_irrefl _)] at ih
      rw [if_pos ht, if_pos (by omega)]
      obtain ⟨c, hc⟩ := ih
      exact ⟨c, by omega⟩
    · by_cases hk : k ≤ n
      · rw [if_pos hk]
        obtain ⟨c, hc⟩ := ih
        obtain ⟨d, hd⟩ := h k (by omega) hk e
        by_cases h1 : t < k
        · rw [if_pos h1] at hc
          rw [if_pos (by omega)]
          exact ⟨c + d, by rw [Int.mul_add]; omega⟩
        · rw [if_neg h1] at hc
          rw [if_neg (by omega)]
          exact ⟨c + d, by rw [Int.mul_add]; omega⟩
      · rw [if_neg hk]
        obtain ⟨c, hc⟩ := ih
        by_cases h1 : t < k
        · rw [if_pos h1] at hc
          rw [if_pos (by omega)]; exact ⟨c, by omega⟩
        · rw [if_neg h1] at hc
          rw [if_neg (by omega)]; exact ⟨c, by omega⟩
/-- what a multiple with a low degree comes from -/
theorem no_div {p : Int} (hp : PrimeP p) {g q r : List Int} (hg : ¬ p ∣ g.getD (g.length - 1) 0) (hl : 1 ≤ g.length) (hr : ∀ i, g.length - 1 ≤ i → p ∣ r.getD i 0) (h : CgP p (mulL g q) r) : ∀ i, p ∣ q.getD i 0 := by
  have key : ∀ d i, q.length ≤ i + d → p ∣ q.getD i 0 := by
    intro d
    induction d with
    | zero => intro i hi; rw [getD_out (by omega)]; exact Int.dvd_zero _
    | succ d ih =>
      intro i hi
      have hc := cgp_coef h (i + (g.length - 1))
      have h2 := hr (i + (g.length - 1)) (by omega)
      rw [mulL_getD] at hc
      have h3 := mulP_one (p := p) (f := g) (g := q) (n := i + (g.length - 1)) (t := g.length - 1) (by omega) g.length (fun j hj hn hne => by
        have := ih (i + (g.length - 1) - j) (by omega)
        exact Int.dvd_trans this (Int.dvd_mul_left _ _))
      rw [if_pos (by omega), show i + (g.length - 1) - (g.length - 1) = i by omega] at h3
      have h4 : p ∣ g.getD (g.length - 1) 0 * q.getD i 0 := by
        obtain ⟨a, ha⟩ := hc
        obtain ⟨b, hb⟩ := h2
        obtain ⟨c, hc⟩ := h3
        exact ⟨a + b - c, by rw [Int.mul_sub, Int.mul_add]; omega⟩
      rcases hp.2 _ _ h4 with h5 | h5
      · exact absurd h5 hg
      · exact h5
  exact fun i => key q.length i (by omega)
/-- quotient and remainder -/
structure IsDiv (p : Int) (f g q r : List Int) : Prop where
  mq : ModP p q
  mr : ModP p r
  deg : r.length < g.length
  eq : CgP p f (addL (mulL g q) r 1)
theorem div_unique {p : Int} (hp : PrimeP p) {f f' g q r q' r' : List Int} (hg : ¬ p ∣ g.getD (g.length - 1) 0) (h : IsDiv p f g q r) (h' : IsDiv p f' g q' r') (he : CgP p f f') : q = q' ∧ r = r' := by
  have hl : 1 ≤ g.length := by have := h.deg; omega
  have hE : CgP p (addL (mulL g q) r 1) (addL (mulL g q') r' 1) := cgp_trans (cgp_symm h.eq) (cgp_trans he h'.eq)
  have h1 : CgP p (mulL g (addL q q' (-1))) (addL r' r (-1)) := by
    obtain ⟨k, hk⟩ := hE
    refine ⟨k, fun x => ?_⟩
    have := hk x
    simp only [pval_add, pval_mul] at this ⊢
    grind
  have h2 := no_div hp hg hl (fun i hi => by
    rw [addL_getD, getD_out (l := r') (by have := h'.deg; omega), getD_out (l := r) (by have := h.deg; omega)]; simp) h1
  have hq : q = q' := modP_eq h.mq h'.mq (cgp_of fun i => by have := h2 i; rw [addL_getD] at this; rwa [show q.getD i 0 + -1 * q'.getD i 0 = q.getD i 0 - q'.getD i 0 by omega] at this)
  refine ⟨hq, modP_eq h.mr h'.mr ?_⟩
  subst hq
  obtain ⟨k, hk⟩ := hE
  exact ⟨k, fun x => by have := hk x; simp only [pval_add, pval_mul] at this; grind⟩
/-! division step by step -/
def subMd (p : Int) (r : Nat → Int) (g : List Int) (c : Int) (i : Nat) : Nat → Int := fun j => if i ≤ j ∧ j < i + g.length then (r j - c * g.getD (j - i) 0) % p else r j
def mdS (p inv : Int) (g : List Int) (r0 : Nat → Int) (N : Nat) : Nat → Nat → Int
  | 0 => r0
  | k + 1 => subMd p (mdS p inv g r0 N k) g (mdS p inv g r0 N k (N - 1 - k) * inv % p) (N - g.length - k)
def mdC (p inv : Int) (g : List Int) (r0 : Nat → Int) (N k : Nat) : Int := mdS p inv g r0 N k (N - 1 - k) * inv % p
theorem subMd_split (p : Int) (r : Nat → Int) (g : List Int) (c : Int) (i : Nat) : ∃ e : Nat → Int, ∀ j, subMd p r g c i j = subG r g c i j + p * e j := by
  refine ⟨fun j => if i ≤ j ∧ j < i + g.length then -((r j - c * g.getD (j - i) 0) / p) else 0, fun j => ?_⟩
  unfold subMd subG
  by_cases h : i ≤ j ∧ j < i + g.length
  · dsimp only
    rw [if_pos h, if_pos h.1, if_pos h]
    have := Int.emod_add_mul_ediv (r j - c * g.getD (j - i) 0) p
    grind
  · dsimp only
    rw [if_neg h, if_neg h]
    by_cases h2 : i ≤ j
    · rw [if_pos h2, getD_out (l := g) (by omega)]; simp
    · rw [if_neg h2]; simp
theorem mdS_value (p inv : Int) (g : List Int) (r0 : Nat → Int) (N : Nat) : ∀ k, k + g.length ≤ N + 1 → ∃ e : Nat → Int, ∀ x, pv r0 x N = pval g x * sumZ k (fun m => mdC p inv g r0 N m * x ^ (N - g.length - m)) + pv (mdS p inv g r0 N k) x N + p * pv e x N
  | 0, _ => ⟨fun _ => 0, fun x => by
    have h0 : pv (fun _ => (0 : Int)) x N = 0 := by
      have := pv_add (fun _ => (0 : Int)) (fun _ => (0 : Int)) (-1) x N
      simp only [Int.mul_zero, Int.add_zero] at this
      omega
    rw [h0]
    show _ = pval g x * 0 + pv r0 x N + p * 0
    omega⟩
  | k + 1, h => by
    obtain ⟨e, he⟩ := mdS_value p inv g r0 N k (by omega)
    obtain ⟨e2, he2⟩ := subMd_split p (mdS p inv g r0 N k) g (mdC p inv g r0 N k) (N - g.length - k)
    refine ⟨fun j => e j + -1 * e2 j, fun x => ?_⟩
    have h1 := pv_subG (mdS p inv g r0 N k) g (mdC p inv g r0 N k) x (show N - g.length - k + g.length ≤ N by omega)
    have h2 := pv_add (subG (mdS p inv g r0 N k) g (mdC p inv g r0 N k) (N - g.length - k)) e2 p x N
    have h3 : pv (mdS p inv g r0 N (k + 1)) x N = pv (fun i => subG (mdS p inv g r0 N k) g (mdC p inv g r0 N k) (N - g.length - k) i + p * e2 i) x N := pv_congr fun j _ => he2 j
    have h4 := pv_add e e2 (-1) x N
    rw [he x, h3, h2, h1, h4]
    show _ = pval g x * (sumZ k _ + mdC p inv g r0 N k * x ^ (N - g.length - k)) + _ + _
    grind
theorem mdS_zero {p inv : Int} {g : List Int} {r0 : Nat → Int} {N : Nat} (hi : p ∣ inv * g.getD (g.length - 1) 0 - 1) (hl : 1 ≤ g.length) (h0 : ∀ j, N ≤ j → r0 j = 0) : ∀ k, k + g.length ≤ N + 1 → ∀ j, N - k ≤ j → mdS p inv g r0 N k j = 0
  | 0, _, j, hj => h0 j (by omega)
  | k + 1, h, j, hj => by
    show (if N - g.length - k ≤ j ∧ j < N - g.length - k + g.length then (mdS p inv g r0 N k j - mdS p inv g r0 N k (N - 1 - k) * inv % p * g.getD (j - (N - g.length - k)) 0) % p else mdS p inv g r0 N k j) = 0
    by_cases e : j = N - 1 - k
    · rw [if_pos (by omega), e, show N - 1 - k - (N - g.length - k) = g.length - 1 by omega]
      refine Int.emod_eq_zero_of_dvd ?_
      obtain ⟨a, ha⟩ := hi
      have h2 := Int.emod_add_mul_ediv (mdS p inv g r0 N k (N - 1 - k) * inv) p
      refine ⟨mdS p inv g r0 N k (N - 1 - k) * inv / p * g.getD (g.length - 1) 0 - mdS p inv g r0 N k (N - 1 - k) * a, ?_⟩
      generalize mdS p inv g r0 N k (N - 1 - k) = y at *
      generalize g.getD (g.length - 1) 0 = z at *
      generalize y * inv % p = u at *
      generalize y * inv / p = v at *
      grind
    · rw [if_neg (by omega)]
      exact mdS_zero hi hl h0 k (by omega) j (by omega)
theorem mdS_rng {p inv : Int} (hp : 0 < p) {g : List Int} {r0 : Nat → Int} {N : Nat} (h0 : ∀ j, 0 ≤ r0 j ∧ r0 j < p) : ∀ k j, 0 ≤ mdS p inv g r0 N k j ∧ mdS p inv g r0 N k j < p
  | 0, j => h0 j
  | k + 1, j => by
    show 0 ≤ (if N - g.length - k ≤ j ∧ j < N - g.length - k + g.length then (mdS p inv g r0 N k j - mdS p inv g r0 N k (N - 1 - k) * inv % p * g.getD (j - (N - g.length - k)) 0) % p else mdS p inv g r0 N k j) ∧ (if N - g.length - k ≤ j ∧ j < N - g.length - k + g.length then (mdS p inv g r0 N k j - mdS p inv g r0 N k (N - 1 - k) * inv % p * g.getD (j - (N - g.length - k)) 0) % p else mdS p inv g r0 N k j) < p
    split
    · exact ⟨Int.emod_nonneg _ (by omega), Int.emod_lt_of_pos _ hp⟩
    · exact mdS_rng hp h0 k j
def mdQ (p inv : Int) (f g : List Int) : List Int := trimL (tabL (f.length + 1 - g.length) fun i => mdC p inv g (fun j => f.getD j 0) f.length (f.length - g.length - i))
def mdR (p inv : Int) (f g : List Int) : List Int := trimL (tabL f.length (mdS p inv g (fun j => f.getD j 0) f.length (f.length + 1 - g.length)))
theorem md_isdiv {p inv : Int} (hp : 0 < p) {f g : List Int} (hf : ModP p f) (hi : p ∣ inv * g.getD (g.length - 1) 0 - 1) (hl : 1 ≤ g.length) : IsDiv p f g (mdQ p inv f g) (mdR p inv f g) := by
  have h0 : ∀ j, f.length ≤ j → f.getD j 0 = 0 := fun j h => getD_out h
  by_cases hs : f.length < g.length
  · have e1 : mdQ p inv f g = [] := by unfold mdQ; rw [show f.length + 1 - g.length = 0 by omega]; rfl
    have e2 : mdR p inv f g = f := by
      unfold mdR; rw [show f.length + 1 - g.length = 0 by omega]
      show trimL (tabL f.length fun j => f.getD j 0) = f
      have : tabL f.length (fun j => f.getD j 0) = f := ext_getD (by rw [tabL_length]) fun i hi => by rw [tabL_length] at hi; rw [tabL_getD hi]
      rw [this]; exact trimL_self hf.last
    rw [e1, e2]
    exact ⟨modP_nil hp, hf, hs, cgp_val fun x => by rw [pval_add, pval_mul, pval_nil]; omega⟩
  · have hR : ModP p (mdR p inv f g) := ⟨fun i => by
      unfold mdR
      rw [trimL_getD]
      by_cases h : i < f.length
      · rw [tabL_getD h]; exact mdS_rng hp hf.rng _ _
      · rw [tabL_out (by omega)]; omega, trimL_last _⟩
    refine ⟨⟨fun i => ?_, trimL_last _⟩, hR, ?_, ?_⟩
    · unfold mdQ
      rw [trimL_getD]
      by_cases h : i < f.length + 1 - g.length
      · rw [tabL_getD h]; exact ⟨Int.emod_nonneg _ (by omega), Int.emod_lt_of_pos _ hp⟩
      · rw [tabL_out (by omega)]; omega
    · have hz : ∀ j, g.length - 1 ≤ j → (mdR p inv f g).getD j 0 = 0 := fun j hj => by
        unfold mdR
        rw [trimL_getD]
        by_cases h : j < f.length
        · rw [tabL_getD h]; exact mdS_zero hi hl h0 _ (by omega) j (by omega)
        · rw [tabL_out (by omega)]
      by_cases hh : (mdR p inv f g).length < g.length
      · exact hh
      · have h9 := modP_last hR (by intro e; rw [e] at hh; exact hh (by simp only [List.length_nil]; omega))
        exact absurd (by rw [hz _ (by omega)]; exact Int.dvd_zero _) h9
    · obtain ⟨e, he⟩ := mdS_value p inv g (fun j => f.getD j 0) f.length (f.length + 1 - g.length) (by omega)
      refine ⟨tabL f.length e, fun x => ?_⟩
      have h1 : pval f x = pv (fun j => f.getD j 0) x f.length := rfl
      have h2 : pval (mdR p inv f g) x = pv (mdS p inv g (fun j => f.getD j 0) f.length (f.length + 1 - g.length)) x f.length := by unfold mdR; rw [pval_trim, pval_tab]
      have h3 : pval (mdQ p inv f g) x = sumZ (f.length + 1 - g.length) (fun m => mdC p inv g (fun j => f.getD j 0) f.length m * x ^ (f.length - g.length - m)) := by
        unfold mdQ
        rw [pval_trim, pval_tab, pv_sumZ, sumZ_rev]
        refine sumZ_congr fun m hm => ?_
        rw [show f.length - g.length - (f.length + 1 - g.length - 1 - m) = m by omega, show f.length + 1 - g.length - 1 - m = f.length - g.length - m by omega]
      rw [pval_add, pval_mul, pval_tab, h1, he x, h2, h3]
      grind
end Go.Proofs.Ytbjkcoajabcibaa
