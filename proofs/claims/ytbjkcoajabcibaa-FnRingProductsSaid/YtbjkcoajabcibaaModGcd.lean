/- Plain mathematics of chapter 8: greatest common divisors, powers of x, roots by a prime. -/
import Derived.Test.YtbjkcoajabcibaaModMath
namespace Go.Proofs.Ytbjkcoajabcibaa
set_option linter.unusedVariables false
set_option maxRecDepth 20000
set_option linter.unusedSimpArgs false
structure IsGcd (p : Int) (f g d : List Int) : Prop where
  mod : ModP p d
  mon : d = [] ∨ d.getD (d.length - 1) 0 = 1
  left : ∃ a, CgP p f (mulL d a)
  right : ∃ b, CgP p g (mulL d b)
  comb : ∃ u v, CgP p d (addL (mulL u f) (mulL v g) 1)
theorem gcd_comm {p : Int} {f g d : List Int} (h : IsGcd p f g d) : IsGcd p g f d := by
  obtain ⟨u, v, k, hk⟩ := h.comb
  exact ⟨h.mod, h.mon, h.right, h.left, v, u, k, fun x => by have := hk x; simp only [pval_add, pval_mul] at this ⊢; grind⟩
theorem gcd_multiple {p : Int} {f g d d' : List Int} (h : IsGcd p f g d) (h' : IsGcd p f g d') : ∃ k, CgP p d (mulL d' k) := by
  obtain ⟨u, v, k1, hk1⟩ := h.comb
  obtain ⟨a, k2, hk2⟩ := h'.left
  obtain ⟨b, k3, hk3⟩ := h'.right
  refine ⟨addL (mulL u a) (mulL v b) 1, addL (addL (mulL u k2) (mulL v k3) 1) k1 1, fun x => ?_⟩
  have e1 := hk1 x
  have e2 := hk2 x
  have e3 := hk3 x
  simp only [pval_add, pval_mul] at e1 e2 e3 ⊢
  grind
theorem multiple_le {p : Int} (hp : PrimeP p) {d d' k : List Int} (hd : ModP p d) (hd' : ModP p d') (h0 : d ≠ []) (h0' : d' ≠ []) (h : CgP p d (mulL d' k)) : d'.length ≤ d.length := by
  by_cases hl : d'.length ≤ d.length
  · exact hl
  · exfalso
    have hk := no_div hp (modP_last hd' h0') (by cases d' with | nil => exact absurd rfl h0' | cons a b => simp) (r := d) (fun i hi => by rw [getD_out (by omega)]; exact Int.dvd_zero _) (cgp_symm h)
    refine h0 (modP_zero hd fun i => ?_)
    have h1 : CgP p k [] := cgp_of fun i => by simpa using hk i
    have h2 := cgp_trans h (cgp_mul (cgp_refl p d') h1)
    have h3 : CgP p (mulL d' []) [] := cgp_val fun x => by rw [pval_mul, pval_nil, Int.mul_zero]
    have := cgp_coef (cgp_trans h2 h3) i
    simpa using this
theorem gcd_unique {p : Int} (hp : PrimeP p) {f g d d' : List Int} (h : IsGcd p f g d) (h' : IsGcd p f g d') : d = d' := by
  obtain ⟨k, hk⟩ := gcd_multiple h h'
  obtain ⟨k', hk'⟩ := gcd_multiple h' h
  have zero : ∀ {a b c : List Int}, CgP p a (mulL b c) → b = [] → ModP p a → a = [] := by
    intro a b c e hb ha
    refine modP_zero ha fun i => ?_
    subst hb
    have h3 : CgP p (mulL [] c) [] := cgp_val fun x => by rw [pval_mul, pval_nil, Int.zero_mul]
    have := cgp_coef (cgp_trans e h3) i
    simpa using this
  by_cases h0 : d = []
  · rw [h0, zero hk' h0 h'.mod]
  · by_cases h0' : d' = []
    · exact absurd (zero hk h0' h.mod) h0
    · have hl : d.length = d'.length := Nat.le_antisymm (multiple_le hp h'.mod h.mod h0' h0 hk') (multiple_le hp h.mod h'.mod h0 h0' hk)
      have m1 := h.mon.resolve_left h0
      have m2 := h'.mon.resolve_left h0'
      have h1 : CgP p (mulL d' (addL k [1] (-1))) (addL d d' (-1)) := by
        obtain ⟨e, he⟩ := hk
        refine ⟨smulL (-1) e, fun x => ?_⟩
        have := he x
        have h1 : pval [1] x = 1 := by simp [pval, pv]
        simp only [pval_add, pval_mul, pval_smul, h1] at this ⊢
        grind
      have hlen' : 1 ≤ d'.length := by cases d' with | nil => exact absurd rfl h0' | cons a b => simp
      have hz := no_div hp (modP_last h'.mod h0') hlen' (fun i hi => by
        rw [addL_getD]
        by_cases e : i = d'.length - 1
        · rw [e, m2, ← hl, m1]; simp
        · rw [getD_out (l := d) (by omega), getD_out (l := d') (by omega)]; simp) h1
      have hk1 : CgP p k [1] := cgp_of fun i => by have := hz i; rw [addL_getD] at this; rwa [show k.getD i 0 + -1 * [1].getD i 0 = k.getD i 0 - [1].getD i 0 by omega] at this
      refine modP_eq h.mod h'.mod (cgp_trans hk (cgp_trans (cgp_mul (cgp_refl p d') hk1) (cgp_val fun x => ?_)))
      have h1 : pval [1] x = 1 := by simp [pval, pv]
      rw [pval_mul, h1, Int.mul_one]
theorem gcd_step {p : Int} {a b q r d : List Int} (hd : IsDiv p a b q r) (h : IsGcd p b r d) : IsGcd p a b d := by
  obtain ⟨k0, hk0⟩ := hd.eq
  obtain ⟨x, k1, hk1⟩ := h.left
  obtain ⟨y, k2, hk2⟩ := h.right
  obtain ⟨u, v, k3, hk3⟩ := h.comb
  refine ⟨h.mod, h.mon, ⟨addL (mulL x q) y 1, addL (addL (mulL k1 q) k2 1) k0 1, fun t => ?_⟩, h.left, ⟨v, addL u (mulL v q) (-1), addL k3 (mulL v k0) (-1), fun t => ?_⟩⟩
  · have e0 := hk0 t
    have e1 := hk1 t
    have e2 := hk2 t
    simp only [pval_add, pval_mul] at e0 e1 e2 ⊢
    grind
  · have e0 := hk0 t
    have e3 := hk3 t
    simp only [pval_add, pval_mul] at e0 e3 ⊢
    grind
theorem pval_one (c x : Int) : pval [c] x = c := by simp [pval, pv]
theorem gcd_base {p inv : Int} (hp : PrimeP p) {f : List Int} (hf : ModP p f) (h0 : f ≠ []) (hi : p ∣ inv * f.getD (f.length - 1) 0 - 1) : IsGcd p f [] (redL p (mulL f [inv])) ∧ (redL p (mulL f [inv])).length = f.length := by
  have hp0 : 0 < p := by have := hp.1; omega
  have hm := redL_mod hp0 (mulL f [inv])
  have hc := redL_cg p (mulL f [inv])
  have hlen : 1 ≤ f.length := by cases f with | nil => exact absurd rfl h0 | cons a b => simp
  have hco : ∀ i, (redL p (mulL f [inv])).getD i 0 = (f.getD i 0 * inv) % p := fun i => by
    rw [redL_getD]
    congr 1
    have := val_coef (f := mulL f [inv]) (g := smulL inv f) (fun x => by rw [pval_mul, pval_smul, pval_one, Int.mul_comm]) i
    rw [this, smulL, addL_getD]; simp [Int.mul_comm]
  have hlast : (redL p (mulL f [inv])).getD (f.length - 1) 0 = 1 := by
    rw [hco]
    have h1 : (f.getD (f.length - 1) 0 * inv - 1) % p = 0 := Int.emod_eq_zero_of_dvd (by rw [Int.mul_comm]; exact hi)
    have h2 := Int.emod_eq_emod_iff_emod_sub_eq_zero.2 h1
    rw [h2]; exact Int.emod_eq_of_lt (by omega) (by have := hp.1; omega)
  have hl : (redL p (mulL f [inv])).length = f.length := by
    have a1 : f.length ≤ (redL p (mulL f [inv])).length := by
      by_cases e : f.length ≤ (redL p (mulL f [inv])).length
      · exact e
      · rw [getD_out (by omega)] at hlast; omega
    have a2 : (redL p (mulL f [inv])).length ≤ f.length := by
      by_cases e : (redL p (mulL f [inv])).length ≤ f.length
      · exact e
      · have hne : redL p (mulL f [inv]) ≠ [] := by intro e2; rw [e2] at e; exact e (by simp)
        have h9 := modP_last hm hne
        rw [hco, getD_out (l := f) (by omega)] at h9
        simp at h9
    omega
  refine ⟨⟨hm, .inr (by rw [hl]; exact hlast), ?_, ⟨[], cgp_val fun x => by rw [pval_mul, pval_nil, Int.mul_zero]⟩, ?_⟩, hl⟩
  · obtain ⟨k, hk⟩ := hc
    obtain ⟨c, hcc⟩ := hi
    refine ⟨[f.getD (f.length - 1) 0], addL (smulL (-(f.getD (f.length - 1) 0)) k) (smulL (-c) f) 1, fun x => ?_⟩
    have e1 := hk x
    simp only [pval_add, pval_mul, pval_one, pval_smul] at e1 ⊢
    generalize f.getD (f.length - 1) 0 = z at *
    generalize pval f x = y at *
    generalize pval (redL p (mulL f [inv])) x = w at *
    generalize pval k x = t at *
    have : inv * z = 1 + p * c := by omega
    grind
  · obtain ⟨k, hk⟩ := hc
    refine ⟨[inv], [], k, fun x => ?_⟩
    have e1 := hk x
    simp only [pval_add, pval_mul, pval_one, pval_nil] at e1 ⊢
    grind
theorem gcd_nil {p : Int} (hp : 0 < p) : IsGcd p [] [] [] :=
  ⟨modP_nil hp, .inl rfl, ⟨[], cgp_val fun x => by rw [pval_mul, pval_nil]; rfl⟩, ⟨[], cgp_val fun x => by rw [pval_mul, pval_nil]; rfl⟩, ⟨[], [], cgp_val fun x => by rw [pval_add, pval_mul, pval_nil]; rfl⟩⟩
/-- what divides leaves nothing -/
theorem div_exact {p : Int} (hp : PrimeP p) {f g a q r : List Int} (hg : ¬ p ∣ g.getD (g.length - 1) 0) (h : IsDiv p f g q r) (ha : CgP p f (mulL g a)) : r = [] := by
  have hp0 : 0 < p := by have := hp.1; omega
  have hl := h.deg
  have h2 : IsDiv p f g (redL p a) [] := ⟨redL_mod hp0 a, modP_nil hp0, by simp only [List.length_nil]; omega, cgp_trans ha (cgp_trans (cgp_mul (cgp_refl p g) (cgp_symm (redL_cg p a))) (cgp_val fun x => by rw [pval_add, pval_mul, pval_nil]; omega))⟩
  exact (div_unique hp hg h h2 (cgp_refl p f)).2
/-! powers of x -/
def xL (e : Nat) : List Int := tabL (e + 1) fun i => if i = e then 1 else 0
theorem pval_xL (e : Nat) (x : Int) : pval (xL e) x = x ^ e := by
  rw [xL, pval_tab]
  show pv _ x e + (if e = e then 1 else 0) * x ^ e = _
  rw [if_pos rfl, Int.one_mul]
  have : pv (fun i => if i = e then (1 : Int) else 0) x e = pv (fun _ => 0) x e := pv_congr fun i hi => if_neg (by omega)
  have h0 : pv (fun _ => (0 : Int)) x e = 0 := by
    have := pv_add (fun _ => (0 : Int)) (fun _ => (0 : Int)) (-1) x e
    simp only [Int.mul_zero, Int.add_zero] at this
    omega
  rw [this, h0, Int.zero_add]
structure IsPow (p : Int) (f : List Int) (e : Nat) (r : List Int) : Prop where
  mod : ModP p r
  deg : r.length < f.length
  eq : ∃ q, CgP p (xL e) (addL (mulL f q) r 1)
theorem pow_unique {p : Int} (hp : PrimeP p) {f r r' : List Int} {e : Nat} (hf : ¬ p ∣ f.getD (f.length - 1) 0) (h : IsPow p f e r) (h' : IsPow p f e r') : r = r' := by
  have hp0 : 0 < p := by have := hp.1; omega
  have mk : ∀ {r}, IsPow p f e r → ∃ q, IsDiv p (xL e) f q r := fun {r} h => by
    obtain ⟨q, hq⟩ := h.eq
    exact ⟨redL p q, redL_mod hp0 q, h.mod, h.deg, cgp_trans hq (cgp_add 1 (cgp_mul (cgp_refl p f) (cgp_symm (redL_cg p q))) (cgp_refl p r))⟩
  obtain ⟨q, hq⟩ := mk h
  obtain ⟨q', hq'⟩ := mk h'
  exact (div_unique hp hf hq hq' (cgp_refl p _)).2
theorem pow_of_div {p : Int} {f m q t : List Int} {e : Nat} (hm : CgP p (xL e) m) (h : IsDiv p m f q t) : IsPow p f e t := ⟨h.mr, h.deg, q, cgp_trans hm h.eq⟩
theorem pow_mul {p : Int} {f r s m q t : List Int} {a b : Nat} (h1 : IsPow p f a r) (h2 : IsPow p f b s) (hm : CgP p m (mulL r s)) (h : IsDiv p m f q t) : IsPow p f (a + b) t := by
  obtain ⟨q1, k1, e1⟩ := h1.eq
  obtain ⟨q2, k2, e2⟩ := h2.eq
  obtain ⟨k3, e3⟩ := hm
  obtain ⟨k4, e4⟩ := h.eq
  refine ⟨h.mr, h.deg, addL (addL (mulL (mulL f q1) q2) (mulL q1 s) 1) (addL (mulL q2 r) q 1) 1, addL (addL (mulL (addL (mulL f q1) r 1) k2) (mulL (addL (mulL f q2) s 1) k1) 1) (addL (smulL p (mulL k1 k2)) (addL k4 k3 (-1)) 1) 1, fun x => ?_⟩
  have f1 := e1 x
  have f2 := e2 x
  have f3 := e3 x
  have f4 := e4 x
  rw [pval_xL] at f1 f2
  simp only [pval_add, pval_mul, pval_smul] at f1 f2 f3 f4 ⊢
  rw [pval_xL, Int.pow_add, f1, f2]
  generalize pval f x = F at *
  generalize pval q1 x = Q1 at *
  generalize pval q2 x = Q2 at *
  generalize pval r x = R at *
  generalize pval s x = S at *
  generalize pval k1 x = K1 at *
  generalize pval k2 x = K2 at *
  generalize pval k3 x = K3 at *
  generalize pval k4 x = K4 at *
  generalize pval q x = Q at *
  generalize pval t x = T at *
  generalize pval m x = M at *
  grind
theorem pval_up (l : List Int) (x : Int) : pval (0 :: l) x = x * pval l x := by
  show pv (fun i => (0 :: l).getD i 0) x (l.length + 1) = _
  rw [pv_shift]
  show (0 : Int) + _ = _
  rw [Int.zero_add]; rfl
theorem pow_next {p : Int} {f r m q t : List Int} {e : Nat} (h : IsPow p f e r) (hm : CgP p m (0 :: r)) (hd : IsDiv p m f q t) : IsPow p f (e + 1) t := by
  obtain ⟨q1, k1, e1⟩ := h.eq
  obtain ⟨k3, e3⟩ := hm
  obtain ⟨k4, e4⟩ := hd.eq
  refine ⟨hd.mr, hd.deg, addL (0 :: q1) q 1, addL (0 :: k1) (addL k4 k3 (-1)) 1, fun x => ?_⟩
  have f1 := e1 x
  have f3 := e3 x
  have f4 := e4 x
  rw [pval_xL] at f1
  simp only [pval_add, pval_mul, pval_up] at f1 f3 f4 ⊢
  rw [pval_xL, Int.pow_succ, f1]
  grind
/-! roots -/
theorem pval_lin (c x : Int) : pval [c, 1] x = c + x := by simp [pval, pv, Int.pow_succ]
theorem root_div {p c a : Int} (hp : 0 < p) {f q r : List Int} (h : IsDiv p f [c, 1] q r) (hc : p ∣ c + a) : (r = [] ↔ p ∣ pval f a) := by
  have hr := h.deg
  have hr1 : r.length ≤ 1 := by simp at hr; omega
  obtain ⟨k, hk⟩ := h.eq
  have h1 := hk a
  rw [pval_add, pval_mul, pval_lin] at h1
  have h2 : pval r a = r.getD 0 0 := by
    rw [pval_upto r a hr1]; simp [pv]
  rw [h2] at h1
  obtain ⟨d, hd⟩ := hc
  constructor
  · intro e
    subst e
    simp at h1
    exact ⟨d * pval q a + pval k a, by rw [h1, hd]; grind⟩
  · rintro ⟨m, hm⟩
    refine modP_zero h.mr fun i => ?_
    by_cases hi : i = 0
    · subst hi
      exact ⟨m - d * pval q a - pval k a, by rw [hm, hd] at h1; grind⟩
    · rw [getD_out (by omega)]; exact Int.dvd_zero _
def evM (p : Int) (f : List Int) (x : Int) : Nat → Int
  | 0 => 0
  | j + 1 => (evM p f x j * x + f.getD (f.length - 1 - j) 0) % p
theorem evM_dvd (p : Int) (f : List Int) (x : Int) : ∀ j, p ∣ evM p f x j - evalD f x j
  | 0 => by show p ∣ (0 : Int) - 0; simp
  | j + 1 => by
    obtain ⟨c, hc⟩ := evM_dvd p f x j
    have h2 := Int.emod_add_mul_ediv (evM p f x j * x + f.getD (f.length - 1 - j) 0) p
    show p ∣ (evM p f x j * x + f.getD (f.length - 1 - j) 0) % p - (evalD f x j * x + f.getD (f.length - 1 - j) 0)
    refine ⟨c * x - (evM p f x j * x + f.getD (f.length - 1 - j) 0) / p, ?_⟩
    generalize (evM p f x j * x + f.getD (f.length - 1 - j) 0) / p = v at *
    generalize (evM p f x j * x + f.getD (f.length - 1 - j) 0) % p = u at *
    grind
theorem evM_root {p : Int} (hp : 0 < p) (f : List Int) (x : Int) (h0 : 0 < f.length) : (evM p f x f.length = 0 ↔ p ∣ pval f x) := by
  have h := evM_dvd p f x f.length
  have he : evalD f x f.length = pval f x := evalL_pval f x
  rw [he] at h
  constructor
  · intro e
    rw [e] at h
    obtain ⟨c, hc⟩ := h
    exact ⟨-c, by rw [Int.mul_neg]; omega⟩
  · rintro ⟨c, hc⟩
    obtain ⟨d, hd⟩ := h
    obtain ⟨n, hn⟩ : ∃ n, f.length = n + 1 := ⟨f.length - 1, by omega⟩
    have hr : 0 ≤ evM p f x f.length ∧ evM p f x f.length < p := by
      rw [hn]; exact ⟨Int.emod_nonneg _ (by omega), Int.emod_lt_of_pos _ hp⟩
    exact mod_same hr ⟨by omega, hp⟩ ⟨d + c, by rw [Int.mul_add]; omega⟩
end Go.Proofs.Ytbjkcoajabcibaa
