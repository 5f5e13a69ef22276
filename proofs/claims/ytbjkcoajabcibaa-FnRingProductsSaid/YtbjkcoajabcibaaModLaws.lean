/- Plain mathematics of chapter 8: what the three laws ask. -/
import Derived.Test.YtbjkcoajabcibaaModDef
namespace Go.Proofs.Ytbjkcoajabcibaa
set_option linter.unusedVariables false
set_option maxRecDepth 20000
set_option linter.unusedSimpArgs false
theorem trimL_le (l : List Int) : (trimL l).length ≤ l.length := by
  rw [trimL]; simp; omega
theorem mulL_len (f g : List Int) (hf : f ≠ []) (hg : g ≠ []) : (mulL f g).length = f.length + g.length - 1 := by
  have h1 : f.length ≠ 0 := fun e => hf (List.eq_nil_of_length_eq_zero e)
  have h2 : g.length ≠ 0 := fun e => hg (List.eq_nil_of_length_eq_zero e)
  rw [mulL, if_neg (by omega), tabL_length]
theorem redL_le (p : Int) (f : List Int) : (redL p f).length ≤ f.length := by
  rw [redL]; have := trimL_le (tabL f.length fun i => f.getD i 0 % p); rwa [tabL_length] at this
/-- products by a prime -/
def prodL (p : Int) (f g : List Int) : List Int := redL p (mulL f g)
theorem prodL_comm {p : Int} (hp : 0 < p) (f g : List Int) : prodL p f g = prodL p g f :=
  redL_same hp (cgp_val fun x => by rw [pval_mul, pval_mul, Int.mul_comm])
theorem prodL_nil {p : Int} (hp : 0 < p) (f : List Int) : prodL p f [] = [] := by
  rw [prodL, mulL, if_pos (.inr rfl)]; rfl
theorem prodL_len (p : Int) (f g : List Int) : (prodL p f g).length ≤ f.length + g.length - 1 := by
  rw [prodL]
  by_cases h : f.length = 0 ∨ g.length = 0
  · rw [mulL, if_pos h]; simp [redL, trimL, tabL]
  · refine Nat.le_trans (redL_le p _) ?_
    rw [mulL, if_neg h, tabL_length]; omega
/-! division -/
theorem quoP_len (p : Int) (f g : List Int) : (quoP p f g).length ≤ f.length + 1 - g.length := by
  unfold quoP mdQ
  have := trimL_le (tabL (f.length + 1 - g.length) fun i => mdC p (invP p g) g (fun j => f.getD j 0) f.length (f.length - g.length - i))
  rwa [tabL_length] at this
theorem remP_len (p : Int) (f g : List Int) : (remP p f g).length ≤ f.length := by
  unfold remP mdR
  have := trimL_le (tabL f.length (mdS p (invP p g) g (fun j => f.getD j 0) f.length (f.length + 1 - g.length)))
  rwa [tabL_length] at this
/-- the divisor times the quotient plus the remainder -/
theorem div_back {p : Int} (hp : 0 < p) {f g q r : List Int} (hf : ModP p f) (h : IsDiv p f g q r) :
    trimL (tabL (max (prodL p g q).length r.length) fun i => ((prodL p g q).getD i 0 + r.getD i 0) % p) = f := by
  refine last_unique (trimL_last _) hf.last fun i => ?_
  rw [trimL_getD]
  have h1 : p ∣ f.getD i 0 - ((prodL p g q).getD i 0 + r.getD i 0) := by
    have h2 := cgp_coef (cgp_trans h.eq (cgp_add 1 (cgp_symm (redL_cg p (mulL g q))) (cgp_refl p r))) i
    rwa [addL_getD, Int.one_mul] at h2
  by_cases hi : i < max (prodL p g q).length r.length
  · rw [tabL_getD hi]
    refine mod_same ⟨Int.emod_nonneg _ (by omega), Int.emod_lt_of_pos _ hp⟩ (hf.rng i) ?_
    obtain ⟨c, hc⟩ := h1
    have h3 := Int.emod_add_mul_ediv ((prodL p g q).getD i 0 + r.getD i 0) p
    exact ⟨-c - ((prodL p g q).getD i 0 + r.getD i 0) / p, by grind⟩
  · rw [tabL_out (by omega)]
    rw [getD_out (l := prodL p g q) (by omega), getD_out (l := r) (by omega)] at h1
    exact (mod_same (hf.rng i) ⟨by omega, hp⟩ (by simpa using h1)).symm
theorem nil_of {l : List Int} (h : l.length = 0) : l = [] := List.eq_nil_of_length_eq_zero h
/-! common divisors -/
theorem gcd_zero {p : Int} (hp : 0 < p) {f g d : List Int} (hf : ModP p f) (hg : ModP p g) (h : IsGcd p f g d) : (d = [] ↔ f = [] ∧ g = []) := by
  constructor
  · intro e
    subst e
    have zero : ∀ {l : List Int}, ModP p l → (∃ a, CgP p l (mulL [] a)) → l = [] := fun {l} hl ⟨a, ha⟩ =>
      modP_zero hl fun i => by have := cgp_coef ha i; rwa [mulL, if_pos (.inl rfl), show ([] : List Int).getD i 0 = 0 by simp, Int.sub_zero] at this
    exact ⟨zero hf h.left, zero hg h.right⟩
  · rintro ⟨rfl, rfl⟩
    obtain ⟨u, v, k, hk⟩ := h.comb
    refine modP_zero h.mod fun i => ?_
    have h2 : CgP p d [] := ⟨k, fun x => by have := hk x; rw [pval_add, pval_mul, pval_mul, pval_nil] at this; rw [pval_nil]; omega⟩
    have := cgp_coef h2 i
    rwa [show ([] : List Int).getD i 0 = 0 by simp, Int.sub_zero] at this
theorem gcd_le {p : Int} (hp : PrimeP p) {f g d : List Int} (hf : ModP p f) (hg : ModP p g) (h : IsGcd p f g d) : d.length ≤ max f.length g.length := by
  have hp0 : 0 < p := by have := hp.1; omega
  by_cases hd : d = []
  · subst hd; simp
  · by_cases h1 : f = []
    · by_cases h2 : g = []
      · exact absurd ((gcd_zero hp0 hf hg h).2 ⟨h1, h2⟩) hd
      · obtain ⟨b, hb⟩ := h.right
        have := multiple_le hp hg h.mod h2 hd hb
        omega
    · obtain ⟨a, ha⟩ := h.left
      have := multiple_le hp hf h.mod h1 hd ha
      omega
theorem gcd_rest {p : Int} (h2 : 2 ≤ p) (h97 : p ≤ 97) (hp : PrimeP p) {f g d : List Int} (hf : ModP p f) (hg : ModP p g) (h : IsGcd p f g d) (hd : d ≠ []) : remP p f d = [] ∧ remP p g d = [] := by
  have hl := modP_last h.mod hd
  obtain ⟨a, ha⟩ := h.left
  obtain ⟨b, hb⟩ := h.right
  exact ⟨div_exact hp hl (divP_is h2 h97 hp hf h.mod hd) ha, div_exact hp hl (divP_is h2 h97 hp hg h.mod hd) hb⟩
/-- what the law of divisors asks -/
theorem common_law {p : Int} {f g : List Int} (hf : modB p f = true) (hg : modB p g = true) (h0 : (gcdL p f g).length ≠ 0) :
    modB p (gcdL p f g) = true ∧ remP p f (gcdL p f g) = [] ∧ remP p g (gcdL p f g) = [] ∧ (gcdL p f g).getD ((gcdL p f g).length - 1) 0 = 1 := by
  have F := modB_of hf
  have G := modB_of hg
  have h := gcdL_is F.two F.top F.prime F.mod G.mod
  have hd : gcdL p f g ≠ [] := fun e => h0 (by rw [e]; rfl)
  have hle := gcd_le F.prime F.mod G.mod h
  have hs : smallB p = true := by simp only [modB, Bool.and_eq_true] at hf; exact hf.1
  have hr := gcd_rest F.two F.top F.prime F.mod G.mod h hd
  exact ⟨modB_mk hs (by have := F.len; have := G.len; omega) h.mod, hr.1, hr.2, h.mon.resolve_left hd⟩
theorem der_mod {p : Int} {f : List Int} (hf : modB p f = true) : modB p (redL p (derL f)) = true := by
  have F := modB_of hf
  have hs : smallB p = true := by simp only [modB, Bool.and_eq_true] at hf; exact hf.1
  refine modB_mk hs (Nat.le_trans (redL_le p _) ?_) (redL_mod (by have := F.two; omega) _)
  rw [derL, tabL_length]; have := F.len; omega
/-! powers of x -/
theorem up_mod {p : Int} {r : List Int} (h : ModP p r) (h0 : r ≠ []) : ModP p (0 :: r) := by
  have hp : 0 < p := by have := h.rng 0; omega
  refine ⟨fun i => ?_, ?_⟩
  · cases i with
    | zero => exact ⟨Int.le_refl _, hp⟩
    | succ i => exact h.rng i
  · have hl : r.length ≠ 0 := fun e => h0 (nil_of e)
    have := h.last
    unfold lastB at this ⊢
    obtain ⟨n, hn⟩ : ∃ n, r.length = n + 1 := ⟨r.length - 1, by omega⟩
    rw [hn] at this
    simpa [hn] using this
/-- the next power of x: .. times x, the remainder -/
theorem powL_succ {p : Int} (h2 : 2 ≤ p) (h97 : p ≤ 97) (hp : PrimeP p) {f : List Int} (hf : ModP p f) (h0 : f ≠ []) (e : Nat) :
    powL p f (e + 1) = if (powL p f e).length = 0 then [] else remP p (0 :: powL p f e) f := by
  have h := powL_is h2 h97 hp hf h0 e
  by_cases hn : (powL p f e).length = 0
  · rw [if_pos hn]
    have hz := nil_of hn
    rw [hz] at h
    refine (powL_eq h2 h97 hp hf h0 (pow_next (q := []) h (m := []) (cgp_val fun x => by rw [pval_up, pval_nil, Int.mul_zero]) ⟨modP_nil (by omega), modP_nil (by omega), ?_, cgp_val fun x => by rw [pval_add, pval_mul, pval_nil]; omega⟩)).symm
    exact h.deg
  · rw [if_neg hn]
    have hm := up_mod h.mod fun e => hn (by rw [e]; rfl)
    exact (powL_eq h2 h97 hp hf h0 (pow_next h (cgp_refl p _) (divP_is h2 h97 hp hm hf h0))).symm
theorem up_modB {p : Int} {f r : List Int} (hf : modB p f = true) (hl : f.length < 9) (hr : ModP p r) (hd : r.length < f.length) (h0 : r.length ≠ 0) : modB p (0 :: r) = true := by
  have hs : smallB p = true := by simp only [modB, Bool.and_eq_true] at hf; exact hf.1
  exact modB_mk hs (by simp only [List.length_cons]; omega) (up_mod hr fun e => h0 (by rw [e]; rfl))
/-- powers put together: as spec and others work them out -/
theorem pow_join {p : Int} (h2 : 2 ≤ p) (h97 : p ≤ 97) (hp : PrimeP p) {f r s : List Int} (hf : ModP p f) (h0 : f ≠ []) {a b : Nat} (hr : IsPow p f a r) (hs : IsPow p f b s) : IsPow p f (a + b) (remP p (prodL p r s) f) :=
  pow_mul hr hs (redL_cg p (mulL r s)) (divP_is h2 h97 hp (redL_mod (by omega) _) hf h0)
theorem pow_first {p : Int} (h2 : 2 ≤ p) (h97 : p ≤ 97) (hp : PrimeP p) {f : List Int} (hf : ModP p f) (h0 : f ≠ []) : IsPow p f 0 (remP p [1] f) ∧ IsPow p f 1 (remP p [0, 1] f) := by
  have h1 : ModP p [1] := ⟨fun i => by
    match i with
    | 0 => exact ⟨by simp, by simp; omega⟩
    | i + 1 => simp; omega, by simp [lastB]⟩
  have hx : ModP p [0, 1] := ⟨fun i => by
    match i with
    | 0 => exact ⟨by simp, by simp; omega⟩
    | 1 => exact ⟨by simp, by simp; omega⟩
    | i + 2 => simp; omega, by simp [lastB]⟩
  refine ⟨pow_of_div (cgp_val fun x => ?_) (divP_is h2 h97 hp h1 hf h0), pow_of_div (cgp_val fun x => ?_) (divP_is h2 h97 hp hx hf h0)⟩
  · rw [pval_xL, pval_one, Int.pow_zero]
  · rw [pval_xL, pval_lin, Int.pow_succ, Int.pow_zero]; omega
/-! roots -/
theorem lin_mod {p a : Int} (hp : 2 ≤ p) (ha : 0 ≤ a ∧ a < p) : ModP p [(p - a) % p, 1] := by
  refine ⟨fun i => ?_, by simp [lastB]⟩
  match i with
  | 0 => exact ⟨Int.emod_nonneg _ (by omega), Int.emod_lt_of_pos _ (by omega)⟩
  | 1 => exact ⟨by simp, by simp; omega⟩
  | i + 2 => simp; omega
theorem root_rest {p : Int} {f : List Int} (hf : modB p f = true) (h0 : f.length ≠ 0) {a : Int} (ha : a ∈ rootsN p f p.toNat) :
    modB p [(p - a) % p, 1] = true ∧ remP p f [(p - a) % p, 1] = [] := by
  have F := modB_of hf
  have h2 := F.two
  have hs : smallB p = true := by simp only [modB, Bool.and_eq_true] at hf; exact hf.1
  obtain ⟨h1, h3, h4⟩ := rootsN_mem _ _ ha
  have hl := lin_mod h2 (a := a) ⟨h1, by omega⟩
  refine ⟨modB_mk hs (by simp) hl, ?_⟩
  refine (root_div (by omega) (divP_is h2 F.top F.prime F.mod hl (by simp)) ?_).2 ((evM_root (by omega) f a (by omega)).1 h4)
  have h5 := Int.emod_add_mul_ediv (p - a) p
  exact ⟨1 - (p - a) / p, by grind⟩
end Go.Proofs.Ytbjkcoajabcibaa
