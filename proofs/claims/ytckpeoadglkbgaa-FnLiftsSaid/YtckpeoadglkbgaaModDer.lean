/- Plain mathematics of chapter 9: degrees of products, derivatives, what has no square. -/
import Derived.Test.YtckpeoadglkbgaaModIrr
namespace Go.Proofs.Ytckpeoadglkbgaa
set_option linter.unusedVariables false
set_option maxRecDepth 20000
set_option linter.unusedSimpArgs false
theorem top_mul {p : Int} (hp : PrimeP p) {a b : List Int} (ha : a ≠ []) (hb : b ≠ []) : p ∣ (mulL a b).getD (a.length + b.length - 2) 0 - a.getD (a.length - 1) 0 * b.getD (b.length - 1) 0 := by
  have h1 : a.length ≠ 0 := fun e => ha (nil_of e)
  have h2 : b.length ≠ 0 := fun e => hb (nil_of e)
  rw [mulL_getD]
  have := mulP_one (p := p) (f := a) (g := b) (n := a.length + b.length - 2) (t := a.length - 1) (by omega) a.length (fun j hj hn hne => by
    rw [getD_out (l := b) (by omega), Int.mul_zero]; exact Int.dvd_zero _)
  rw [if_pos (by omega), show a.length + b.length - 2 - (a.length - 1) = b.length - 1 by omega] at this
  exact this
/-- the degree of a product -/
theorem prod_len {p : Int} (hp : PrimeP p) {a b : List Int} (ha : ModP p a) (hb : ModP p b) (h1 : a ≠ []) (h2 : b ≠ []) : (prodL p a b).length = a.length + b.length - 1 := by
  have l1 : a.length ≠ 0 := fun e => h1 (nil_of e)
  have l2 : b.length ≠ 0 := fun e => h2 (nil_of e)
  have ht := top_mul hp h1 h2
  have hn : ¬ p ∣ (mulL a b).getD (a.length + b.length - 2) 0 := fun h => by
    have h3 : p ∣ a.getD (a.length - 1) 0 * b.getD (b.length - 1) 0 := by
      obtain ⟨c, hc⟩ := h
      obtain ⟨d, hd⟩ := ht
      exact ⟨c - d, by rw [Int.mul_sub]; omega⟩
    rcases hp.2 _ _ h3 with h | h
    · exact modP_last ha h1 h
    · exact modP_last hb h2 h
  refine Nat.le_antisymm (prodL_len p a b) ?_
  by_cases hl : a.length + b.length - 1 ≤ (prodL p a b).length
  · exact hl
  · exfalso
    have h3 := redL_getD p (mulL a b) (a.length + b.length - 2)
    rw [show redL p (mulL a b) = prodL p a b from rfl, getD_out (by omega)] at h3
    exact hn (Int.dvd_of_emod_eq_zero h3.symm)
theorem prod_ne {p : Int} (hp : PrimeP p) {a b : List Int} (ha : ModP p a) (hb : ModP p b) (h1 : a ≠ []) (h2 : b ≠ []) : prodL p a b ≠ [] := fun e => by
  have := prod_len hp ha hb h1 h2
  have l1 : a.length ≠ 0 := fun e => h1 (nil_of e)
  have l2 : b.length ≠ 0 := fun e => h2 (nil_of e)
  rw [e] at this; simp at this; omega
theorem prod_mon {p : Int} (hp : PrimeP p) {a b : List Int} (ha : ModP p a) (hb : ModP p b) (h1 : a ≠ []) (h2 : b ≠ []) (ma : a.getD (a.length - 1) 0 = 1) (mb : b.getD (b.length - 1) 0 = 1) : (prodL p a b).getD ((prodL p a b).length - 1) 0 = 1 := by
  have l1 : a.length ≠ 0 := fun e => h1 (nil_of e)
  have l2 : b.length ≠ 0 := fun e => h2 (nil_of e)
  have ht := top_mul hp h1 h2
  rw [ma, mb] at ht
  have h3 := redL_getD p (mulL a b) (a.length + b.length - 2)
  rw [show redL p (mulL a b) = prodL p a b from rfl] at h3
  rw [prod_len hp ha hb h1 h2, show a.length + b.length - 1 - 1 = a.length + b.length - 2 by omega, h3]
  have h4 := Int.emod_emod_of_dvd ((mulL a b).getD (a.length + b.length - 2) 0) (Int.dvd_refl p)
  have hp2 := hp.1
  refine mod_same (p := p) ⟨Int.emod_nonneg _ (by omega), Int.emod_lt_of_pos _ (by omega)⟩ ⟨by omega, by omega⟩ ?_
  obtain ⟨c, hc⟩ := ht
  have h5 := Int.emod_add_mul_ediv ((mulL a b).getD (a.length + b.length - 2) 0) p
  exact ⟨c - ((mulL a b).getD (a.length + b.length - 2) 0) / p, by rw [Int.mul_sub]; omega⟩
/-! derivatives -/
theorem derL_getD (f : List Int) (i : Nat) : (derL f).getD i 0 = ((i : Int) + 1) * f.getD (i + 1) 0 := by
  rw [derL]
  by_cases h : i < f.length - 1
  · rw [tabL_getD h]
  · rw [tabL_out (by omega), getD_out (l := f) (by omega), Int.mul_zero]
theorem pval_cons (a : Int) (l : List Int) (x : Int) : pval (a :: l) x = a + x * pval l x := by
  have : pval (a :: l) x = pval (addL [a] (0 :: l) 1) x := pval_same x fun i => by
    rw [addL_getD]
    cases i with
    | zero => simp
    | succ i => simp
  rw [this, pval_add, pval_one, pval_up, Int.one_mul]
theorem der_cons (a : Int) (l : List Int) (x : Int) : pval (derL (a :: l)) x = pval l x + x * pval (derL l) x := by
  have : pval (derL (a :: l)) x = pval (addL l (0 :: derL l) 1) x := pval_same x fun i => by
    rw [addL_getD, derL_getD, show (a :: l).getD (i + 1) 0 = l.getD i 0 by simp]
    cases i with
    | zero => simp
    | succ i => rw [show (0 :: derL l).getD (i + 1) 0 = (derL l).getD i 0 by simp, derL_getD]; push_cast; grind
  rw [this, pval_add, pval_up, Int.one_mul]
theorem taylor (x e : Int) : ∀ f : List Int, ∃ R, pval f (x + e) = pval f x + e * pval (derL f) x + e * e * R
  | [] => ⟨0, by rw [show derL [] = [] from rfl]; simp only [pval_nil]; omega⟩
  | a :: l => by
    obtain ⟨R, h⟩ := taylor x e l
    refine ⟨pval (derL l) x + x * R + e * R, ?_⟩
    rw [pval_cons, pval_cons, der_cons, h]
    grind
theorem far_zero {d : Int} (h : ∀ e : Int, e ≠ 0 → e ∣ d) : d = 0 := by
  have := h ((d.natAbs : Int) + 1) (by omega)
  refine Int.eq_zero_of_dvd_of_natAbs_lt_natAbs this (by omega)
theorem der_mul (f g : List Int) (x : Int) : pval (derL (mulL f g)) x = pval (derL f) x * pval g x + pval f x * pval (derL g) x := by
  have : pval (derL (mulL f g)) x - (pval (derL f) x * pval g x + pval f x * pval (derL g) x) = 0 := by
    refine far_zero fun e he => ?_
    obtain ⟨R, h⟩ := taylor x e (mulL f g)
    obtain ⟨S, h1⟩ := taylor x e f
    obtain ⟨T, h2⟩ := taylor x e g
    rw [pval_mul, pval_mul, h1, h2] at h
    refine ⟨pval f x * T + pval (derL f) x * pval (derL g) x + S * pval g x + e * (pval (derL f) x * T + S * pval (derL g) x) + e * e * (S * T) - R, ?_⟩
    refine Int.eq_of_mul_eq_mul_left he ?_
    grind
  omega
theorem der_cg {p : Int} {f g : List Int} (h : CgP p f g) : CgP p (derL f) (derL g) := cgp_of fun i => by
  obtain ⟨c, hc⟩ := cgp_coef h (i + 1)
  rw [derL_getD, derL_getD]
  exact ⟨((i : Int) + 1) * c, by grind⟩
theorem der_pow (q : List Int) (x : Int) : ∀ n : Nat, pval (derL (powP q (n + 1))) x = ((n : Int) + 1) * pval q x ^ n * pval (derL q) x
  | 0 => by rw [powP, der_mul, powP, show derL [1] = [] from rfl, pval_nil, pval_one]; simp
  | n + 1 => by
    rw [powP, der_mul, der_pow q x n, pval_powP, Int.pow_succ]
    push_cast
    grind
/-- no square of an irreducible one divides -/
def SqFree (p : Int) (f : List Int) : Prop := ∀ q, IrrP p q → ¬ Dv p (powP q 2) f
/-- some power does not divide -/
theorem pow_stop {p : Int} (P : PP p) {q : List Int} (h : IrrP p q) : ∀ (n : Nat) (c : List Int), c.length ≤ n → ModP p c → c ≠ [] → ∃ t, ¬ Dv p (powP q t) c
  | 0, c, hn, hc, h0 => absurd (nil_of (by omega)) h0
  | n + 1, c, hn, hc, h0 => by
    have hp0 : 0 < p := by have := P.two; omega
    by_cases hd : Dv p q c
    · obtain ⟨k, hk⟩ := hd
      have hk' : CgP p c (mulL q (redL p k)) := cgp_trans hk (cgp_mul (cgp_refl p q) (cgp_symm (redL_cg p k)))
      have hk0 : redL p k ≠ [] := fun e => h0 (modP_zero hc fun i => by
        have := cgp_coef hk' i
        rwa [e, mulL, if_pos (.inr rfl), show ([] : List Int).getD i 0 = 0 by simp, Int.sub_zero] at this)
      have e : c = prodL p q (redL p k) := modP_eq hc (redL_mod hp0 _) (cgp_trans hk' (cgp_symm (redL_cg p _)))
      have hl := prod_len P.prime h.mod (redL_mod hp0 k) h.ne hk0
      rw [← e] at hl
      have hdeg := h.deg
      obtain ⟨t, ht⟩ := pow_stop P h n (redL p k) (by omega) (redL_mod hp0 k) hk0
      refine ⟨t + 1, fun ⟨m, hm⟩ => ht ⟨m, cancel P h.mod h.ne (cgp_trans (cgp_symm hk') (cgp_trans hm (cgp_val fun x => ?_)))⟩⟩
      simp only [powP, pval_mul, Int.mul_assoc]
    · exact ⟨1, fun hh => hd (dv_trans ⟨[1], cgp_val fun x => by simp only [powP, pval_mul, pval_one, Int.mul_one]⟩ hh)⟩
/-- divided by what it has in common with its derivative it has no square -/
theorem part_free {p : Int} (P : PP p) {f c k : List Int} (hc0 : c ≠ []) (hG : IsGcd p f (redL p (derL f)) c) (hk : CgP p f (mulL c k)) : SqFree p k := fun q hq ⟨m, hm⟩ => by
  have key : ∀ n, Dv p (powP q n) c := by
    intro n
    induction n with
    | zero => exact ⟨c, cgp_val fun x => by rw [powP, pval_mul, pval_one, Int.one_mul]⟩
    | succ n ih =>
      obtain ⟨a, ha⟩ := ih
      have hf : CgP p f (mulL (powP q (n + 2)) (mulL a m)) := by
        refine cgp_trans hk (cgp_trans (cgp_mul ha hm) (cgp_val fun x => ?_))
        simp only [pval_mul, pval_powP]
        rw [Int.pow_add]; grind
      have hd := der_cg hf
      obtain ⟨u, v, w, hw⟩ := hG.comb
      obtain ⟨w1, h1⟩ := hf
      obtain ⟨w2, h2⟩ := hd
      obtain ⟨w3, h3⟩ := redL_cg p (derL f)
      refine ⟨addL (mulL u (mulL q (mulL a m))) (mulL v (addL (smulL ((n : Int) + 2) (mulL (derL q) (mulL a m))) (mulL q (derL (mulL a m))) 1)) 1, addL (addL w (mulL u w1) 1) (mulL v (addL w2 w3 1)) 1, fun x => ?_⟩
      have e := hw x
      have e1 := h1 x
      have e2 := h2 x
      have e3 := h3 x
      rw [der_mul, der_pow q x (n + 1)] at e2
      simp only [pval_add, pval_mul, pval_powP, pval_smul] at e e1 e2 e3 ⊢
      rw [Int.pow_succ, Int.pow_succ] at e1 e2
      push_cast at e2
      rw [Int.pow_succ]
      rw [e, e3, e2, e1]
      rw [Int.pow_succ]
      grind
  obtain ⟨t, ht⟩ := pow_stop P hq _ c (Nat.le_refl _) hG.mod hc0
  exact ht (key t)
end Go.Proofs.Ytckpeoadglkbgaa
