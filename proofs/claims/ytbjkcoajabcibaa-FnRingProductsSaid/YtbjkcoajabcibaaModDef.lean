/- Plain mathematics of chapter 8: what the functions answer. -/
import Derived.Test.YtbjkcoajabcibaaModPrime
import Derived.Test.YtbjkcoajabcibaaBezPos
namespace Go.Proofs.Ytbjkcoajabcibaa
set_option linter.unusedVariables false
set_option maxRecDepth 20000
set_option linter.unusedSimpArgs false
def modB (p : Int) (f : List Int) : Bool := smallB p && (decide (f.length ≤ 9) && ((f.all fun x => inB x 0 (p - 1)) && lastB f))
structure ModOk (p : Int) (f : List Int) : Prop where
  two : 2 ≤ p
  top : p ≤ 97
  prime : PrimeP p
  len : f.length ≤ 9
  mod : ModP p f
theorem small_prime {p : Int} (h : smallB p = true) : 2 ≤ p ∧ p ≤ 97 ∧ PrimeP p := by
  unfold smallB at h
  rw [Bool.and_eq_true] at h
  have h1 : 2 ≤ p ∧ p ≤ 97 := by simpa [inB] using h.1
  exact ⟨h1.1, h1.2, primeP_of h1.1 h.2⟩
theorem modB_of {p : Int} {f : List Int} (h : modB p f = true) : ModOk p f := by
  simp only [modB, Bool.and_eq_true, decide_eq_true_eq] at h
  obtain ⟨h1, h2, h3, h4⟩ := h
  obtain ⟨p2, p97, pp⟩ := small_prime h1
  refine ⟨p2, p97, pp, h2, fun i => ?_, h4⟩
  by_cases hi : i < f.length
  · have := List.all_eq_true.1 h3 (f.getD i 0) (by simp [List.getD, hi])
    simp only [inB, Bool.and_eq_true, decide_eq_true_eq] at this
    omega
  · rw [getD_out (by omega)]; omega
theorem modB_mk {p : Int} {f : List Int} (hs : smallB p = true) (hl : f.length ≤ 9) (h : ModP p f) : modB p f = true := by
  simp only [modB, Bool.and_eq_true, decide_eq_true_eq]
  refine ⟨hs, hl, List.all_eq_true.2 fun x hx => ?_, h.last⟩
  obtain ⟨i, hi, rfl⟩ := List.getElem_of_mem hx
  have := h.rng i
  rw [show f.getD i 0 = f[i] by simp [List.getD, hi]] at this
  simp only [inB, Bool.and_eq_true, decide_eq_true_eq]; omega
/-- valid by p: a valid polynomial of chapter 6 too -/
theorem mod_poly {p : Int} {f : List Int} (hp : p ≤ 97) (hl : f.length ≤ 9) (h : ModP p f) : polyB f = true := by
  simp only [polyB, Bool.and_eq_true, decide_eq_true_eq]
  refine ⟨List.all_eq_true.2 fun x hx => ?_, hl, h.last⟩
  obtain ⟨i, hi, rfl⟩ := List.getElem_of_mem hx
  have := h.rng i
  rw [show f.getD i 0 = f[i] by simp [List.getD, hi]] at this
  simp only [cofB, inB, Bool.and_eq_true, decide_eq_true_eq]; omega
def invP (p : Int) (g : List Int) : Int := bezX (g.getD (g.length - 1) 0) p % p
theorem invP_dvd {p : Int} {g : List Int} (h2 : 2 ≤ p) (h97 : p ≤ 97) (hp : PrimeP p) (h : ModP p g) (h0 : g ≠ []) : p ∣ invP p g * g.getD (g.length - 1) 0 - 1 := by
  have hl := modP_last h h0
  have hr := h.rng (g.length - 1)
  unfold invP
  generalize g.getD (g.length - 1) 0 = a at *
  have hg : Int.gcd a p = 1 := by
    have h3 : ((Int.gcd a p : Nat) : Int) ∣ p := Int.gcd_dvd_right ..
    have h4 : ((Int.gcd a p : Nat) : Int) ∣ a := Int.gcd_dvd_left ..
    obtain ⟨c, hc⟩ := h3
    have h5 : p ∣ (Int.gcd a p : Int) ∨ p ∣ c := hp.2 _ _ ⟨1, by rw [← hc]; omega⟩
    rcases h5 with h5 | h5
    · exact absurd (Int.dvd_trans h5 h4) hl
    · obtain ⟨d, hd⟩ := h5
      have h6 : p * 1 = p * ((Int.gcd a p : Int) * d) := by
        have h61 : p = (Int.gcd a p : Int) * (p * d) := by rw [← hd]; exact hc
        grind
      have h7 : (Int.gcd a p : Int) * d = 1 := (Int.eq_of_mul_eq_mul_left (by omega) h6).symm
      have h8 : ((Int.gcd a p : Nat) : Int) ∣ 1 := ⟨d, h7.symm⟩
      have h9 := Int.natAbs_dvd_natAbs.2 h8
      simpa using h9
  have ha : 0 < a := by
    rcases (by omega : a = 0 ∨ 0 < a) with e | e
    · exact absurd (by rw [e]; exact Int.dvd_zero p) hl
    · exact e
  have h3 := bez_inverse (a := a) (m := p) (by omega) hr.2 h2 (by omega) hg
  have h4 : (a * (bezX a p % p) - 1) % p = 0 := by
    rw [Int.sub_emod, h3]
    have : (1 : Int) % p = 1 := Int.emod_eq_of_lt (by omega) (by omega)
    rw [this]; simp
  rw [Int.mul_comm]
  exact Int.dvd_of_emod_eq_zero h4
def quoP (p : Int) (f g : List Int) : List Int := mdQ p (invP p g) f g
def remP (p : Int) (f g : List Int) : List Int := mdR p (invP p g) f g
theorem divP_is {p : Int} {f g : List Int} (h2 : 2 ≤ p) (h97 : p ≤ 97) (hp : PrimeP p) (hf : ModP p f) (hg : ModP p g) (h0 : g ≠ []) : IsDiv p f g (quoP p f g) (remP p f g) :=
  md_isdiv (by omega) hf (invP_dvd h2 h97 hp hg h0) (by cases g with | nil => exact absurd rfl h0 | cons a b => simp)
def monP (p : Int) (f : List Int) : List Int := if f.length = 0 then [] else redL p (mulL f [invP p f])
def gcdN (p : Int) : Nat → List Int → List Int → List Int
  | 0, f, _ => monP p f
  | n + 1, f, g => if g.length = 0 then monP p f else gcdN p n g (remP p f g)
def gcdL (p : Int) (f g : List Int) : List Int := gcdN p g.length f g
theorem monP_is {p : Int} {f : List Int} (h2 : 2 ≤ p) (h97 : p ≤ 97) (hp : PrimeP p) (hf : ModP p f) : IsGcd p f [] (monP p f) ∧ (monP p f).length = f.length := by
  unfold monP
  by_cases h : f.length = 0
  · have e : f = [] := List.eq_nil_of_length_eq_zero h
    rw [if_pos h, e]; exact ⟨gcd_nil (by omega), rfl⟩
  · have e : f ≠ [] := fun e => h (by rw [e]; rfl)
    rw [if_neg h]
    exact gcd_base hp hf e (invP_dvd h2 h97 hp hf e)
theorem gcdN_is {p : Int} (h2 : 2 ≤ p) (h97 : p ≤ 97) (hp : PrimeP p) : ∀ n f g, ModP p f → ModP p g → g.length ≤ n → IsGcd p f g (gcdN p n f g)
  | 0, f, g, hf, hg, hn => by
    have e : g = [] := List.eq_nil_of_length_eq_zero (by omega)
    rw [e]; exact (monP_is h2 h97 hp hf).1
  | n + 1, f, g, hf, hg, hn => by
    rw [gcdN]
    by_cases h : g.length = 0
    · rw [if_pos h, List.eq_nil_of_length_eq_zero h]; exact (monP_is h2 h97 hp hf).1
    · rw [if_neg h]
      have hd := divP_is h2 h97 hp hf hg (fun e => h (by rw [e]; rfl))
      exact gcd_step hd (gcdN_is h2 h97 hp n g _ hg hd.mr (by have := hd.deg; omega))
theorem gcdL_is {p : Int} (h2 : 2 ≤ p) (h97 : p ≤ 97) (hp : PrimeP p) {f g : List Int} (hf : ModP p f) (hg : ModP p g) : IsGcd p f g (gcdL p f g) := gcdN_is h2 h97 hp _ f g hf hg (Nat.le_refl _)
def powL (p : Int) (f : List Int) (e : Nat) : List Int := mdR p (invP p f) (redL p (xL e)) f
theorem powL_is {p : Int} (h2 : 2 ≤ p) (h97 : p ≤ 97) (hp : PrimeP p) {f : List Int} (hf : ModP p f) (h0 : f ≠ []) (e : Nat) : IsPow p f e (powL p f e) :=
  pow_of_div (cgp_symm (redL_cg p (xL e))) (divP_is h2 h97 hp (redL_mod (by omega) (xL e)) hf h0)
theorem powL_eq {p : Int} (h2 : 2 ≤ p) (h97 : p ≤ 97) (hp : PrimeP p) {f r : List Int} (hf : ModP p f) (h0 : f ≠ []) {e : Nat} (h : IsPow p f e r) : r = powL p f e :=
  pow_unique hp (modP_last hf h0) h (powL_is h2 h97 hp hf h0 e)
def rootsN (p : Int) (f : List Int) : Nat → List Int
  | 0 => []
  | k + 1 => rootsN p f k ++ (if evM p f k f.length = 0 then [(k : Int)] else [])
theorem rootsN_mem {p : Int} {f : List Int} : ∀ k x, x ∈ rootsN p f k → 0 ≤ x ∧ x < (k : Int) ∧ evM p f x f.length = 0
  | 0, x, h => by simp [rootsN] at h
  | k + 1, x, h => by
    rw [rootsN, List.mem_append] at h
    rcases h with h | h
    · have := rootsN_mem k x h; omega
    · split at h
      · rename_i h2
        have e : x = k := by simpa using h
        subst e; exact ⟨by omega, by omega, h2⟩
      · simp at h
theorem rootsN_len {p : Int} {f : List Int} : ∀ k, (rootsN p f k).length ≤ k
  | 0 => Nat.le_refl _
  | k + 1 => by
    have := rootsN_len (p := p) (f := f) k
    rw [rootsN, List.length_append]
    split <;> simp <;> omega
def freeB (p : Int) (f : List Int) : Bool := decide (0 < f.length) && decide ((gcdL p f (redL p (derL f))).length = 1)
end Go.Proofs.Ytbjkcoajabcibaa
