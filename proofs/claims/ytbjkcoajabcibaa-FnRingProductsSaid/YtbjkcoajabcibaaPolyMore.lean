/- Plain mathematics of chapter 6: bounds of values, lists turned round, what the laws ask. -/
import Derived.Test.YtbjkcoajabcibaaPolyShift
namespace Go.Proofs.Ytbjkcoajabcibaa
set_option linter.unusedVariables false
set_option maxRecDepth 20000
def valueC (f : List Int) (x : Int) : Int := if polyB f then (if inB x (-1000) 1000 then (if inB (evalL f x) (-1000000000000) 1000000000000 then 0 else 3) else 2) else 1
def valueQ (f : List Int) (x : Int) : Int := if valueC f x = 0 then evalL f x else 0
/-- near places give small values -/
theorem evalD_near {f : List Int} {x : Int} (h : ∀ i, -1000000 ≤ f.getD i 0 ∧ f.getD i 0 ≤ 1000000) (h0 : -3 ≤ x) (h1 : x ≤ 3) : ∀ j, -(1000000 * 4 ^ j) ≤ evalD f x j ∧ evalD f x j ≤ 1000000 * 4 ^ j
  | 0 => by simp [evalD]
  | j + 1 => by
    obtain ⟨a, b⟩ := evalD_near h h0 h1 j
    obtain ⟨c, d⟩ := h (f.length - 1 - j)
    have hp : (1 : Int) ≤ 4 ^ j := by have := Int.pow_pos (n := (4 : Int)) (m := j) (by omega); omega
    unfold evalD
    rw [Int.pow_succ]
    generalize evalD f x j = e at *
    generalize (4 : Int) ^ j = q at *
    generalize f.getD (f.length - 1 - j) 0 = y at *
    rcases (by omega : x = -3 ∨ x = -2 ∨ x = -1 ∨ x = 0 ∨ x = 1 ∨ x = 2 ∨ x = 3) with rfl | rfl | rfl | rfl | rfl | rfl | rfl <;> omega
theorem pow4_le : ∀ {j : Nat}, j ≤ 9 → (4 : Int) ^ j ≤ 262144 := by decide
theorem value_near {f : List Int} {x : Int} (h : polyB f = true) (h0 : -3 ≤ x) (h1 : x ≤ 3) : valueC f x = 0 ∧ valueQ f x = pval f x := by
  obtain ⟨hl, hb, _⟩ := polyB_of h
  obtain ⟨a, b⟩ := evalD_near hb h0 h1 f.length
  have := pow4_le hl
  have e1 : inB x (-1000) 1000 = true := by simp [inB]; omega
  have e2 : inB (evalL f x) (-1000000000000) 1000000000000 = true := by unfold evalL; simp [inB]; omega
  have hc : valueC f x = 0 := by simp [valueC, h, e1, e2]
  exact ⟨hc, by unfold valueQ; rw [if_pos hc, evalL_pval]⟩
/-- what has become too great stays so -/
theorem evalD_far {f : List Int} {x : Int} (h : ∀ i, -1000000 ≤ f.getD i 0 ∧ f.getD i 0 ≤ 1000000) {j : Nat} (hx : x < -1 ∨ 1 < x) (hj : evalD f x j < -4000000000000 ∨ 4000000000000 < evalD f x j) :
    ∀ k, evalD f x (j + k) < -4000000000000 ∨ 4000000000000 < evalD f x (j + k)
  | 0 => hj
  | k + 1 => by
    have ih := evalD_far h hx hj k
    obtain ⟨c, d⟩ := h (f.length - 1 - (j + k))
    show evalD f x (j + k) * x + f.getD (f.length - 1 - (j + k)) 0 < _ ∨ _ < evalD f x (j + k) * x + f.getD (f.length - 1 - (j + k)) 0
    generalize evalD f x (j + k) = e at *
    generalize f.getD (f.length - 1 - (j + k)) 0 = y at *
    rcases ih with ih | ih <;> rcases hx with hx | hx
    · have := Int.mul_le_mul_of_nonpos_left (show e ≤ 0 by omega) (show x ≤ -2 by omega); omega
    · have := Int.mul_le_mul_of_nonpos_left (show e ≤ 0 by omega) (show 2 ≤ x by omega); omega
    · have := Int.mul_le_mul_of_nonneg_left (show x ≤ -2 by omega) (show 0 ≤ e by omega); omega
    · have := Int.mul_le_mul_of_nonneg_left (show 2 ≤ x by omega) (show 0 ≤ e by omega); omega
theorem evalD_flat {f : List Int} {x : Int} (h : ∀ i, -1000000 ≤ f.getD i 0 ∧ f.getD i 0 ≤ 1000000) (h0 : -1 ≤ x) (h1 : x ≤ 1) : ∀ j : Nat, -(1000000 * (j : Int)) ≤ evalD f x j ∧ evalD f x j ≤ 1000000 * (j : Int)
  | 0 => by simp [evalD]
  | j + 1 => by
    obtain ⟨a, b⟩ := evalD_flat h h0 h1 j
    obtain ⟨c, d⟩ := h (f.length - 1 - j)
    unfold evalD
    generalize evalD f x j = e at *
    generalize f.getD (f.length - 1 - j) 0 = y at *
    rcases (by omega : x = -1 ∨ x = 0 ∨ x = 1) with rfl | rfl | rfl <;> omega
/-- the early end of an evaluation -/
theorem evalD_stop {f : List Int} {x : Int} (h : polyB f = true) {j : Nat} (hj : j ≤ f.length) (hf : inB (evalD f x j) (-4000000000000) 4000000000000 = false) : inB (evalL f x) (-1000000000000) 1000000000000 = false := by
  obtain ⟨hl, hb, _⟩ := polyB_of h
  have hf' : evalD f x j < -4000000000000 ∨ 4000000000000 < evalD f x j := by
    simp only [inB, Bool.and_eq_false_iff, decide_eq_false_iff_not] at hf; omega
  by_cases hx : -1 ≤ x ∧ x ≤ 1
  · have := evalD_flat hb hx.1 hx.2 j; omega
  · have := evalD_far hb (by omega) hf' (f.length - j)
    rw [show j + (f.length - j) = f.length by omega] at this
    exact inB_f (by unfold evalL; omega)
/-- a list turned round -/
def revL (f : List Int) : List Int := tabL f.length fun i => f.getD (f.length - 1 - i) 0
theorem revL_length (f : List Int) : (revL f).length = f.length := tabL_length _ _
theorem revL_lastB {f : List Int} (h : f.getD 0 0 ≠ 0) : lastB (revL f) = true := by
  unfold lastB
  rw [revL_length]
  by_cases h0 : f.length = 0
  · simp [h0]
  · rw [revL, tabL_getD (by omega), show f.length - 1 - (f.length - 1) = 0 by omega, beq_eq_false_iff_ne.2 h]; simp
theorem revL_revL (f : List Int) : revL (revL f) = f := by
  refine ext_getD (by rw [revL_length, revL_length]) fun i hi => ?_
  rw [revL_length, revL_length] at hi
  rw [revL, tabL_getD (by rw [revL_length]; exact hi), revL_length, revL, tabL_getD (by omega)]
  congr 1; omega
theorem polyB_mk {l : List Int} (h1 : l.length ≤ 9) (h2 : ∀ i, i < l.length → -1000000 ≤ l.getD i 0 ∧ l.getD i 0 ≤ 1000000) (h3 : lastB l = true) : polyB l = true := by
  simp only [polyB, h3, Bool.and_true, Bool.and_eq_true, decide_eq_true_eq, List.all_eq_true]
  refine ⟨fun x hx => ?_, h1⟩
  obtain ⟨i, hi, rfl⟩ := List.getElem_of_mem hx
  have := h2 i hi
  simp only [List.getD, List.getElem?_eq_getElem hi, Option.getD_some] at this
  simpa [cofB, inB] using this
theorem rev_back {f : List Int} (h : polyB f = true) (h0 : f.getD 0 0 ≠ 0) : resC (revL f) = 0 ∧ resL (revL f) = revL f ∧ resC (revL (resL (revL f))) = 0 ∧ resL (revL (resL (revL f))) = f := by
  obtain ⟨hl, hb, h3⟩ := polyB_of h
  have ht : trimL (revL f) = revL f := trimL_self (revL_lastB h0)
  have hp : polyB (revL f) = true := polyB_mk (by rw [revL_length]; exact hl) (fun i hi => by rw [revL_length] at hi; rw [revL, tabL_getD hi]; exact hb _) (revL_lastB h0)
  have hlf : lastB f = true := by simp only [polyB, Bool.and_eq_true] at h; exact h.2.2
  have e : resL (revL f) = revL f := by simp [resL, ht, hp]
  refine ⟨by simp [resC, ht, hp], e, ?_, ?_⟩
  · rw [e, revL_revL]; simp [resC, trimL_self hlf, h]
  · rw [e, revL_revL]; simp [resL, trimL_self hlf, h]
theorem poly_last {l : List Int} (h : polyB l = true) : lastB l = true := by simp only [polyB, Bool.and_eq_true] at h; exact h.2.2
theorem res_poly {l : List Int} (h : resC l = 0) : polyB (resL l) = true ∧ resL l = trimL l := by
  unfold resC at h
  split at h
  · rename_i hp; simp [resL, hp]
  · omega
/-- what the law asks of a shifted polynomial -/
theorem shift_law {f : List Int} {a : Int} (hf : polyB f = true) (h : resC (shiftL f a) = 0) :
    resL (shiftL f a) = shiftL f a ∧ polyB (shiftL f a) = true ∧ (shiftL f a).length = f.length ∧ resC (shiftL (shiftL f a) (-a)) = 0 ∧ resL (shiftL (shiftL f a) (-a)) = f := by
  have hl := poly_last hf
  obtain ⟨h1, h2⟩ := res_poly h
  have ht : trimL (shiftL f a) = shiftL f a := trimL_self (shiftL_lastB a hl)
  rw [h2, ht] at h1
  refine ⟨h2.trans ht, h1, shiftL_length f a, ?_, ?_⟩
  · rw [shift_back a hl]; simp [resC, trimL_self hl, hf]
  · rw [shift_back a hl]; simp [resL, trimL_self hl, hf]
/-- what the law asks of values -/
theorem values_law {f g : List Int} {x : Int} (hf : polyB f = true) (hg : polyB g = true) (hp : resC (mulL f g) = 0) (hs : resC (addL f g 1) = 0) (h0 : -3 ≤ x) (h1 : x ≤ 3) :
    valueC f x = 0 ∧ valueC g x = 0 ∧ valueC (resL (mulL f g)) x = 0 ∧ valueC (resL (addL f g 1)) x = 0 ∧
    valueQ (resL (mulL f g)) x = valueQ f x * valueQ g x ∧ valueQ (resL (addL f g 1)) x = valueQ f x + valueQ g x := by
  obtain ⟨p1, p2⟩ := res_poly hp
  obtain ⟨s1, s2⟩ := res_poly hs
  obtain ⟨a1, a2⟩ := value_near hf h0 h1
  obtain ⟨b1, b2⟩ := value_near hg h0 h1
  obtain ⟨c1, c2⟩ := value_near p1 h0 h1
  obtain ⟨d1, d2⟩ := value_near s1 h0 h1
  refine ⟨a1, b1, c1, d1, ?_, ?_⟩
  · rw [c2, a2, b2, p2, pval_trim, pval_mul]
  · rw [d2, a2, b2, s2, pval_trim, pval_add, Int.one_mul]
/-- the content divides all coefficients -/
theorem cont_law {f : List Int} {i : Nat} (hi : i < f.length) : (f.getD i 0) % contL f = 0 := Int.emod_eq_zero_of_dvd (contN_div f f.length i hi)
end Go.Proofs.Ytbjkcoajabcibaa
