/- Plain mathematics of chapter 6: coefficients in a row of nine, with zeros behind the last one. -/
import Derived.Test.YtbjkcoajabcibaaLfA
namespace Go.Proofs.Ytbjkcoajabcibaa
set_option linter.unusedVariables false
set_option maxRecDepth 20000
def padL (l : List Int) : List Int := tabL 9 fun i => l.getD i 0
theorem padL_length (l : List Int) : (padL l).length = 9 := tabL_length _ _
theorem padL_getD {l : List Int} (h : l.length ≤ 9) (i : Nat) : (padL l).getD i 0 = l.getD i 0 := by
  by_cases e : i < 9
  · exact tabL_getD e
  · rw [padL, tabL_out (by omega), getD_out (by omega)]
theorem trim_same {l m : List Int} (h : ∀ i, l.getD i 0 = m.getD i 0) : trimL l = trimL m :=
  last_unique (trimL_last _) (trimL_last _) fun i => by rw [trimL_getD, trimL_getD, h]
theorem trim_pad {l : List Int} (h : l.length ≤ 9) : trimL (padL l) = trimL l := trim_same (padL_getD h)
theorem res_same {l m : List Int} (h : trimL l = trimL m) : resL l = resL m ∧ resC l = resC m := by simp [resL, resC, h]
theorem pad_bd {l : List Int} (h : polyB l = true) : ∀ i, -1000000 ≤ (padL l).getD i 0 ∧ (padL l).getD i 0 ≤ 1000000 := fun i => by
  rw [padL_getD (polyB_of h).1]; exact (polyB_of h).2.1 i
theorem pval_pad {l : List Int} (h : l.length ≤ 9) (x : Int) : pval (padL l) x = pval l x := pval_same x (padL_getD h)
theorem evalL_pad {l : List Int} (h : l.length ≤ 9) (x : Int) : evalD (padL l) x 9 = evalL l x := by
  rw [evalL_pval, ← pval_pad h, ← evalL_pval]; rfl
/-- what is no value stays so -/
theorem evalD_out {f : List Int} {x : Int} (h : ∀ i, -1000000000000 ≤ f.getD i 0 ∧ f.getD i 0 ≤ 1000000000000) {j : Nat} (hx : x < -1 ∨ 1 < x) (hj : evalD f x j < -1000000000000 ∨ 1000000000000 < evalD f x j) :
    ∀ k, evalD f x (j + k) < -1000000000000 ∨ 1000000000000 < evalD f x (j + k)
  | 0 => hj
  | k + 1 => by
    have ih := evalD_out h hx hj k
    obtain ⟨c, d⟩ := h (f.length - 1 - (j + k))
    show evalD f x (j + k) * x + f.getD (f.length - 1 - (j + k)) 0 < _ ∨ _ < evalD f x (j + k) * x + f.getD (f.length - 1 - (j + k)) 0
    generalize evalD f x (j + k) = e at *
    generalize f.getD (f.length - 1 - (j + k)) 0 = y at *
    rcases ih with ih | ih <;> rcases hx with hx | hx
    · have := Int.mul_le_mul_of_nonpos_left (show e ≤ 0 by omega) (show x ≤ -2 by omega); omega
    · have := Int.mul_le_mul_of_nonpos_left (show e ≤ 0 by omega) (show 2 ≤ x by omega); omega
    · have := Int.mul_le_mul_of_nonneg_left (show x ≤ -2 by omega) (show 0 ≤ e by omega); omega
    · have := Int.mul_le_mul_of_nonneg_left (show 2 ≤ x by omega) (show 0 ≤ e by omega); omega
theorem evalD_flatB {f : List Int} {x B : Int} (h : ∀ i, -B ≤ f.getD i 0 ∧ f.getD i 0 ≤ B) (h0 : -1 ≤ x) (h1 : x ≤ 1) : ∀ j : Nat, -(B * (j : Int)) ≤ evalD f x j ∧ evalD f x j ≤ B * (j : Int)
  | 0 => by simp [evalD]
  | j + 1 => by
    obtain ⟨a, b⟩ := evalD_flatB h h0 h1 j
    obtain ⟨c, d⟩ := h (f.length - 1 - j)
    unfold evalD
    generalize evalD f x j = e at *
    generalize f.getD (f.length - 1 - j) 0 = y at *
    rw [show B * ((j + 1 : Nat) : Int) = B * (j : Int) + B by rw [Int.natCast_succ, Int.mul_add, Int.mul_one]]
    generalize B * (j : Int) = t at *
    rcases (by omega : x = -1 ∨ x = 0 ∨ x = 1) with rfl | rfl | rfl <;> omega
theorem inB_out {n lo hi : Int} (h : n < lo ∨ hi < n) : inB n lo hi = false := inB_f (by omega)
/-- the early end of an evaluation -/
theorem eval_stop6 {l : List Int} {x : Int} (h : polyB l = true) (hr : inB x (-1000) 1000 = true) {j : Nat} (hj : j ≤ 9) (hf : evalD (padL l) x j < -1000000000000 ∨ 1000000000000 < evalD (padL l) x j) :
    valueQ l x = 0 ∧ valueC l x = 3 := by
  have hb := pad_bd h
  have e9 := evalL_pad (polyB_of h).1 x
  have hin : inB (evalL l x) (-1000000000000) 1000000000000 = false := by
    by_cases hx : -1 ≤ x ∧ x ≤ 1
    · have := evalD_flat hb hx.1 hx.2 j
      exact absurd hf (by omega)
    · have := evalD_out (fun i => by have := hb i; omega) (j := j) (by omega) hf (9 - j)
      rw [show j + (9 - j) = 9 by omega, e9] at this
      exact inB_out this
  have e : valueC l x = 3 := by simp [valueC, h, hr, hin]
  exact ⟨by simp [valueQ, e], e⟩
theorem eval_done6 {l : List Int} {x : Int} (h : polyB l = true) (hr : inB x (-1000) 1000 = true) (h0 : -1000000000000 ≤ evalD (padL l) x 9) (h1 : evalD (padL l) x 9 ≤ 1000000000000) :
    valueQ l x = evalD (padL l) x 9 ∧ valueC l x = 0 := by
  rw [evalL_pad (polyB_of h).1] at *
  have e : valueC l x = 0 := by simp [valueC, h, hr, inB_t h0 h1]
  exact ⟨by simp [valueQ, e], e⟩
/-- bounds of a shift by -1, 0 or 1 -/
def dB : Nat → Int
  | 0 => 1000000
  | k + 1 => ((9 - k : Nat) : Int) * dB k
theorem dB_le : ∀ k, k ≤ 9 → 0 ≤ dB k ∧ dB k ≤ 362880000000 := by decide
theorem shiftP_flat {f : List Int} {a : Int} (h9 : f.length = 9) (hb : ∀ i, -1000000 ≤ f.getD i 0 ∧ f.getD i 0 ≤ 1000000) (h0 : -1 ≤ a) (h1 : a ≤ 1) :
    ∀ k, k ≤ 8 → ∀ i, -dB k ≤ (shiftP f a k).getD i 0 ∧ (shiftP f a k).getD i 0 ≤ dB k
  | 0, _, i => hb i
  | k + 1, hk, i => by
    have ih := shiftP_flat h9 hb h0 h1 k (by omega)
    have hd := dB_le k (by omega)
    have hm : dB k ≤ dB (k + 1) := by
      show dB k ≤ ((9 - k : Nat) : Int) * dB k
      have := Int.mul_le_mul_of_nonneg_right (show (1 : Int) ≤ ((9 - k : Nat) : Int) by omega) hd.1
      omega
    show -_ ≤ (tabL _ _).getD i 0 ∧ _
    by_cases hi : i < f.length
    · rw [show shiftP f a (k + 1) = tabL f.length fun i => if i < k then (shiftP f a k).getD i 0 else evalD (shiftP f a k) a (f.length - i) from rfl, tabL_getD hi]
      by_cases hik : i < k
      · rw [if_pos hik]; have := ih i; omega
      · rw [if_neg hik]
        have hf := evalD_flatB ih h0 h1 (f.length - i)
        have hm2 : dB k * ((f.length - i : Nat) : Int) ≤ dB (k + 1) := by
          show _ ≤ ((9 - k : Nat) : Int) * dB k
          rw [Int.mul_comm]
          exact Int.mul_le_mul_of_nonneg_right (by omega) hd.1
        omega
    · have e : (shiftP f a (k + 1)).getD i 0 = 0 := getD_out (by rw [shiftP_length]; omega)
      have := (dB_le (k + 1) (by omega)).1
      rw [e]
      have e2 : (tabL f.length fun i => if i < k then (shiftP f a k).getD i 0 else evalD (shiftP f a k) a (f.length - i)).getD i 0 = 0 := e
      rw [e2]
      omega
/-- the early end of a shift -/
theorem shift_stop6 {f : List Int} {a : Int} {k i : Nat} (h9 : f.length = 9) (hb : ∀ i, -1000000 ≤ f.getD i 0 ∧ f.getD i 0 ≤ 1000000) (hv : ∀ i, -1000000000000 ≤ (shiftP f a k).getD i 0 ∧ (shiftP f a k).getD i 0 ≤ 1000000000000)
    (hk8 : k ≤ 8) (hk : k ≤ i) (hi : i < 9) (hf : evalD (shiftP f a k) a (9 - i) < -1000000000000 ∨ 1000000000000 < evalD (shiftP f a k) a (9 - i)) :
    resL (shiftL f a) = [] ∧ resC (shiftL f a) = 3 := by
  have hbad : (shiftL f a).getD k 0 < -1000000000000 ∨ 1000000000000 < (shiftL f a).getD k 0 := by
    by_cases ha : -1 ≤ a ∧ a ≤ 1
    · exfalso
      have hfl := evalD_flatB (shiftP_flat h9 hb ha.1 ha.2 k hk8) ha.1 ha.2 (9 - i)
      have hd := dB_le k (by omega)
      have hd1 := dB_le (k + 1) (by omega)
      have hm2 : dB k * ((9 - i : Nat) : Int) ≤ dB (k + 1) := by
        show _ ≤ ((9 - k : Nat) : Int) * dB k
        rw [Int.mul_comm]
        exact Int.mul_le_mul_of_nonneg_right (by omega) hd.1
      omega
    · have := evalD_out hv (j := 9 - i) (by omega) hf (i - k)
      rw [show 9 - i + (i - k) = 9 - k by omega] at this
      rw [← shiftP_final f a (i := k) (k := k + 1) (by omega) (by omega)]
      rw [show shiftP f a (k + 1) = tabL f.length fun i => if i < k then (shiftP f a k).getD i 0 else evalD (shiftP f a k) a (f.length - i) from rfl, tabL_getD (by omega), if_neg (by omega), h9]
      exact this
  cases hr : polyB (trimL (shiftL f a))
  · simp [resC, resL, hr]
  · exfalso
    have := (polyB_of hr).2.1 k
    rw [trimL_getD] at this
    omega
theorem shift_pad {l : List Int} (a : Int) (h : l.length ≤ 9) : trimL (shiftL (padL l) a) = trimL (shiftL l a) :=
  pval_ext (trimL_last _) (trimL_last _) fun x => by rw [pval_trim, pval_trim, pval_shift, pval_shift, pval_pad h]
theorem shift_eight {f : List Int} (a : Int) (h : f.length = 9) : shiftP f a 8 = shiftL f a := by
  unfold shiftL
  rw [h, ← shV_zero, shV_end (by omega)]
/-- products -/
theorem mulP_zero {f g : List Int} {n : Nat} : ∀ k, (∀ i, i < k → i ≤ n → f.getD i 0 * g.getD (n - i) 0 = 0) → mulP f g n k = 0
  | 0, _ => rfl
  | k + 1, h => by
    show mulP f g n k + (if k ≤ n then f.getD k 0 * g.getD (n - k) 0 else 0) = 0
    rw [mulP_zero k fun i hi => h i (by omega)]
    by_cases hk : k ≤ n
    · rw [if_pos hk, h k (by omega) hk]; rfl
    · rw [if_neg hk]; rfl
theorem mul_long {f g : List Int} (hf : polyB f = true) (hg : polyB g = true) (h : 10 < f.length + g.length) : resL (mulL f g) = [] ∧ resC (mulL f g) = 3 := by
  obtain ⟨f9, _, fl⟩ := polyB_of hf
  obtain ⟨g9, _, gl⟩ := polyB_of hg
  have fl := fl.resolve_left (by omega)
  have gl := gl.resolve_left (by omega)
  have hlen : (mulL f g).length = f.length + g.length - 1 := by unfold mulL; rw [if_neg (by omega), tabL_length]
  have hlast : (mulL f g).getD (f.length + g.length - 2) 0 = f.getD (f.length - 1) 0 * g.getD (g.length - 1) 0 := by
    unfold mulL
    rw [if_neg (by omega), tabL_getD (by omega)]
    obtain ⟨n, hn⟩ : ∃ n, f.length = n + 1 := ⟨f.length - 1, by omega⟩
    rw [hn]
    show mulP f g _ n + (if n ≤ n + 1 + g.length - 2 then f.getD n 0 * g.getD (n + 1 + g.length - 2 - n) 0 else 0) = _
    rw [mulP_zero n fun i hi _ => by rw [getD_out (l := g) (by omega), Int.mul_zero], if_pos (by omega), Int.zero_add]
    rw [show n + 1 + g.length - 2 - n = g.length - 1 by omega, show n + 1 - 1 = n by omega]
  have hne : (mulL f g).getD (f.length + g.length - 2) 0 ≠ 0 := by rw [hlast]; exact Int.mul_ne_zero fl gl
  have ht : trimL (mulL f g) = mulL f g := by
    refine trimL_self ?_
    unfold lastB
    rw [hlen, show f.length + g.length - 1 - 1 = f.length + g.length - 2 by omega]
    simp only [Bool.or_eq_true, Bool.not_eq_true', beq_eq_false_iff_ne]
    exact .inr hne
  have hp : polyB (trimL (mulL f g)) = false := by
    rw [ht]
    unfold polyB
    rw [decide_eq_false (by omega), Bool.false_and, Bool.and_false]
  simp [resL, resC, hp]
theorem mul_pad {f g : List Int} (h : f.length + g.length ≤ 10) : trimL (tabL 9 fun n => mulP f g n f.length) = trimL (mulL f g) := by
  refine trim_same fun j => ?_
  unfold mulL
  by_cases h0 : f.length = 0 ∨ g.length = 0
  · rw [if_pos h0]
    have hz : ∀ n, mulP f g n f.length = 0 := fun n => mulP_zero _ fun i hi _ => by
      rcases h0 with h0 | h0
      · omega
      · rw [getD_out (l := g) (by omega), Int.mul_zero]
    by_cases hj : j < 9
    · rw [tabL_getD hj, hz]; simp
    · rw [tabL_out (by omega)]; simp
  · rw [if_neg h0]
    by_cases hj : j < f.length + g.length - 1
    · rw [tabL_getD (by omega), tabL_getD hj]
    · rw [tabL_out (n := f.length + g.length - 1) (by omega)]
      by_cases hj9 : j < 9
      · rw [tabL_getD hj9]
        exact mulP_zero _ fun i hi _ => by rw [getD_out (l := g) (by omega), Int.mul_zero]
      · exact tabL_out (by omega)
/-- sums -/
theorem add_pad {f g : List Int} (hf : f.length ≤ 9) (hg : g.length ≤ 9) : trimL (tabL 9 fun i => f.getD i 0 + g.getD i 0) = trimL (addL f g 1) := by
  refine trim_same fun j => ?_
  unfold addL
  by_cases hj9 : j < 9
  · rw [tabL_getD hj9]
    by_cases hj : j < max f.length g.length
    · rw [tabL_getD hj, Int.one_mul]
    · rw [tabL_out (by omega), getD_out (l := f) (by omega), getD_out (l := g) (by omega)]; rfl
  · rw [tabL_out (by omega), tabL_out (by omega)]
/-- derivatives -/
theorem der_pad {f : List Int} (hf : f.length ≤ 9) : trimL (tabL 9 fun j => if j + 1 < f.length then ((j : Int) + 1) * f.getD (j + 1) 0 else 0) = trimL (derL f) := by
  refine trim_same fun j => ?_
  unfold derL
  by_cases hj : j < f.length - 1
  · rw [tabL_getD (by omega), tabL_getD hj, if_pos (by omega)]
  · rw [tabL_out (n := f.length - 1) (by omega)]
    by_cases hj9 : j < 9
    · rw [tabL_getD hj9, if_neg (by omega)]
    · exact tabL_out (by omega)
/-- a list turned round -/
theorem rev_pad {f : List Int} (hf : f.length ≤ 9) : trimL (tabL 9 fun j => if j < f.length then f.getD (f.length - 1 - j) 0 else 0) = trimL (revL f) := by
  refine trim_same fun j => ?_
  unfold revL
  by_cases hj : j < f.length
  · rw [tabL_getD (by omega), tabL_getD hj, if_pos hj]
  · rw [tabL_out (n := f.length) (by omega)]
    by_cases hj9 : j < 9
    · rw [tabL_getD hj9, if_neg hj]
    · exact tabL_out (by omega)
theorem rev_valid {f : List Int} (hf : polyB f = true) : resL (revL f) = trimL (revL f) ∧ resC (revL f) = 0 := by
  obtain ⟨f9, fb, _⟩ := polyB_of hf
  have hp : polyB (trimL (revL f)) = true := by
    refine polyB_mk ?_ ?_ (trimL_last _)
    · rw [trimL_length]; have := trimN_le (revL f) (revL f).length; rw [revL_length] at this; rw [revL_length]; omega
    · intro i _
      rw [trimL_getD]
      unfold revL
      by_cases hi : i < f.length
      · rw [tabL_getD hi]; exact fb _
      · rw [tabL_out (by omega)]; omega
  simp [resL, resC, hp]
end Go.Proofs.Ytbjkcoajabcibaa
