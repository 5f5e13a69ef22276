/- Plain mathematics of chapter 6: valid lists of coefficients, lists without zeros at their end, sums, products, derivatives. -/
import Derived.Test.YtbjkcoajabcibaaMath
namespace Go.Proofs.Ytbjkcoajabcibaa
set_option linter.unusedVariables false
set_option maxRecDepth 20000
def cofB (x : Int) : Bool := inB x (-1000000) 1000000
def lastB (l : List Int) : Bool := decide (l.length = 0) || !(l.getD (l.length - 1) 0 == 0)
/-- a valid polynomial -/
def polyB (l : List Int) : Bool := l.all cofB && (decide (l.length ≤ 9) && lastB l)
theorem polyB_of {l : List Int} (h : polyB l = true) : l.length ≤ 9 ∧ (∀ i, -1000000 ≤ l.getD i 0 ∧ l.getD i 0 ≤ 1000000) ∧ (l.length = 0 ∨ l.getD (l.length - 1) 0 ≠ 0) := by
  simp only [polyB, lastB, Bool.and_eq_true, Bool.or_eq_true, decide_eq_true_eq, List.all_eq_true] at h
  obtain ⟨h1, h2, h3⟩ := h
  refine ⟨h2, fun i => ?_, ?_⟩
  · by_cases hi : i < l.length
    · have := h1 (l.getD i 0) (by simp [List.getD, hi])
      simpa [cofB, inB] using this
    · have e : l.getD i 0 = 0 := by simp [List.getD, hi]
      rw [e]; omega
  · rcases h3 with h3 | h3
    · exact .inl h3
    · exact .inr (by simpa using h3)
/-- how many coefficients are left without zeros at the end -/
def trimN (l : List Int) : Nat → Nat
  | 0 => 0
  | n + 1 => if l.getD n 0 = 0 then trimN l n else n + 1
theorem trimN_le (l : List Int) : ∀ n, trimN l n ≤ n
  | 0 => Nat.le_refl _
  | n + 1 => by
    unfold trimN; split
    · exact Nat.le_succ_of_le (trimN_le l n)
    · exact Nat.le_refl _
theorem trimN_zero {l : List Int} {n : Nat} (h : l.getD n 0 = 0) : trimN l (n + 1) = trimN l n := by rw [trimN, if_pos h]
theorem trimN_stay {l : List Int} {n : Nat} (h : l.getD n 0 ≠ 0) : trimN l (n + 1) = n + 1 := by rw [trimN, if_neg h]
theorem trimN_last (l : List Int) : ∀ n, 0 < trimN l n → l.getD (trimN l n - 1) 0 ≠ 0
  | 0, h => absurd h (Nat.lt_irrefl _)
  | n + 1, h => by
    by_cases h0 : l.getD n 0 = 0
    · rw [trimN_zero h0] at h ⊢; exact trimN_last l n h
    · rw [trimN_stay h0]; exact h0
theorem trimN_rest (l : List Int) : ∀ n i, trimN l n ≤ i → i < n → l.getD i 0 = 0
  | 0, i, _, h => absurd h (Nat.not_lt_zero _)
  | n + 1, i, h1, h2 => by
    by_cases h0 : l.getD n 0 = 0
    · rw [trimN_zero h0] at h1
      by_cases hi : i = n
      · rw [hi]; exact h0
      · exact trimN_rest l n i h1 (by omega)
    · rw [trimN_stay h0] at h1; omega
def trimL (l : List Int) : List Int := l.take (trimN l l.length)
theorem trimL_length (l : List Int) : (trimL l).length = trimN l l.length := by
  have := trimN_le l l.length
  simp [trimL]; omega
theorem take_getD (l : List Int) {n i : Nat} (h : i < n) : (l.take n).getD i 0 = l.getD i 0 := by
  simp [List.getD, h]
theorem trimL_getD (l : List Int) (i : Nat) : (trimL l).getD i 0 = l.getD i 0 := by
  by_cases h : i < trimN l l.length
  · exact take_getD l h
  · have e : (trimL l).getD i 0 = 0 := by
      have := trimL_length l
      simp [List.getD, show ¬ i < (trimL l).length by omega]
    rw [e]
    by_cases h2 : i < l.length
    · exact (trimN_rest l l.length i (by omega) h2).symm
    · simp [List.getD, h2]
theorem trimL_last (l : List Int) : lastB (trimL l) = true := by
  unfold lastB
  by_cases h : (trimL l).length = 0
  · simp [h]
  · have := trimN_last l l.length (by rw [trimL_length] at h; omega)
    rw [trimL_getD, trimL_length, beq_eq_false_iff_ne.2 this]
    simp
theorem ext_getD {l m : List Int} (hl : l.length = m.length) (h : ∀ i, i < l.length → l.getD i 0 = m.getD i 0) : l = m := by
  refine List.ext_getElem hl fun i h1 h2 => ?_
  have := h i h1
  simpa [List.getD, h1, h2] using this
/-- two lists without zeros at the end with the same coefficients are one -/
theorem last_unique {l m : List Int} (h1 : lastB l = true) (h2 : lastB m = true) (h : ∀ i, l.getD i 0 = m.getD i 0) : l = m := by
  have key : ∀ {a b : List Int}, lastB b = true → (∀ i, a.getD i 0 = b.getD i 0) → b.length ≤ a.length := by
    intro a b hb hab
    by_cases hle : b.length ≤ a.length
    · exact hle
    · simp only [lastB, Bool.or_eq_true, decide_eq_true_eq] at hb
      rcases hb with hb | hb
      · omega
      · have e := hab (b.length - 1)
        have e0 : a.getD (b.length - 1) 0 = 0 := by simp [List.getD, show ¬ b.length - 1 < a.length by omega]
        rw [e0] at e
        rw [← e] at hb
        simp at hb
  exact ext_getD (Nat.le_antisymm (key h1 fun i => (h i).symm) (key h2 h)) fun i _ => h i
theorem trimL_self {l : List Int} (h : lastB l = true) : trimL l = l := last_unique (trimL_last l) h (trimL_getD l)
/-- what a function answers: the list, or the code of a list that is not valid -/
def resL (l : List Int) : List Int := if polyB (trimL l) then trimL l else []
def resC (l : List Int) : Int := if polyB (trimL l) then 0 else 3
def tabL (n : Nat) (f : Nat → Int) : List Int := (List.range n).map f
theorem tabL_length (n : Nat) (f : Nat → Int) : (tabL n f).length = n := by simp [tabL]
theorem tabL_getD {n : Nat} {f : Nat → Int} {i : Nat} (h : i < n) : (tabL n f).getD i 0 = f i := by simp [tabL, List.getD, h]
theorem tabL_out {n : Nat} {f : Nat → Int} {i : Nat} (h : n ≤ i) : (tabL n f).getD i 0 = 0 := by simp [tabL, List.getD, show ¬ i < n by omega]
/-- f plus k times g -/
def addL (f g : List Int) (k : Int) : List Int := tabL (max f.length g.length) fun i => f.getD i 0 + k * g.getD i 0
/-- one coefficient of a product: the part with the first i coefficients of f -/
def mulP (f g : List Int) (n : Nat) : Nat → Int
  | 0 => 0
  | i + 1 => mulP f g n i + (if i ≤ n then f.getD i 0 * g.getD (n - i) 0 else 0)
def mulL (f g : List Int) : List Int := if f.length = 0 ∨ g.length = 0 then [] else tabL (f.length + g.length - 1) fun n => mulP f g n f.length
def derL (f : List Int) : List Int := tabL (f.length - 1) fun i => ((i : Int) + 1) * f.getD (i + 1) 0
def contN (f : List Int) : Nat → Int
  | 0 => 0
  | i + 1 => ((Int.gcd (contN f i) (f.getD i 0) : Nat) : Int)
def contL (f : List Int) : Int := contN f f.length
def evalD (f : List Int) (x : Int) : Nat → Int
  | 0 => 0
  | j + 1 => evalD f x j * x + f.getD (f.length - 1 - j) 0
def evalL (f : List Int) (x : Int) : Int := evalD f x f.length
theorem contN_div (f : List Int) : ∀ n i, i < n → contN f n ∣ f.getD i 0
  | 0, i, h => absurd h (Nat.not_lt_zero _)
  | n + 1, i, h => by
    have d1 : ((Int.gcd (contN f n) (f.getD n 0) : Nat) : Int) ∣ contN f n := Int.gcd_dvd_left ..
    have d2 : ((Int.gcd (contN f n) (f.getD n 0) : Nat) : Int) ∣ f.getD n 0 := Int.gcd_dvd_right ..
    by_cases hi : i = n
    · rw [hi]; exact d2
    · exact Int.dvd_trans d1 (contN_div f n i (by omega))
end Go.Proofs.Ytbjkcoajabcibaa
