/- Plain mathematics of chapter 6: values of polynomials: of sums, products, shifted ones; a polynomial is known by its value at one great number. -/
import Derived.Test.YtbjkcoajabcibaaPolyMath
namespace Go.Proofs.Ytbjkcoajabcibaa
set_option linter.unusedVariables false
set_option maxRecDepth 20000
/-- the value of the first n coefficients -/
def pv (c : Nat → Int) (x : Int) : Nat → Int
  | 0 => 0
  | n + 1 => pv c x n + c n * x ^ n
theorem pv_congr {c d : Nat → Int} {x : Int} : ∀ {n : Nat}, (∀ i, i < n → c i = d i) → pv c x n = pv d x n
  | 0, _ => rfl
  | n + 1, h => by unfold pv; rw [pv_congr (fun i hi => h i (by omega)), h n (by omega)]
theorem pv_add (c d : Nat → Int) (k x : Int) : ∀ n, pv (fun i => c i + k * d i) x n = pv c x n + k * pv d x n
  | 0 => by simp [pv]
  | n + 1 => by
    unfold pv; rw [pv_add c d k x n]
    simp only [Int.add_mul, Int.mul_add, Int.mul_assoc]; omega
theorem pv_more {c : Nat → Int} (x : Int) {n : Nat} : ∀ k, (∀ i, n ≤ i → c i = 0) → pv c x (n + k) = pv c x n
  | 0, _ => rfl
  | k + 1, h => by
    show pv c x (n + k) + c (n + k) * x ^ (n + k) = _
    rw [pv_more x k h, h (n + k) (by omega)]; simp
theorem pv_shift (c : Nat → Int) (x : Int) : ∀ n, pv c x (n + 1) = c 0 + x * pv (fun i => c (i + 1)) x n
  | 0 => by simp [pv]
  | n + 1 => by
    rw [show pv c x (n + 1 + 1) = pv c x (n + 1) + c (n + 1) * x ^ (n + 1) from rfl, pv_shift c x n]
    rw [show pv (fun i => c (i + 1)) x (n + 1) = pv (fun i => c (i + 1)) x n + c (n + 1) * x ^ n from rfl, Int.pow_succ, Int.mul_add]
    have : c (n + 1) * (x ^ n * x) = x * (c (n + 1) * x ^ n) := by rw [← Int.mul_assoc, Int.mul_comm]
    omega
/-- the value of a list -/
def pval (l : List Int) (x : Int) : Int := pv (fun i => l.getD i 0) x l.length
theorem getD_out {l : List Int} {i : Nat} (h : l.length ≤ i) : l.getD i 0 = 0 := by simp [List.getD, show ¬ i < l.length by omega]
theorem pval_upto (l : List Int) (x : Int) {n : Nat} (h : l.length ≤ n) : pval l x = pv (fun i => l.getD i 0) x n := by
  have := pv_more (c := fun i => l.getD i 0) x (n := l.length) (n - l.length) (fun i hi => getD_out hi)
  rw [show l.length + (n - l.length) = n by omega] at this
  exact this.symm
theorem pval_same {l m : List Int} (x : Int) (h : ∀ i, l.getD i 0 = m.getD i 0) : pval l x = pval m x := by
  rw [pval_upto l x (Nat.le_max_left l.length m.length), pval_upto m x (Nat.le_max_right l.length m.length)]
  exact pv_congr fun i _ => h i
theorem pval_trim (l : List Int) (x : Int) : pval (trimL l) x = pval l x := pval_same x (trimL_getD l)
theorem pval_tab (n : Nat) (f : Nat → Int) (x : Int) : pval (tabL n f) x = pv f x n := by
  unfold pval; rw [tabL_length]; exact pv_congr fun i hi => tabL_getD hi
theorem pval_add (f g : List Int) (k x : Int) : pval (addL f g k) x = pval f x + k * pval g x := by
  unfold addL; rw [pval_tab, pv_add, ← pval_upto f x (Nat.le_max_left ..), ← pval_upto g x (Nat.le_max_right ..)]
/-- a coefficient times a power: the other list moved up -/
theorem pv_up (g : List Int) (a x : Int) (i : Nat) : ∀ n, pv (fun m => if i ≤ m then a * g.getD (m - i) 0 else 0) x (i + n) = a * x ^ i * pv (fun m => g.getD m 0) x n
  | 0 => by
    show pv _ x i = _
    have h0 : pv (fun m => if i ≤ m then a * g.getD (m - i) 0 else 0) x i = pv (fun _ => 0) x i := pv_congr fun m hm => if_neg (by omega)
    have hz : ∀ n, pv (fun _ => (0 : Int)) x n = 0 := by
      intro n; induction n with
      | zero => rfl
      | succ n ih => unfold pv; rw [ih]; simp
    rw [h0, hz]; simp [pv]
  | n + 1 => by
    show pv _ x (i + n) + (if i ≤ i + n then a * g.getD (i + n - i) 0 else 0) * x ^ (i + n) = _
    rw [pv_up g a x i n, if_pos (by omega), show i + n - i = n by omega]
    rw [show pv (fun m => g.getD m 0) x (n + 1) = pv (fun m => g.getD m 0) x n + g.getD n 0 * x ^ n from rfl, Int.mul_add, Int.pow_add]
    congr 1
    rw [Int.mul_assoc, Int.mul_assoc, ← Int.mul_assoc (x ^ i), ← Int.mul_assoc (g.getD n 0), Int.mul_comm (g.getD n 0)]
theorem pv_mulP (f g : List Int) (x : Int) (N : Nat) : ∀ i, i + g.length ≤ N + 1 → pv (fun n => mulP f g n i) x N = pv (fun m => f.getD m 0) x i * pval g x
  | 0, _ => by
    have hz : ∀ n, pv (fun _ => (0 : Int)) x n = 0 := by
      intro n; induction n with
      | zero => rfl
      | succ n ih => unfold pv; rw [ih]; simp
    show pv (fun _ => 0) x N = 0 * _
    rw [hz]; simp
  | i + 1, h => by
    have e : pv (fun n => mulP f g n (i + 1)) x N = pv (fun n => mulP f g n i + 1 * (if i ≤ n then f.getD i 0 * g.getD (n - i) 0 else 0)) x N :=
      pv_congr fun n _ => by show _ + _ = _; rw [Int.one_mul]
    rw [e, pv_add, pv_mulP f g x N i (by omega), Int.one_mul]
    have hN : N = i + (N - i) := by omega
    have hu := pv_up g (f.getD i 0) x i (N - i)
    rw [← hN] at hu
    rw [hu, ← pval_upto g x (by omega)]
    show _ = (pv _ x i + f.getD i 0 * x ^ i) * _
    rw [Int.add_mul]
theorem pval_mul (f g : List Int) (x : Int) : pval (mulL f g) x = pval f x * pval g x := by
  unfold mulL
  split
  · rename_i h
    rcases h with h | h <;> simp [pval, pv, h]
  · rename_i h
    rw [pval_tab, pv_mulP f g x _ _ (by omega)]; rfl
/-- Horner's way -/
theorem evalD_pv (f : List Int) (x : Int) : ∀ j, j ≤ f.length → evalD f x j = pv (fun i => f.getD (f.length - j + i) 0) x j
  | 0, _ => rfl
  | j + 1, h => by
    rw [pv_shift, evalD, evalD_pv f x j (by omega), Int.add_comm, Int.mul_comm]
    congr 1
    · congr 1; omega
    · congr 1
      exact pv_congr fun i _ => by congr 1; omega
theorem evalL_pval (f : List Int) (x : Int) : evalL f x = pval f x := by
  unfold evalL pval
  rw [evalD_pv f x _ (Nat.le_refl _)]
  exact pv_congr fun i _ => by congr 1; omega
/-- one great number tells all coefficients -/
theorem pv_zero {x : Int} : ∀ {n : Nat} {c : Nat → Int}, (∀ i, i < n → -x < c i ∧ c i < x) → pv c x n = 0 → ∀ i, i < n → c i = 0
  | 0, _, _, _, i, hi => absurd hi (Nat.not_lt_zero _)
  | n + 1, c, h, hz, i, hi => by
    rw [pv_shift] at hz
    obtain ⟨b1, b2⟩ := h 0 (by omega)
    have hx : 0 < x := by omega
    have hd : x ∣ c 0 := ⟨-pv (fun i => c (i + 1)) x n, by rw [Int.mul_neg]; omega⟩
    have h0 : c 0 = 0 := by
      obtain ⟨k, hk⟩ := hd
      have k0 : k = 0 := by
        by_cases hk1 : 1 ≤ k
        · have := Int.mul_le_mul_of_nonneg_left hk1 (by omega : 0 ≤ x); omega
        · by_cases hk2 : k ≤ -1
          · have := Int.mul_le_mul_of_nonneg_left hk2 (by omega : 0 ≤ x); omega
          · omega
      rw [hk, k0, Int.mul_zero]
    have hr : pv (fun i => c (i + 1)) x n = 0 := by
      rw [h0, Int.zero_add] at hz
      rcases Int.mul_eq_zero.1 hz with h | h
      · omega
      · exact h
    by_cases h1 : i = 0
    · rw [h1]; exact h0
    · have := pv_zero (c := fun i => c (i + 1)) (fun j hj => h (j + 1) (by omega)) hr (i - 1) (by omega)
      rwa [show i - 1 + 1 = i by omega] at this
theorem pval_unique {l m : List Int} {B x : Int} (h1 : lastB l = true) (h2 : lastB m = true) (b1 : ∀ i, -B ≤ l.getD i 0 ∧ l.getD i 0 ≤ B) (b2 : ∀ i, -B ≤ m.getD i 0 ∧ m.getD i 0 ≤ B)
    (hx : 2 * B < x) (h : pval l x = pval m x) : l = m := by
  refine last_unique h1 h2 fun i => ?_
  have hn := Nat.lt_succ_self (max i (max l.length m.length))
  have e : pv (fun i => l.getD i 0 + -1 * m.getD i 0) x (max i (max l.length m.length) + 1) = 0 := by
    rw [pv_add, ← pval_upto l x (by omega), ← pval_upto m x (by omega), h]; omega
  have := pv_zero (fun j _ => by have := b1 j; have := b2 j; constructor <;> omega) e i (by omega)
  omega
end Go.Proofs.Ytbjkcoajabcibaa
