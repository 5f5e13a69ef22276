/- Plain mathematics of chapter 7: Sylvester's matrix: the two polynomials exchanged. Binomials. -/
import Derived.Test.YtbjkcoajabcibaaDetMod
namespace Go.Proofs.Ytbjkcoajabcibaa
set_option linter.unusedVariables false
set_option linter.unusedSimpArgs false
/-- the coefficients of a polynomial of degree n, highest first, from column k on -/
def rowS (f : Nat → Int) (n k c : Nat) : Int := if k ≤ c ∧ c ≤ k + n then f (n - (c - k)) else 0
def sylM (f g : Nat → Int) (n m : Nat) : Nat → Nat → Int := fun r c => if r < m then rowS f n r c else rowS g m (r - m) c
def resZ (f g : Nat → Int) (n m : Nat) : Int := detZ (n + m) (sylM f g n m)
theorem res_swap (f g : Nat → Int) (n m : Nat) : resZ g f m n = powS (n + m) n * resZ f g n m := by
  unfold resZ
  rw [← det_rot (N := n + m) (sylM f g n m) n (by omega), Nat.add_comm m n]
  refine det_congr fun r c hr hc => ?_
  show (if r < n then rowS g m r c else rowS f n (r - n) c) = if r < n then (if n + m - n + r < m then rowS f n (n + m - n + r) c else rowS g m (n + m - n + r - m) c) else (if r - n < m then rowS f n (r - n) c else rowS g m (r - n - m) c)
  by_cases h : r < n
  · rw [if_pos h, if_pos h, if_neg (by omega), show n + m - n + r - m = r by omega]
  · rw [if_neg h, if_neg h, if_pos (by omega)]
theorem pow_sgn : ∀ n, n < 6 → ∀ m, m < 6 → 1 ≤ n → 1 ≤ m → powS (n + m) n = sgnN (n * m) := by decide
def binZ : Nat → Nat → Int
  | _, 0 => 1
  | 0, _ + 1 => 0
  | a + 1, b + 1 => binZ a b + binZ a (b + 1)
theorem bin_out : ∀ {a b : Nat}, a < b → binZ a b = 0
  | _, 0, h => by omega
  | 0, b + 1, _ => by simp [binZ]
  | a + 1, b + 1, h => by simp only [binZ]; rw [bin_out (by omega), bin_out (by omega)]; rfl
theorem bin_zero (a : Nat) : binZ a 0 = 1 := by cases a <;> rfl
theorem bin_self : ∀ a, binZ a a = 1
  | 0 => rfl
  | a + 1 => by simp only [binZ]; rw [bin_self a, bin_out (by omega)]; rfl
theorem sumZ_first (n : Nat) (f : Nat → Int) : sumZ (n + 1) f = f 0 + sumZ n fun i => f (i + 1) := by
  induction n with
  | zero => simp [sumZ]
  | succ n ih =>
    show sumZ (n + 1) f + f (n + 1) = f 0 + (sumZ n (fun i => f (i + 1)) + f (n + 1))
    rw [ih]; omega
theorem sumZ_mul (x : Int) (n : Nat) (f : Nat → Int) : x * sumZ n f = sumZ n fun i => x * f i := by
  have := sumZ_lin x 0 n f (fun _ => 0)
  simp only [Int.zero_mul, Int.add_zero] at this
  exact this.symm
theorem sumZ_add (n : Nat) (f g : Nat → Int) : sumZ n f + sumZ n g = sumZ n fun i => f i + g i := by
  have := sumZ_lin 1 1 n f g
  simp only [Int.one_mul] at this
  exact this.symm
theorem sumZ_rev : ∀ (n : Nat) (f : Nat → Int), sumZ n f = sumZ n fun i => f (n - 1 - i)
  | 0, _ => rfl
  | n + 1, f => by
    show sumZ n f + f n = sumZ (n + 1) fun i => f (n + 1 - 1 - i)
    rw [sumZ_first, sumZ_rev n f, show n + 1 - 1 - 0 = n by omega, Int.add_comm]
    congr 1
    exact sumZ_congr fun i hi => by rw [show n - 1 - i = n + 1 - 1 - (i + 1) by omega]
theorem sumZ_more {n m : Nat} {f : Nat → Int} (h : ∀ i, n ≤ i → i < n + m → f i = 0) : sumZ (n + m) f = sumZ n f := by
  induction m with
  | zero => rfl
  | succ m ih =>
    show sumZ (n + m) f + f (n + m) = _
    rw [ih (fun i h1 h2 => h i h1 (by omega)), h (n + m) (by omega) (by omega), Int.add_zero]
/-- a window of a sum -/
theorem sumZ_from : ∀ (r n : Nat) (f : Nat → Int), sumZ (r + n) f = sumZ r f + sumZ n fun i => f (r + i)
  | r, 0, f => by show _ = _ + 0; rw [Int.add_zero]; rfl
  | r, n + 1, f => by
    show sumZ (r + n) f + f (r + n) = sumZ r f + (sumZ n (fun i => f (r + i)) + f (r + n))
    rw [sumZ_from r n f]; omega
theorem sumZ_comm : ∀ (n m : Nat) (f : Nat → Nat → Int), (sumZ n fun i => sumZ m fun j => f i j) = sumZ m fun j => sumZ n fun i => f i j
  | 0, m, f => (sumZ_zero (n := m) fun i _ => rfl).symm
  | n + 1, m, f => by
    show (sumZ n fun i => sumZ m fun j => f i j) + sumZ m (fun j => f n j) = sumZ m fun j => sumZ n (fun i => f i j) + f n j
    rw [sumZ_comm n m f, sumZ_add]
/-- the coefficients of (x + 1)^a P -/
def mulX : Nat → (Nat → Int) → Nat → Int
  | 0, P, e => P e
  | a + 1, P, e => mulX a P e + (if e = 0 then 0 else mulX a P (e - 1))
theorem bin_step (i e : Nat) : binZ (i + 1) e = binZ i e + (if e = 0 then 0 else binZ i (e - 1)) := by
  cases e with
  | zero => rw [bin_zero, bin_zero, if_pos rfl, Int.add_zero]
  | succ e => rw [if_neg (Nat.succ_ne_zero _)]; show binZ i e + binZ i (e + 1) = binZ i (e + 1) + binZ i e; omega
theorem mulX_bin (i : Nat) : ∀ a e, mulX a (binZ i) e = binZ (i + a) e
  | 0, e => rfl
  | a + 1, e => by
    show mulX a (binZ i) e + (if e = 0 then 0 else mulX a (binZ i) (e - 1)) = binZ (i + a + 1) e
    rw [mulX_bin i a, mulX_bin i a, bin_step]
theorem mulX_sum (n : Nat) (x : Nat → Int) (P : Nat → Nat → Int) : ∀ a e, mulX a (fun e => sumZ n fun i => x i * P i e) e = sumZ n fun i => x i * mulX a (P i) e
  | 0, e => rfl
  | a + 1, e => by
    show mulX a _ e + (if e = 0 then 0 else mulX a _ (e - 1)) = sumZ n fun i => x i * (mulX a (P i) e + (if e = 0 then 0 else mulX a (P i) (e - 1)))
    rw [mulX_sum n x P a, mulX_sum n x P a]
    by_cases h : e = 0
    · rw [if_pos h, Int.add_zero]
      exact sumZ_congr fun i hi => by rw [if_pos h, Int.add_zero]
    · rw [if_neg h, sumZ_add]
      exact sumZ_congr fun i hi => by rw [if_neg h, Int.mul_add]
def atX (P : Nat → Int) (b e : Nat) : Int := if b ≤ e then P (e - b) else 0
theorem mulX_rows (P : Nat → Int) : ∀ a e, mulX a P e = sumZ (a + 1) fun b => binZ a b * atX P b e
  | 0, e => by
    show P e = 0 + binZ 0 0 * atX P 0 e
    rw [bin_zero]
    unfold atX
    rw [if_pos (Nat.zero_le _), Int.one_mul, Int.zero_add, Nat.sub_zero]
  | a + 1, e => by
    show mulX a P e + (if e = 0 then 0 else mulX a P (e - 1)) = _
    have e1 : (if e = 0 then 0 else mulX a P (e - 1)) = sumZ (a + 1) fun b => binZ a b * atX P (b + 1) e := by
      by_cases h : e = 0
      · rw [if_pos h]
        exact (sumZ_zero fun b hb => by unfold atX; rw [if_neg (by omega), Int.mul_zero]).symm
      · rw [if_neg h, mulX_rows P a]
        refine sumZ_congr fun b hb => ?_
        have : atX P b (e - 1) = atX P (b + 1) e := by
          unfold atX
          by_cases h2 : b ≤ e - 1
          · rw [if_pos h2, if_pos (by omega), show e - 1 - b = e - (b + 1) by omega]
          · rw [if_neg h2, if_neg (by omega)]
        rw [this]
    have e2 : mulX a P e = binZ (a + 1) 0 * atX P 0 e + sumZ (a + 1) fun b => binZ a (b + 1) * atX P (b + 1) e := by
      have h3 : (sumZ (a + 1) fun b => binZ a (b + 1) * atX P (b + 1) e) = sumZ a fun b => binZ a (b + 1) * atX P (b + 1) e := by
        show sumZ a _ + binZ a (a + 1) * atX P (a + 1) e = _
        rw [bin_out (by omega), Int.zero_mul, Int.add_zero]
      rw [h3, mulX_rows P a, sumZ_first, bin_zero, bin_zero]
    rw [e1, e2, sumZ_first (a + 1) (fun b => binZ (a + 1) b * atX P b e), Int.add_assoc, sumZ_add]
    congr 1
    refine sumZ_congr fun b hb => ?_
    show _ = (binZ a b + binZ a (b + 1)) * atX P (b + 1) e
    rw [Int.add_mul]; omega
end Go.Proofs.Ytbjkcoajabcibaa
