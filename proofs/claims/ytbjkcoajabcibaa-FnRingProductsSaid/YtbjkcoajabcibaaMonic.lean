/- Plain mathematics of chapter 7: division by a monic polynomial. -/
import Derived.Test.YtbjkcoajabcibaaPolyEval
import Derived.Test.YtbjkcoajabcibaaSylMath
namespace Go.Proofs.Ytbjkcoajabcibaa
set_option linter.unusedVariables false
set_option linter.unusedSimpArgs false
theorem pv_sumZ (c : Nat → Int) (x : Int) : ∀ n, pv c x n = sumZ n fun i => c i * x ^ i
  | 0 => rfl
  | n + 1 => by show pv c x n + _ = sumZ n _ + _; rw [pv_sumZ c x n]
/-- c times g, moved up by i, taken away -/
def subG (r : Nat → Int) (g : List Int) (c : Int) (i : Nat) : Nat → Int := fun j => r j - (if i ≤ j then c * g.getD (j - i) 0 else 0)
theorem pv_subG (r : Nat → Int) (g : List Int) (c x : Int) {i N : Nat} (h : i + g.length ≤ N) : pv (subG r g c i) x N = pv r x N - c * x ^ i * pval g x := by
  have h1 := pv_add r (fun j => if i ≤ j then c * g.getD (j - i) 0 else 0) (-1) x N
  have e : (fun j => r j + -1 * (if i ≤ j then c * g.getD (j - i) 0 else 0)) = subG r g c i := by
    funext j; unfold subG; omega
  rw [e] at h1
  rw [h1]
  have h2 := pv_up g c x i (N - i)
  rw [show i + (N - i) = N by omega, ← pval_upto g x (show g.length ≤ N - i by omega)] at h2
  rw [h2]; omega
/-- what is left after k steps of the division, N the length -/
def divS (g : List Int) (r0 : Nat → Int) (N : Nat) : Nat → Nat → Int
  | 0 => r0
  | k + 1 => subG (divS g r0 N k) g (divS g r0 N k (N - 1 - k)) (N - g.length - k)
/-- the coefficient that step k finds -/
def divC (g : List Int) (r0 : Nat → Int) (N k : Nat) : Int := divS g r0 N k (N - 1 - k)
theorem div_value (g : List Int) (r0 : Nat → Int) (N : Nat) (x : Int) : ∀ k, k + g.length ≤ N + 1 → pv r0 x N = pval g x * sumZ k (fun m => divC g r0 N m * x ^ (N - g.length - m)) + pv (divS g r0 N k) x N
  | 0, _ => by show _ = pval g x * 0 + pv r0 x N; rw [Int.mul_zero, Int.zero_add]
  | k + 1, h => by
    rw [div_value g r0 N x k (by omega)]
    show _ = pval g x * (sumZ k _ + divC g r0 N k * x ^ (N - g.length - k)) + pv (subG (divS g r0 N k) g (divC g r0 N k) (N - g.length - k)) x N
    rw [pv_subG _ g _ x (show N - g.length - k + g.length ≤ N by omega), Int.mul_add, Int.mul_comm (pval g x) (divC g r0 N k * _)]
    omega
theorem div_zero {g : List Int} {r0 : Nat → Int} {N : Nat} (hg : g.getD (g.length - 1) 0 = 1) (hl : 1 ≤ g.length) (h0 : ∀ j, N ≤ j → r0 j = 0) : ∀ k, k + g.length ≤ N + 1 → ∀ j, N - k ≤ j → divS g r0 N k j = 0
  | 0, _, j, hj => h0 j (by omega)
  | k + 1, h, j, hj => by
    show divS g r0 N k j - (if N - g.length - k ≤ j then divS g r0 N k (N - 1 - k) * g.getD (j - (N - g.length - k)) 0 else 0) = 0
    by_cases e : j = N - 1 - k
    · rw [if_pos (by omega), e, show N - 1 - k - (N - g.length - k) = g.length - 1 by omega, hg, Int.mul_one, Int.sub_self]
    · rw [div_zero hg hl h0 k (by omega) j (by omega), if_pos (by omega), getD_out (l := g) (by omega), Int.mul_zero]; rfl
/-- the quotient's coefficient at place i -/
def quoC (g : List Int) (r0 : Nat → Int) (N i : Nat) : Int := divC g r0 N (N - g.length - i)
theorem div_law (g : List Int) (r0 : Nat → Int) {N : Nat} (hN : g.length ≤ N) (x : Int) : pv r0 x N = pval g x * pv (quoC g r0 N) x (N - g.length + 1) + pv (divS g r0 N (N - g.length + 1)) x N := by
  rw [div_value g r0 N x (N - g.length + 1) (by omega), pv_sumZ (quoC g r0 N), sumZ_rev (N - g.length + 1) fun i => quoC g r0 N i * x ^ i]
  congr 2
  refine sumZ_congr fun m hm => ?_
  unfold quoC
  rw [show N - g.length - (N - g.length + 1 - 1 - m) = m by omega, show N - g.length + 1 - 1 - m = N - g.length - m by omega]
end Go.Proofs.Ytbjkcoajabcibaa
