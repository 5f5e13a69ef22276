/- Contracts of the walk: chapter 6 in spec: products of lists. -/
import Derived.Test.YtcennddgbpkclaaDoorPolySpec4
namespace Go.Proofs.YtcennddgbpkclaaDoor
open Go.RowKit
set_option linter.unusedVariables false
set_option linter.unusedSimpArgs false
/-- a coefficient of a product on the way: i rows and k entries of the next one -/
def mulW (f g : List Int) (i k n : Nat) : Int := mulP f g n i + (if i ≤ n ∧ n < i + k then f.getD i 0 * g.getD (n - i) 0 else 0)
theorem mulW_zero (f g : List Int) (i n : Nat) : mulW f g i 0 n = mulP f g n i := by
  unfold mulW; rw [if_neg (by omega), Int.add_zero]
theorem mulW_row {f g : List Int} {i k n : Nat} (h : g.length ≤ k) : mulW f g i k n = mulP f g n (i + 1) := by
  unfold mulW
  show _ = mulP f g n i + (if i ≤ n then f.getD i 0 * g.getD (n - i) 0 else 0)
  congr 1
  by_cases h1 : i ≤ n
  · rw [if_pos h1]
    by_cases h2 : n < i + k
    · rw [if_pos ⟨h1, h2⟩]
    · rw [if_neg (by omega), getD_out (l := g) (by omega), Int.mul_zero]
  · rw [if_neg h1, if_neg (by omega)]
theorem mulW_step {f g : List Int} {i k N m : Nat} {y : Int} (hm : m < N) (hik : i + k = m) (hy : mulP f g m i + f.getD i 0 * g.getD k 0 = y) :
    (tabL N (mulW f g i k)).set m y = tabL N (mulW f g i (k + 1)) := by
  rw [tab_set y hm]
  refine tabL_ext fun j hj => ?_
  by_cases e : j = m
  · rw [if_pos e, ← hy, e]; unfold mulW; rw [if_pos (by omega), show m - i = k by omega]
  · rw [if_neg e]; unfold mulW
    by_cases h2 : i ≤ j ∧ j < i + k
    · rw [if_pos h2, if_pos (by omega)]
    · rw [if_neg h2, if_neg (by omega)]
theorem mulW_at {f g : List Int} {i k m : Nat} (hik : i + k = m) : mulW f g i k m = mulP f g m i := by
  unfold mulW; rw [if_neg (by omega), Int.add_zero]
theorem mul_bd {x y : Int} (hx : -1000000 ≤ x ∧ x ≤ 1000000) (hy : -1000000 ≤ y ∧ y ≤ 1000000) : -1000000000000 ≤ x * y ∧ x * y ≤ 1000000000000 := by
  have p1 : x.natAbs * y.natAbs ≤ 1000000 * 1000000 := Nat.mul_le_mul (by omega) (by omega)
  rw [← Int.natAbs_mul] at p1; omega
theorem mulP_bd {f g : List Int} (hf : ∀ i, -1000000 ≤ f.getD i 0 ∧ f.getD i 0 ≤ 1000000) (hg : ∀ i, -1000000 ≤ g.getD i 0 ∧ g.getD i 0 ≤ 1000000) (n : Nat) : ∀ i : Nat, -(1000000000000 * (i : Int)) ≤ mulP f g n i ∧ mulP f g n i ≤ 1000000000000 * (i : Int)
  | 0 => by simp [mulP]
  | i + 1 => by
    obtain ⟨a, b⟩ := mulP_bd hf hg n i
    have hm := mul_bd (hf i) (hg (n - i))
    unfold mulP
    generalize f.getD i 0 * g.getD (n - i) 0 = t at *
    generalize mulP f g n i = s at *
    push_cast
    split <;> omega
set_option maxRecDepth 20000
theorem mulL_le (f g : List Int) : (mulL f g).length ≤ f.length + g.length := by
  unfold mulL; split
  · simp
  · rw [tabL_length]; omega
end Go.Proofs.YtcennddgbpkclaaDoor
