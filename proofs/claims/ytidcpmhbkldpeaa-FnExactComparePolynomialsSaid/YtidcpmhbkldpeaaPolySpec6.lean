/- Contracts of the walk: chapter 6 in spec: shifted polynomials. -/
import Derived.Test.YtidcpmhbkldpeaaPolySpec5
import Derived.Test.YtidcpmhbkldpeaaPolyFar
namespace Go.Proofs.Ytidcpmhbkldpeaa
open Go.RowKit
set_option linter.unusedVariables false
set_option linter.unusedSimpArgs false
/-- the list within pass k, behind q steps -/
def shV (f : List Int) (a : Int) (k q : Nat) : List Int := tabL f.length fun j => if f.length - 1 - q ≤ j ∧ k ≤ j then evalD (shiftP f a k) a (f.length - j) else (shiftP f a k).getD j 0
theorem shV_length (f : List Int) (a : Int) (k q : Nat) : (shV f a k q).length = f.length := tabL_length _ _
theorem shV_zero (f : List Int) (a : Int) (k : Nat) : shV f a k 0 = shiftP f a k := by
  refine ext_getD (by rw [shV_length, shiftP_length]) fun j hj => ?_
  rw [shV_length] at hj
  rw [shV, tabL_getD hj]
  split
  · rw [show f.length - j = 0 + 1 by omega, evalD, show evalD (shiftP f a k) a 0 = 0 from rfl, Int.zero_mul, Int.zero_add, shiftP_length, show f.length - 1 - 0 = j by omega]
  · rfl
theorem shV_end {f : List Int} {a : Int} {k q : Nat} (h : f.length - 1 - k ≤ q) : shV f a k q = shiftP f a (k + 1) := by
  show tabL _ _ = tabL _ _
  refine tabL_ext fun j hj => ?_
  by_cases hk : j < k
  · rw [if_neg (by omega), if_pos hk]
  · rw [if_pos (by omega), if_neg hk]
theorem shV_at {f : List Int} {a : Int} {k q i : Nat} (hi : i + 1 < f.length) (hq : i + q + 2 = f.length) (hk : k ≤ i) :
    (shV f a k q).getD i 0 = (shiftP f a k).getD i 0 ∧ (shV f a k q).getD (i + 1) 0 = evalD (shiftP f a k) a (f.length - (i + 1)) ∧
    evalD (shiftP f a k) a (f.length - i) = (shiftP f a k).getD i 0 + a * evalD (shiftP f a k) a (f.length - (i + 1)) := by
  refine ⟨?_, ?_, ?_⟩
  · rw [shV, tabL_getD (by omega), if_neg (by omega)]
  · rw [shV, tabL_getD hi, if_pos (by omega)]
  · rw [show f.length - i = (f.length - (i + 1)) + 1 by omega, evalD, shiftP_length, show f.length - 1 - (f.length - (i + 1)) = i by omega, Int.mul_comm, Int.add_comm]
theorem shV_step {f : List Int} {a : Int} {k q i : Nat} {y : Int} (hi : i + 1 < f.length) (hq : i + q + 2 = f.length) (hk : k ≤ i) (hy : evalD (shiftP f a k) a (f.length - i) = y) :
    (shV f a k q).set i y = shV f a k (q + 1) := by
  rw [shV, tab_set y (by omega)]
  refine tabL_ext fun j hj => ?_
  by_cases e : j = i
  · rw [if_pos e, if_pos (by omega), e, hy]
  · rw [if_neg e]
    by_cases h2 : f.length - 1 - q ≤ j ∧ k ≤ j
    · rw [if_pos h2, if_pos (by omega)]
    · rw [if_neg h2, if_neg (by omega)]
def shiftC (f : List Int) (a : Int) : Int := if polyB f then (if inB a (-1000) 1000 then resC (shiftL f a) else 2) else 1
def shiftQ (f : List Int) (a : Int) : List Int := if polyB f then (if inB a (-1000) 1000 then resL (shiftL f a) else []) else []
theorem set_bd {l : List Int} {B y : Int} {i : Nat} (h : ∀ j, -B ≤ l.getD j 0 ∧ l.getD j 0 ≤ B) (hy : -B ≤ y ∧ y ≤ B) : ∀ j, -B ≤ (l.set i y).getD j 0 ∧ (l.set i y).getD j 0 ≤ B := by
  intro j
  by_cases e : j = i
  · subst e
    by_cases hj : j < l.length
    · simp [List.getD, hj]; exact hy
    · rw [getD_out (by rw [List.length_set]; omega)]
      have := h j
      rw [getD_out (by omega)] at this; exact this
  · have : (l.set i y).getD j 0 = l.getD j 0 := by simp [List.getD, List.getElem?_set_ne (Ne.symm e)]
    rw [this]; exact h j
set_option maxRecDepth 20000
end Go.Proofs.Ytidcpmhbkldpeaa
