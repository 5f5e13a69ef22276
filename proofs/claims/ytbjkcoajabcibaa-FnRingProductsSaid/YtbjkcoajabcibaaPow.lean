/- Contracts of the walk over lists of prime powers (structs of two integers): eqPower, eqPowerS, markPowerS, heldPowerS of the laws' package, over rows of the call's own memory. -/
import Derived.Test.YtbjkcoajabcibaaPrime
import Derived.StillTailTactics
import Derived.Deep.RegionHeld3
namespace Go.Proofs.Ytbjkcoajabcibaa
open Go.RowKit
set_option linter.unusedVariables false
def pairB (a b c d : Int) : Bool := decide (a = c) && decide (b = d)
theorem pairB_eq {a b c d : Int} (h : pairB a b c d = true) : (a, b) = (c, d) := by
  simp [pairB] at h; simp [h]
theorem pairB_ne {a b c d : Int} (h : pairB a b c d = false) (e : (a, b) = (c, d)) : False := by
  simp at e; simp [pairB, e] at h
theorem allEq_succ {α : Type} {l1 l2 : List α} {z : α} {k : Nat} (h : ∀ j, j < k → l1.getD j z = l2.getD j z) (he : l1.getD k z = l2.getD k z) : ∀ j, j < k + 1 → l1.getD j z = l2.getD j z := by
  intro j hj
  by_cases e : j = k
  · subst e; exact he
  · exact h j (by omega)
theorem below_two (w : World) (o o' : Obj) : Below w.heap.size w ((w.alloc o).alloc o') := ((Below.refl _ _).alloc (Nat.le_refl _) o).alloc (by simp) o'
end Go.Proofs.Ytbjkcoajabcibaa
