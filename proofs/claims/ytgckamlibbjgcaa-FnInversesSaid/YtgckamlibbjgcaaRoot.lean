/- Contracts of the walk: both PrimitiveRoot and the law FnExactPrimitiveRoot. -/
import Derived.Test.YtgckamlibbjgcaaOrderOf
namespace Go.Proofs.Ytgckamlibbjgcaa
open Go.RowKit
set_option linter.unusedVariables false
theorem ringM_one {p : Int} (hs : smallB p = true) : ringM p 1 = p := by
  obtain ⟨h1, h2⟩ := smallB_bd hs
  have e : p ^ (1 : Int).toNat = p := ipow_one p
  unfold ringM
  rw [e, hs]
  simp; omega
theorem ringC_one (p : Int) : ringC p 1 = if smallB p then 0 else 1 := by
  unfold ringC
  cases hs : smallB p
  · simp [ringM_small hs]
  · have := smallB_bd hs
    rw [ringM_one hs]; simp; omega
theorem root_unique {p : Int} {g h : Nat} (hg : IsRoot p g) (hh : IsRoot p h) : g = h := by
  rcases Nat.lt_trichotomy g h with h1 | h1 | h1
  · exact absurd hg.2.2.1 (hh.2.2.2 g hg.1 h1)
  · exact h1
  · exact absurd hh.2.2.1 (hg.2.2.2 h hh.1 h1)
open Classical in
noncomputable def rootV (p : Int) : Int := if h : ∃ g, IsRoot p g then ((Classical.choose h : Nat) : Int) else 0
theorem rootV_eq {p : Int} {g : Nat} (h : IsRoot p g) : rootV p = g := by
  unfold rootV
  have hex : ∃ g, IsRoot p g := ⟨_, h⟩
  rw [dif_pos hex, root_unique (Classical.choose_spec hex) h]
def prC (p : Int) : Int := if smallB p then 0 else 1
noncomputable def prV (p : Int) : Int := if smallB p then rootV p else 0
theorem unit_small {p : Int} {a : Nat} (h1 : 1 ≤ a) (h2 : (a : Int) < p) : (a : Int) % p ≠ 0 := by
  rw [Int.emod_eq_of_lt (by omega) h2]; omega
end Go.Proofs.Ytgckamlibbjgcaa
