/- Contracts of the walk: chapter 6 in spec: derivatives, lists turned round. -/
import Derived.Test.YtcennddgbpkclaaDoorPolySpec2
namespace Go.Proofs.YtcennddgbpkclaaDoor
open Go.RowKit
set_option linter.unusedVariables false
set_option linter.unusedSimpArgs false
theorem intRow_lower {b b' : Nat} {w : World} {v : Value} {l : List Int} (h : IntRow b' w v l) (hle : b ≤ b') : IntRow b w v l :=
  ⟨h.1, h.2.imp id fun ⟨g, cap, cur, e, hb, rest⟩ => ⟨g, cap, cur, e, Nat.le_trans hle hb, rest⟩⟩
theorem tabL_succ (k : Nat) (f : Nat → Int) : tabL (k + 1) f = tabL k f ++ [f k] := by simp [tabL, List.range_succ]
theorem tabL_ext {n : Nat} {f g : Nat → Int} (h : ∀ i, i < n → f i = g i) : tabL n f = tabL n g :=
  ext_getD (by rw [tabL_length, tabL_length]) fun i hi => by rw [tabL_length] at hi; rw [tabL_getD hi, tabL_getD hi, h i hi]
end Go.Proofs.YtcennddgbpkclaaDoor
