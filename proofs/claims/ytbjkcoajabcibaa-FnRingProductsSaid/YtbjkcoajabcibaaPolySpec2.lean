/- Contracts of the walk: chapter 6 in spec: values, contents, derivatives, lists turned round. -/
import Derived.Test.YtbjkcoajabcibaaPolySpec
import Derived.Test.YtbjkcoajabcibaaPolyMore
import Derived.Test.YtbjkcoajabcibaaGcd
namespace Go.Proofs.Ytbjkcoajabcibaa
open Go.RowKit
set_option linter.unusedVariables false
set_option maxRecDepth 20000
set_option linter.unusedSimpArgs false
theorem inB_cases (n lo hi : Int) : inB n lo hi = true ∧ lo ≤ n ∧ n ≤ hi ∨ inB n lo hi = false ∧ (n < lo ∨ hi < n) := by
  by_cases h1 : lo ≤ n
  · by_cases h2 : n ≤ hi
    · exact .inl ⟨inB_t h1 h2, h1, h2⟩
    · exact .inr ⟨inB_f (.inr (by omega)), .inr (by omega)⟩
  · exact .inr ⟨inB_f (.inl (by omega)), .inl (by omega)⟩
def contC (l : List Int) : Int := if polyB l then 0 else 1
def contQ (l : List Int) : Int := if polyB l then contL l else 0
theorem contN_bd {l : List Int} (h : ∀ i, -1000000 ≤ l.getD i 0 ∧ l.getD i 0 ≤ 1000000) : ∀ k, 0 ≤ contN l k ∧ contN l k ≤ 1000000
  | 0 => by simp [contN]
  | k + 1 => by
    obtain ⟨a, b⟩ := contN_bd h k
    obtain ⟨c, d⟩ := h k
    unfold contN
    refine ⟨by omega, ?_⟩
    by_cases h0 : contN l k = 0
    · rw [h0, Int.gcd_zero_left]; omega
    · have := Int.gcd_le_natAbs_left (l.getD k 0) h0
      have := Int.ofNat_le.2 this
      omega
end Go.Proofs.Ytbjkcoajabcibaa
