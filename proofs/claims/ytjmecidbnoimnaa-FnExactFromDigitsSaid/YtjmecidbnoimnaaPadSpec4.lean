/- Contracts of the walk: chapter 3's exported functions in spec. -/
import Derived.Test.YtjmecidbnoimnaaPadSpec3
import Derived.Test.YtjmecidbnoimnaaPadExp3
namespace Go.Proofs.Ytjmecidbnoimnaa
open Go.RowKit
set_option linter.unusedVariables false
set_option maxRecDepth 20000
set_option linter.unusedSimpArgs false
theorem invV_eq {p n u : Int} (h0 : ringM p n ≠ 0) (hu : 1 ≤ u) (hu2 : u < ringM p n) (hp : u % p ≠ 0) : invV p n u = bezX u (ringM p n) % ringM p n := by
  have : unitC p n u = 0 := by simp [unitC, resC, h0, show 0 ≤ u by omega, hu2, hp]
  simp [invV, this]
end Go.Proofs.Ytjmecidbnoimnaa
