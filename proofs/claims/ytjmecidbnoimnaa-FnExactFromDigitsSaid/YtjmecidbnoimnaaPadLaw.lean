/- Walks of the laws FnExactIsPadic, FnExactMakePadic, FnExactNegatePadic, FnExactInvertPadic, FnExactCutPadic, FnExactEndOf, FnExactDigitAt: true at every input. -/
import Derived.Test.YtjmecidbnoimnaaPadSpec5
import Derived.Deep.DeepCutAuto
namespace Go.Proofs.Ytjmecidbnoimnaa
open Go.RowKit
set_option linter.unusedVariables false
set_option maxRecDepth 20000
set_option linter.unusedSimpArgs false
theorem eqPadic_any (p v u n : Int) (w : World) :
    Calls Try.prog 30 #[.agg (P4 p v u n), .agg (P4 p v u n)] w fun e w' => e = .returned (.bool true) ∧ Below w.heap.size w w' := by
  go_enter Try.func30, Try.ntmps30
  go_wp2
  go_ret
  exact ⟨rfl, below_a2 w _ _⟩
theorem k1_alloc {w w1 : World} {a : Array Value} (h : K1 w a w1) (o : Obj) : K1 w a (w1.alloc o) := k1_next h (below_a1 w1 o)
end Go.Proofs.Ytjmecidbnoimnaa
