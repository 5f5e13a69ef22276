/- Contracts of the walk: chapter 5's made numbers and valuations, in impl and in spec, for every argument. -/
import Derived.Test.YtgckamlibbjgcaaRatImpl3
import Derived.Test.YtgckamlibbjgcaaRatVal
namespace Go.Proofs.Ytgckamlibbjgcaa
open Go.RowKit
set_option linter.unusedVariables false
set_option linter.unusedSimpArgs false
set_option maxRecDepth 20000
theorem ratVal_any (n d p : Int) (w : World) (hp : 2 ≤ p) (hn : n ≠ 0) (hd : d ≠ 0) (n0 : -1000000000000 ≤ n) (n1 : n ≤ 1000000000000) (d0 : -1000000000000 ≤ d) (d1 : d ≤ 1000000000000) :
    Calls Try.prog 106 #[.agg (P2 n d), .int .i64 p] w fun e w' => e = .returned (.int .i64 (valCount n p - valCount d p)) ∧ Below w.heap.size w w' := by
  obtain ⟨a0, a1⟩ := val_bd hp hn n0 n1
  obtain ⟨b0, b1⟩ := val_bd hp hd d0 d1
  go_enter Try.func106, Try.ntmps106
  go_wp2_with (go_at_call 124; refine (divideOut_any _ _ _ hp (by assumption) (by omega)).mono ?_; rintro e w' ⟨rfl, rfl⟩)
  go_ret
  exact ⟨rfl, below_a1 w _⟩
end Go.Proofs.Ytgckamlibbjgcaa
