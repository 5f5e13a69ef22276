/- Contracts of the walk: powers by a modulus in impl and in spec. -/
import Derived.Test.YtmkelfkbbdfjdaaRingLaw
import Derived.Lib.RabinKarpLaws
namespace Go.Proofs.Ytmkelfkbbdfjdaa
open Go.RowKit
set_option linter.unusedVariables false
theorem and1_odd {e : Int} (h0 : 0 ≤ e) (h1 : e ≤ 4000000000000000000) (h : e % 2 = 1) : (bits BinOp.and IntKind.i64 e 1 == 1) = true := by
  have := Go.Proofs.and_one e.toNat (by omega)
  rw [show ((e.toNat : Nat) : Int) = e by omega] at this
  rw [this]; simp; omega
theorem and1_even {e : Int} (h0 : 0 ≤ e) (h1 : e ≤ 4000000000000000000) (h : ¬ e % 2 = 1) : (bits BinOp.and IntKind.i64 e 1 == 1) = false := by
  have := Go.Proofs.and_one e.toNat (by omega)
  rw [show ((e.toNat : Nat) : Int) = e by omega] at this
  rw [this]; simp; omega
end Go.Proofs.Ytmkelfkbbdfjdaa
