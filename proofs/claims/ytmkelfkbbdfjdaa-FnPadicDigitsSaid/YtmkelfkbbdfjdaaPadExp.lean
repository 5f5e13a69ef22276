/- Contracts of the walk: chapter 3's exported functions in impl. -/
import Derived.Test.YtmkelfkbbdfjdaaPadImpl
namespace Go.Proofs.Ytmkelfkbbdfjdaa
open Go.RowKit
set_option linter.unusedVariables false
set_option maxRecDepth 20000
set_option linter.unusedSimpArgs false
abbrev Q4 := Int × Int × Int × Int
abbrev A4 (x : Q4) : Array Value := P4 x.1 x.2.1 x.2.2.1 x.2.2.2
def resQ (p v u n : Int) : Q4 := if padB p v u n then (p, v, u, n) else (0, 0, 0, 0)
theorem resV_eq (p v u n : Int) : resV p v u n = A4 (resQ p v u n) := by
  unfold resV resQ; cases padB p v u n <;> rfl
theorem asResultQ_any (p v u n : Int) (w : World) :
    Calls Try.prog 37 #[.agg (P4 p v u n)] w fun e w' => e = .returned (.tuple #[.agg (A4 (resQ p v u n)), .int .i64 (limC p v u n)]) ∧ Below w.heap.size w w' := by
  rw [← resV_eq]; exact asResult_any p v u n w
def sumQ (p v u n q v' u' n' : Int) : Q4 := if twoC p v u n q v' u' n' = 0 then resQ p (addT p v u n v' u' n').1 (addT p v u n v' u' n').2.1 (addT p v u n v' u' n').2.2 else (0, 0, 0, 0)
def sumC (p v u n q v' u' n' : Int) : Int := if twoC p v u n q v' u' n' = 0 then limC p (addT p v u n v' u' n').1 (addT p v u n v' u' n').2.1 (addT p v u n v' u' n').2.2 else twoC p v u n q v' u' n'
def proQ (p v u n q v' u' n' : Int) : Q4 := if twoC p v u n q v' u' n' = 0 then resQ p (v + v') (mulU p u n u' n') (mulN n n') else (0, 0, 0, 0)
def proC (p v u n q v' u' n' : Int) : Int := if twoC p v u n q v' u' n' = 0 then limC p (v + v') (mulU p u n u' n') (mulN n n') else twoC p v u n q v' u' n'
def negQ (p v u n : Int) : Q4 := if padB p v u n then (p, v, negU p u n, n) else (0, 0, 0, 0)
def negC (p v u n : Int) : Int := if padB p v u n then 0 else 1
def endV (p v u n : Int) : Int := if padB p v u n then v + n else 0
end Go.Proofs.Ytmkelfkbbdfjdaa
