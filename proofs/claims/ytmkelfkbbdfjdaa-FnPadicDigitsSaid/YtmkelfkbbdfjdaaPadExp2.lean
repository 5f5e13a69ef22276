/- Contracts of the walk: chapter 3's exported functions in impl: inverses, cuts, places of equality, digits, and numbers made of integers. -/
import Derived.Test.YtmkelfkbbdfjdaaPadExp
namespace Go.Proofs.Ytmkelfkbbdfjdaa
open Go.RowKit
set_option linter.unusedVariables false
set_option maxRecDepth 20000
set_option linter.unusedSimpArgs false
def invQ (p v u n : Int) : Q4 := if padB p v u n then (if n = 0 then (0, 0, 0, 0) else (p, -v, invV p n u, n)) else (0, 0, 0, 0)
def invC (p v u n : Int) : Int := if padB p v u n then (if n = 0 then 4 else 0) else 1
def cutQ (p v u n k : Int) : Q4 := if padB p v u n then (if 1 ≤ k ∧ k ≤ n then (p, v, u % pw p k, k) else (0, 0, 0, 0)) else (0, 0, 0, 0)
def cutC (p v u n k : Int) : Int := if padB p v u n then (if 1 ≤ k ∧ k ≤ n then 0 else 2) else 1
def difT (p v u n v' u' n' : Int) : Int × Int × Int := addT p v u n v' (negU p u' n') n'
def eqV (p v u n q v' u' n' : Int) : Int := if twoC p v u n q v' u' n' = 0 then (resQ p (difT p v u n v' u' n').1 (difT p v u n v' u' n').2.1 (difT p v u n v' u' n').2.2).2.1 else 0
def eqC (p v u n q v' u' n' : Int) : Int := if twoC p v u n q v' u' n' = 0 then limC p (difT p v u n v' u' n').1 (difT p v u n v' u' n').2.1 (difT p v u n v' u' n').2.2 else twoC p v u n q v' u' n'
def digV (p v u n k : Int) : Int := if padB p v u n then (if v + n ≤ k then 0 else if k < v then 0 else u / pw p (k - v) % p) else 0
def digC (p v u n k : Int) : Int := if padB p v u n then (if v + n ≤ k then 4 else 0) else 1
def madeQ (p m k : Int) : Q4 := if ringM p k = 0 then (0, 0, 0, 0) else if valueB m && !(m == 0) then (p, valCount m p, valRest m p % ringM p k, k) else (0, 0, 0, 0)
def madeC (p m k : Int) : Int := if ringM p k = 0 then 1 else if valueB m && !(m == 0) then 0 else 2
theorem lies_pair {w1 : World} {b : Nat} {x y : Value} (h : Lies w1 b #[x, y]) : w1.cell? ⟨b, 0, none⟩ = some x ∧ w1.cell? ⟨b, 1, none⟩ = some y := ⟨lies_cell h 0, lies_cell h 1⟩
theorem rem_facts {a m : Int} (ha : 0 ≤ a) (hm : 1 ≤ m) (hm2 : m ≤ 1000000000) : a.tmod m = a % m ∧ ¬ m = 0 ∧ IntKind.i64.wrap (a % m) = a % m ∧ (m == 0) = false := by
  have r0 := Int.emod_nonneg a (show m ≠ 0 by omega)
  have r1 := Int.emod_lt_of_pos a (show 0 < m by omega)
  exact ⟨tmod_nonneg ha, by omega, IntWalk.i64_in _ (by omega), by simp; omega⟩
/-- two blocks, one of which holds a number that is read -/
abbrev SQ (w : World) (p v u n : Int) (b : Array Value) (w1 : World) : Prop :=
  K2 w (P4 p v u n) b w1 ∧ w1.cell? ⟨w.heap.size, 0, none⟩ = some (.int .i64 p) ∧ w1.cell? ⟨w.heap.size, 1, none⟩ = some (.int .i64 v) ∧ w1.cell? ⟨w.heap.size, 2, none⟩ = some (.int .i64 u) ∧ w1.cell? ⟨w.heap.size, 3, none⟩ = some (.int .i64 n)
theorem sq_of {w : World} {p v u n : Int} {b : Array Value} {w1 : World} (K : K2 w (P4 p v u n) b w1) : SQ w p v u n b w1 := by
  obtain ⟨c0, c1, c2, c3⟩ := lies_four K.2.1
  exact ⟨K, c0, c1, c2, c3⟩
theorem sq_next {w : World} {p v u n : Int} {b : Array Value} {w1 w2 : World} (h : SQ w p v u n b w1) (hb : Below w1.heap.size w1 w2) : SQ w p v u n b w2 := sq_of (k2_next h.1 hb)
end Go.Proofs.Ytmkelfkbbdfjdaa
