/- Contracts of the walk: chapter 3's methods in impl: the end, the codes of two numbers, the result, sums, opposites and products. -/
import Derived.Test.YtghhjeebcpcepaaDoorPadKeep
import Derived.StillTailTactics
namespace Go.Proofs.YtghhjeebcpcepaaDoor
open Go.RowKit
set_option linter.unusedVariables false
set_option maxRecDepth 20000
theorem twoC_left {p v u n q v' u' n' : Int} (h : padB p v u n = false) : twoC p v u n q v' u' n' = 1 := by simp [twoC, h]
theorem twoC_right {p v u n q v' u' n' : Int} (h : padB q v' u' n' = false) : twoC p v u n q v' u' n' = 1 := by simp [twoC, h]
/-- a number that comes back, or the code that it is not valid -/
def resV (p v u n : Int) : Array Value := if padB p v u n then P4 p v u n else P4 0 0 0 0
def limC (p v u n : Int) : Int := if padB p v u n then 0 else 3
/-- the product -/
def mulN (n n' : Int) : Int := min n n'
def mulU (p u n u' n' : Int) : Int := u * u' % pw p (mulN n n')
/-- the number with an end: p to the power of v times r -/
def numT (p v r e : Int) : Int × Int × Int := if r = 0 then (e, 0, 0) else (v + valCount r p, valRest r p, e - (v + valCount r p))
theorem add0_num (p v u n v' u' n' : Int) : add0 p v u n v' u' n' = numT p v (addR p v u n v' u' n') (addE v n v' n') := rfl
/-- three blocks, two of which hold numbers that are read -/
abbrev SP (w : World) (p v u n q v' u' n' : Int) (w1 : World) : Prop :=
  K3 w (P4 p v u n) (P4 q v' u' n') (P4 0 0 0 0) w1 ∧ w1.cell? ⟨w.heap.size, 0, none⟩ = some (.int .i64 p) ∧ w1.cell? ⟨w.heap.size, 1, none⟩ = some (.int .i64 v) ∧ w1.cell? ⟨w.heap.size, 2, none⟩ = some (.int .i64 u) ∧ w1.cell? ⟨w.heap.size, 3, none⟩ = some (.int .i64 n) ∧
  w1.cell? ⟨w.heap.size + 1, 0, none⟩ = some (.int .i64 q) ∧ w1.cell? ⟨w.heap.size + 1, 1, none⟩ = some (.int .i64 v') ∧ w1.cell? ⟨w.heap.size + 1, 2, none⟩ = some (.int .i64 u') ∧ w1.cell? ⟨w.heap.size + 1, 3, none⟩ = some (.int .i64 n')
theorem sp_of {w : World} {p v u n q v' u' n' : Int} {w1 : World} (K : K3 w (P4 p v u n) (P4 q v' u' n') (P4 0 0 0 0) w1) : SP w p v u n q v' u' n' w1 := by
  obtain ⟨c0, c1, c2, c3⟩ := lies_four K.2.1
  obtain ⟨d0, d1, d2, d3⟩ := lies_four K.2.2.1
  exact ⟨K, c0, c1, c2, c3, d0, d1, d2, d3⟩
theorem sp_next {w : World} {p v u n q v' u' n' : Int} {w1 w2 : World} (h : SP w p v u n q v' u' n' w1) (hb : Below w1.heap.size w1 w2) : SP w p v u n q v' u' n' w2 := sp_of (k3_next h.1 hb)
theorem k3_drewN {w w1 : World} {a b c : Array Value} (h : K3 w a b c w1) (k : Nat) : K3 w a b c (w1.drewN k) := ⟨below_drewN h.1 k, h.2⟩
theorem k3_swap {w W : World} {a0 a1 a2 a3 b0 b1 b2 b3 : Value} {c : Array Value} (K : K3 w #[a0, a1, a2, a3] #[b0, b1, b2, b3] c W) :
    K3 w #[b0, b1, b2, b3] #[a0, a1, a2, a3] c ((((((((W.setCell ⟨w.heap.size, 0, none⟩ b0).setCell ⟨w.heap.size, 1, none⟩ b1).setCell ⟨w.heap.size, 2, none⟩ b2).setCell ⟨w.heap.size, 3, none⟩ b3).setCell ⟨w.heap.size + 1, 0, none⟩ a0).setCell ⟨w.heap.size + 1, 1, none⟩ a1).setCell ⟨w.heap.size + 1, 2, none⟩ a2).setCell ⟨w.heap.size + 1, 3, none⟩ a3) :=
  ⟨below_set4 (below_set4 K.1 (by omega)) (by omega), lies_other4 (lies_set4 K.2.1) (by omega), lies_set4 (lies_other4 K.2.2.1 (by omega)), lies_other4 (lies_other4 K.2.2.2 (by omega)) (by omega)⟩
end Go.Proofs.YtghhjeebcpcepaaDoor
