/- Contracts of the walk: chapter 3's exported functions in impl: places of equality, digits, and numbers made of integers. -/
import Derived.Test.YtmkelfkbbdfjdaaPadExp2
namespace Go.Proofs.Ytmkelfkbbdfjdaa
open Go.RowKit
set_option linter.unusedVariables false
set_option maxRecDepth 20000
set_option linter.unusedSimpArgs false
/-- two blocks that hold numbers that are read -/
abbrev SR (w : World) (p v u n q v' u' n' : Int) (w1 : World) : Prop :=
  K2 w (P4 p v u n) (P4 q v' u' n') w1 ∧ w1.cell? ⟨w.heap.size, 0, none⟩ = some (.int .i64 p) ∧ w1.cell? ⟨w.heap.size, 1, none⟩ = some (.int .i64 v) ∧ w1.cell? ⟨w.heap.size, 2, none⟩ = some (.int .i64 u) ∧ w1.cell? ⟨w.heap.size, 3, none⟩ = some (.int .i64 n) ∧
  w1.cell? ⟨w.heap.size + 1, 0, none⟩ = some (.int .i64 q) ∧ w1.cell? ⟨w.heap.size + 1, 1, none⟩ = some (.int .i64 v') ∧ w1.cell? ⟨w.heap.size + 1, 2, none⟩ = some (.int .i64 u') ∧ w1.cell? ⟨w.heap.size + 1, 3, none⟩ = some (.int .i64 n')
theorem sr_of {w : World} {p v u n q v' u' n' : Int} {w1 : World} (K : K2 w (P4 p v u n) (P4 q v' u' n') w1) : SR w p v u n q v' u' n' w1 := by
  obtain ⟨c0, c1, c2, c3⟩ := lies_four K.2.1
  obtain ⟨d0, d1, d2, d3⟩ := lies_four K.2.2
  exact ⟨K, c0, c1, c2, c3, d0, d1, d2, d3⟩
theorem sr_next {w : World} {p v u n q v' u' n' : Int} {w1 w2 : World} (h : SR w p v u n q v' u' n' w1) (hb : Below w1.heap.size w1 w2) : SR w p v u n q v' u' n' w2 := sr_of (k2_next h.1 hb)
theorem k2_alloc {w w1 : World} {a b : Array Value} (h : K2 w a b w1) (o : Obj) : K2 w a b (w1.alloc o) := k2_next h (below_a1 w1 o)
theorem sr_set {w : World} {p v u n q v' u' n' : Int} {w1 : World} {b : Nat} (h : SR w p v u n q v' u' n' w1) (x0 x1 x2 x3 : Value) (hb : w.heap.size + 1 < b) :
    SR w p v u n q v' u' n' ((((w1.setCell ⟨b, 0, none⟩ x0).setCell ⟨b, 1, none⟩ x1).setCell ⟨b, 2, none⟩ x2).setCell ⟨b, 3, none⟩ x3) :=
  sr_of ⟨below_set4 h.1.1 (by omega), lies_other4 h.1.2.1 (by omega), lies_other4 h.1.2.2 (by omega)⟩
theorem sr_alloc {w : World} {p v u n q v' u' n' : Int} {w1 : World} (h : SR w p v u n q v' u' n' w1) (o : Obj) : SR w p v u n q v' u' n' (w1.alloc o) := sr_of (k2_alloc h.1 o)
end Go.Proofs.Ytmkelfkbbdfjdaa
