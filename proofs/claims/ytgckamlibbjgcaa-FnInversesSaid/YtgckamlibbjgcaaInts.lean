/- Contracts of the walk over lists of int64 in the call's own memory: eqInt64S, markInt64S, heldInt64S of the laws' package. Rows of at most 1100000 elements. -/
import Derived.Test.YtgckamlibbjgcaaRow
import Derived.Test.YtgckamlibbjgcaaPow
namespace Go.Proofs.Ytgckamlibbjgcaa
open Go.RowKit
set_option linter.unusedVariables false
def IntRow (base : Nat) (w : World) (v : Value) (l : List Int) : Prop := w.ownsRow base 2 1 v l.length (l.map (Value.int .i64))
theorem int_cells {base : Nat} {w : World} {g c : Nat} {l : List Int} (h : IntRow base w (.slice (some ⟨g, 0, none⟩) l.length c) l) :
    ∀ k, k < l.length → w.cell? ⟨g, k, none⟩ = some (.int .i64 (l.getD k 0)) := by
  intro k hk
  rw [World.ownsRow.cellAt h k (by omega)]
  simp [List.getD, hk]
end Go.Proofs.Ytgckamlibbjgcaa
