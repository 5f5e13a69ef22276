/- Contracts of the walk: chapter 3's functions in spec: sums, opposites, products and digits. -/
import Derived.Test.YtejgcamogjgdkaaDoorPadSpec
import Derived.Test.YtejgcamogjgdkaaDoorPadExp2
namespace Go.Proofs.YtejgcamogjgdkaaDoor
open Go.RowKit
set_option linter.unusedVariables false
set_option linter.unusedSimpArgs false
def makeT (p v s e : Int) : Int × Int × Int :=
  if s % pw p (e - v) = 0 then (e, 0, 0) else (v + valCount (s % pw p (e - v)) p, valRest (s % pw p (e - v)) p, e - v - valCount (s % pw p (e - v)) p)
theorem make_eq {p v u n v' u' n' s : Int} (hs : s % pw p (addE v n v' n' - v) = addR p v u n v' u' n') : makeT p v s (addE v n v' n') = add0 p v u n v' u' n' := by
  unfold makeT add0; rw [hs, Int.sub_sub]
abbrev K4 (w : World) (a b c d : Array Value) (w1 : World) : Prop := K3 w a b c w1 ∧ Lies w1 (w.heap.size + 3) d
theorem lies_fourth {w : World} {o o' o'' : Obj} {vs : Array Value} {T : TypeId} : Lies ((((w.alloc o).alloc o').alloc o'').alloc (.cells vs T)) (w.heap.size + 3) vs := by
  have := lies_new (((w.alloc o).alloc o').alloc o'') vs T; rw [size1, size1, size1] at this; exact this
theorem k4_new (w : World) (a b c d : Array Value) (T T' T'' T3 : TypeId) : K4 w a b c d ((((w.alloc (.cells a T)).alloc (.cells b T')).alloc (.cells c T'')).alloc (.cells d T3)) :=
  ⟨k3_next (k3_new w a b c T T' T'') (below_a1 _ _), lies_fourth⟩
theorem k4_drew {w w1 : World} {a b c d : Array Value} (h : K4 w a b c d w1) : K4 w a b c d w1.drew := ⟨k3_drew h.1, h.2⟩
end Go.Proofs.YtejgcamogjgdkaaDoor
