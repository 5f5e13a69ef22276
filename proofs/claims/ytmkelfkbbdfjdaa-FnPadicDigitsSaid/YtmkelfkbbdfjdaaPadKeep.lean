/- Bookkeeping of the walks: blocks that lie as they were laid, across calls that only add memory. -/
import Derived.Test.YtmkelfkbbdfjdaaPadLow
import Derived.Test.YtmkelfkbbdfjdaaDraw
namespace Go.Proofs.Ytmkelfkbbdfjdaa
open Go.RowKit
set_option linter.unusedVariables false
/-- block b holds these cells and no more, and may be written -/
def Lies (w1 : World) (b : Nat) (vs : Array Value) : Prop := b < w1.heap.size ∧ ∀ i, w1.cell? ⟨b, i, none⟩ = vs[i]? ∧ w1.frozen? ⟨b, i, none⟩ = false
theorem lies_new (w : World) (vs : Array Value) (T : TypeId) : Lies (w.alloc (.cells vs T)) w.heap.size vs :=
  ⟨by simp, fun i => ⟨World.cell?_alloc_new _ _ _ _, World.frozen?_alloc_at _ _ _ _ rfl⟩⟩
theorem lies_lt {w1 : World} {b : Nat} {vs : Array Value} (h : Lies w1 b vs) : b < w1.heap.size := h.1
theorem lies_block {w1 w2 : World} {b : Nat} {vs : Array Value} (h : Lies w1 b vs) (hs : b < w2.heap.size) (e : w2.heap[b]? = w1.heap[b]?) : Lies w2 b vs :=
  ⟨hs, fun i => ⟨by rw [World.cell?_of_block (w := w1) (a := ⟨b, i, none⟩) e]; exact (h.2 i).1, by rw [World.frozen?_of_block (w := w1) (a := ⟨b, i, none⟩) e]; exact (h.2 i).2⟩⟩
theorem lies_below {w1 w2 : World} {b B : Nat} {vs : Array Value} (h : Lies w1 b vs) (hb : Below B w1 w2) (hB : b < B) : Lies w2 b vs := lies_block h (Nat.lt_of_lt_of_le h.1 hb.size) (hb.block b hB)
theorem lies_next {w1 w2 : World} {b : Nat} {vs : Array Value} (h : Lies w1 b vs) (hb : Below w1.heap.size w1 w2) : Lies w2 b vs := lies_below h hb h.1
theorem lies_alloc {w1 : World} {b : Nat} {vs : Array Value} (h : Lies w1 b vs) (o : Obj) : Lies (w1.alloc o) b vs := lies_next h ((Below.refl _ _).alloc (Nat.le_refl _) _)
theorem lies_drewN {w1 : World} {b : Nat} {vs : Array Value} (h : Lies w1 b vs) (k : Nat) : Lies (w1.drewN k) b vs := h
theorem lies_grown {w1 w2 : World} {b q : Nat} {vs : Array Value} (h : Lies w1 b vs) (hg : w1.grownBy w2 (some q)) (hq : b ≠ q) : Lies w2 b vs :=
  lies_block h (Nat.lt_of_lt_of_le h.1 hg.size) (hg.block b h.1 (by simp; omega))
theorem lies_cell {w1 : World} {b : Nat} {vs : Array Value} (h : Lies w1 b vs) (i : Nat) : w1.cell? ⟨b, i, none⟩ = vs[i]? := (h.2 i).1
theorem lies_frozen {w1 : World} {b : Nat} {vs : Array Value} (h : Lies w1 b vs) (i : Nat) : w1.frozen? ⟨b, i, none⟩ = false := (h.2 i).2
abbrev P4 (p v u n : Int) : Array Value := #[.int .i64 p, .int .i64 v, .int .i64 u, .int .i64 n]
theorem lies_four {w1 : World} {b : Nat} {p v u n : Int} (h : Lies w1 b (P4 p v u n)) :
    w1.cell? ⟨b, 0, none⟩ = some (.int .i64 p) ∧ w1.cell? ⟨b, 1, none⟩ = some (.int .i64 v) ∧ w1.cell? ⟨b, 2, none⟩ = some (.int .i64 u) ∧ w1.cell? ⟨b, 3, none⟩ = some (.int .i64 n) :=
  ⟨lies_cell h 0, lies_cell h 1, lies_cell h 2, lies_cell h 3⟩
theorem lies_ice {w1 : World} {b : Nat} {vs : Array Value} (h : Lies w1 b vs) :
    w1.frozen? ⟨b, 0, none⟩ = false ∧ w1.frozen? ⟨b, 1, none⟩ = false ∧ w1.frozen? ⟨b, 2, none⟩ = false ∧ w1.frozen? ⟨b, 3, none⟩ = false :=
  ⟨lies_frozen h 0, lies_frozen h 1, lies_frozen h 2, lies_frozen h 3⟩
theorem size1 (w : World) (a : Obj) : (w.alloc a).heap.size = w.heap.size + 1 := by simp
theorem lies_one {w : World} {vs : Array Value} {T : TypeId} : Lies (w.alloc (.cells vs T)) w.heap.size vs := lies_new w vs T
theorem lies_two {w : World} {o : Obj} {vs : Array Value} {T : TypeId} : Lies ((w.alloc o).alloc (.cells vs T)) (w.heap.size + 1) vs := by
  have := lies_new (w.alloc o) vs T; rw [size1] at this; exact this
theorem lies_three {w : World} {o o' : Obj} {vs : Array Value} {T : TypeId} : Lies (((w.alloc o).alloc o').alloc (.cells vs T)) (w.heap.size + 2) vs := by
  have := lies_new ((w.alloc o).alloc o') vs T; rw [size1, size1] at this; exact this
theorem below_a1 (w : World) (a : Obj) : Below w.heap.size w (w.alloc a) := (Below.refl _ _).alloc (Nat.le_refl _) _
theorem below_a2 (w : World) (a b : Obj) : Below w.heap.size w ((w.alloc a).alloc b) := (below_a1 w a).alloc (by simp) _
theorem below_a3 (w : World) (a b c : Obj) : Below w.heap.size w (((w.alloc a).alloc b).alloc c) := (below_a2 w a b).alloc (by simp; omega) _
/-- one block, two blocks, three blocks laid ahead of a call -/
abbrev K1 (w : World) (a : Array Value) (w1 : World) : Prop := Below w.heap.size w w1 ∧ Lies w1 w.heap.size a
abbrev K2 (w : World) (a b : Array Value) (w1 : World) : Prop := Below w.heap.size w w1 ∧ Lies w1 w.heap.size a ∧ Lies w1 (w.heap.size + 1) b
abbrev K3 (w : World) (a b c : Array Value) (w1 : World) : Prop := Below w.heap.size w w1 ∧ Lies w1 w.heap.size a ∧ Lies w1 (w.heap.size + 1) b ∧ Lies w1 (w.heap.size + 2) c
theorem k1_new (w : World) (a : Array Value) (T : TypeId) : K1 w a (w.alloc (.cells a T)) := ⟨below_a1 w _, lies_one⟩
theorem k2_new (w : World) (a b : Array Value) (T T' : TypeId) : K2 w a b ((w.alloc (.cells a T)).alloc (.cells b T')) := ⟨below_a2 w _ _, lies_alloc lies_one _, lies_two⟩
theorem k3_new (w : World) (a b c : Array Value) (T T' T'' : TypeId) : K3 w a b c (((w.alloc (.cells a T)).alloc (.cells b T')).alloc (.cells c T'')) :=
  ⟨below_a3 w _ _ _, lies_alloc (lies_alloc lies_one _) _, lies_alloc lies_two _, lies_three⟩
theorem k1_next {w w1 w2 : World} {a : Array Value} (h : K1 w a w1) (hb : Below w1.heap.size w1 w2) : K1 w a w2 := ⟨h.1.trans (hb.mono h.1.size), lies_next h.2 hb⟩
theorem k2_next {w w1 w2 : World} {a b : Array Value} (h : K2 w a b w1) (hb : Below w1.heap.size w1 w2) : K2 w a b w2 := ⟨h.1.trans (hb.mono h.1.size), lies_next h.2.1 hb, lies_next h.2.2 hb⟩
theorem k3_next {w w1 w2 : World} {a b c : Array Value} (h : K3 w a b c w1) (hb : Below w1.heap.size w1 w2) : K3 w a b c w2 := ⟨h.1.trans (hb.mono h.1.size), lies_next h.2.1 hb, lies_next h.2.2.1 hb, lies_next h.2.2.2 hb⟩
theorem k1_first {w w1 : World} {a : Array Value} {T : TypeId} (hb : Below (w.alloc (.cells a T)).heap.size (w.alloc (.cells a T)) w1) : K1 w a w1 := k1_next (k1_new w a T) hb
theorem k2_first {w w1 : World} {a b : Array Value} {T T' : TypeId} (hb : Below ((w.alloc (.cells a T)).alloc (.cells b T')).heap.size ((w.alloc (.cells a T)).alloc (.cells b T')) w1) : K2 w a b w1 := k2_next (k2_new w a b T T') hb
theorem k3_first {w w1 : World} {a b c : Array Value} {T T' T'' : TypeId} (hb : Below (((w.alloc (.cells a T)).alloc (.cells b T')).alloc (.cells c T'')).heap.size (((w.alloc (.cells a T)).alloc (.cells b T')).alloc (.cells c T'')) w1) : K3 w a b c w1 := k3_next (k3_new w a b c T T' T'') hb
theorem k1_drew {w w1 : World} {a : Array Value} (h : K1 w a w1) : K1 w a w1.drew := ⟨below_drewN h.1 1, h.2⟩
theorem k2_drew {w w1 : World} {a b : Array Value} (h : K2 w a b w1) : K2 w a b w1.drew := ⟨below_drewN h.1 1, h.2⟩
theorem k3_drew {w w1 : World} {a b c : Array Value} (h : K3 w a b c w1) : K3 w a b c w1.drew := ⟨below_drewN h.1 1, h.2⟩
/-- a store into a block that is new -/
theorem below_set4 {w w1 : World} {b : Nat} {x0 x1 x2 x3 : Value} (h : Below w.heap.size w w1) (hb : w.heap.size ≤ b) :
    Below w.heap.size w ((((w1.setCell ⟨b, 0, none⟩ x0).setCell ⟨b, 1, none⟩ x1).setCell ⟨b, 2, none⟩ x2).setCell ⟨b, 3, none⟩ x3) := (((h.setCell hb _).setCell hb _).setCell hb _).setCell hb _
/-- reading back what was stored -/
theorem read_set4 {w1 : World} {b : Nat} {vs : Array Value} {x0 x1 x2 x3 : Value} (h : Lies w1 b vs) (hs : vs.size = 4) :
    let w2 := ((((w1.setCell ⟨b, 0, none⟩ x0).setCell ⟨b, 1, none⟩ x1).setCell ⟨b, 2, none⟩ x2).setCell ⟨b, 3, none⟩ x3)
    w2.cell? ⟨b, 0, none⟩ = some x0 ∧ w2.cell? ⟨b, 1, none⟩ = some x1 ∧ w2.cell? ⟨b, 2, none⟩ = some x2 ∧ w2.cell? ⟨b, 3, none⟩ = some x3 := by
  have c : ∀ i, i < 4 → ∃ v, w1.cell? ⟨b, i, none⟩ = some v := fun i hi => ⟨vs[i]'(by omega), by rw [lies_cell h i]; exact Array.getElem?_eq_getElem (by omega)⟩
  obtain ⟨v0, c0⟩ := c 0 (by omega)
  obtain ⟨v1, c1⟩ := c 1 (by omega)
  obtain ⟨v2, c2⟩ := c 2 (by omega)
  obtain ⟨v3, c3⟩ := c 3 (by omega)
  refine ⟨?_, ?_, ?_, ?_⟩
  · rw [set_other (.inr (by decide)), set_other (.inr (by decide)), set_other (.inr (by decide))]; exact World.cell?_setCell_same _ _ _ c0
  · rw [set_other (.inr (by decide)), set_other (.inr (by decide))]; exact World.cell?_setCell_same _ _ _ (show (w1.setCell _ _).cell? _ = some v1 by rw [set_other (.inr (by decide))]; exact c1)
  · rw [set_other (.inr (by decide))]; exact World.cell?_setCell_same _ _ _ (show ((w1.setCell _ _).setCell _ _).cell? _ = some v2 by rw [set_other (.inr (by decide)), set_other (.inr (by decide))]; exact c2)
  · exact World.cell?_setCell_same _ _ _ (show (((w1.setCell _ _).setCell _ _).setCell _ _).cell? _ = some v3 by rw [set_other (.inr (by decide)), set_other (.inr (by decide)), set_other (.inr (by decide))]; exact c3)
theorem lies_other {w1 : World} {b b' i : Nat} {vs : Array Value} {v : Value} (h : Lies w1 b vs) (hb : b' ≠ b) : Lies (w1.setCell ⟨b', i, none⟩ v) b vs :=
  ⟨by simpa using h.1, fun j => ⟨by rw [set_other (.inl hb)]; exact (h.2 j).1, by rw [World.frozen?_setCell]; exact (h.2 j).2⟩⟩
theorem lies_set {w1 : World} {b i : Nat} {vs : Array Value} {v : Value} (h : Lies w1 b vs) (hi : i < vs.size) : Lies (w1.setCell ⟨b, i, none⟩ v) b (vs.setIfInBounds i v) := by
  refine ⟨by simpa using h.1, fun j => ⟨?_, by rw [World.frozen?_setCell]; exact (h.2 j).2⟩⟩
  by_cases e : i = j
  · subst e
    rw [World.cell?_setCell_same _ _ _ (show w1.cell? ⟨b, i, none⟩ = some vs[i] by rw [(h.2 i).1]; exact Array.getElem?_eq_getElem hi)]
    simp [hi]
  · rw [set_other (.inr e), (h.2 j).1, Array.getElem?_setIfInBounds_ne e]
theorem lies_set4 {w1 : World} {b : Nat} {y0 y1 y2 y3 x0 x1 x2 x3 : Value} (h : Lies w1 b #[y0, y1, y2, y3]) :
    Lies ((((w1.setCell ⟨b, 0, none⟩ x0).setCell ⟨b, 1, none⟩ x1).setCell ⟨b, 2, none⟩ x2).setCell ⟨b, 3, none⟩ x3) b #[x0, x1, x2, x3] :=
  lies_set (lies_set (lies_set (lies_set h (by simp)) (by simp)) (by simp)) (by simp)
theorem lies_other4 {w1 : World} {b b' : Nat} {vs : Array Value} {x0 x1 x2 x3 : Value} (h : Lies w1 b vs) (hb : b' ≠ b) :
    Lies ((((w1.setCell ⟨b', 0, none⟩ x0).setCell ⟨b', 1, none⟩ x1).setCell ⟨b', 2, none⟩ x2).setCell ⟨b', 3, none⟩ x3) b vs :=
  lies_other (lies_other (lies_other (lies_other h hb) hb) hb) hb
end Go.Proofs.Ytmkelfkbbdfjdaa
