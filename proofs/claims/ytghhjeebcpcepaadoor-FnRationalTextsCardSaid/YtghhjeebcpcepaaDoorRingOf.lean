/- Contracts of the walk: Ring.check, both IsRing, both ModulusOf, both ReduceTo, both CountUnits, for every argument. -/
import Derived.Test.YtghhjeebcpcepaaDoorRing
import Derived.Test.YtghhjeebcpcepaaDoorRow
import Derived.Deep.RegionHeld3
namespace Go.Proofs.YtghhjeebcpcepaaDoor
open Go.RowKit
set_option linter.unusedVariables false
def ringB (p n : Int) : Bool := decide (ringM p n ≠ 0)
theorem ringB_t {p n : Int} (h : ringM p n ≠ 0) : ringB p n = true := by simp [ringB, h]
theorem ringB_f {p n : Int} (h : ringM p n = 0) : ringB p n = false := by simp [ringB, h]
def ringC (p n : Int) : Int := if ringM p n = 0 then 1 else 0
def resC (p n a : Int) : Int := if ringM p n = 0 then 1 else if 0 ≤ a ∧ a < ringM p n then 0 else 2
theorem below_one {w w1 : World} {o : Obj} (hb : Below (w.alloc o).heap.size (w.alloc o) w1) : Below w.heap.size w w1 :=
  ((Below.refl _ _).alloc (Nat.le_refl _) _).trans (hb.mono (by simp))
theorem cells_two {w w1 : World} {a b : Value} {T : TypeId} (hb : Below (w.alloc (.cells #[a, b] T)).heap.size (w.alloc (.cells #[a, b] T)) w1) :
    w1.cell? ⟨w.heap.size, 0, none⟩ = some a ∧ w1.cell? ⟨w.heap.size, 1, none⟩ = some b := by
  constructor
  · rw [hb.cell (by simp)]; exact World.cell?_alloc_new _ _ _ _ ▸ rfl
  · rw [hb.cell (by simp)]; exact World.cell?_alloc_new _ _ _ _ ▸ rfl
theorem keep_start {w : World} {a b : Value} {T : TypeId} (n : Nat) :
    Below w.heap.size w ((w.alloc (.cells #[a, b] T)).drewN n) ∧ ((w.alloc (.cells #[a, b] T)).drewN n).cell? ⟨w.heap.size, 0, none⟩ = some a ∧ ((w.alloc (.cells #[a, b] T)).drewN n).cell? ⟨w.heap.size, 1, none⟩ = some b :=
  ⟨below_drewN ((Below.refl _ _).alloc (Nat.le_refl _) _) _, World.cell?_alloc_new _ _ _ _ ▸ rfl, World.cell?_alloc_new _ _ _ _ ▸ rfl⟩
theorem keep_next {w w1 w2 : World} {a b : Value} (h : Below w.heap.size w w1 ∧ w1.cell? ⟨w.heap.size, 0, none⟩ = some a ∧ w1.cell? ⟨w.heap.size, 1, none⟩ = some b) (hb : Below w1.heap.size w1 w2) :
    Below w.heap.size w w2 ∧ w2.cell? ⟨w.heap.size, 0, none⟩ = some a ∧ w2.cell? ⟨w.heap.size, 1, none⟩ = some b := by
  have hlt := World.block_lt_of_cell? _ _ h.2.1
  exact ⟨h.1.trans (hb.mono h.1.size), by rw [hb.cell (p := ⟨w.heap.size, 0, none⟩) hlt]; exact h.2.1, by rw [hb.cell (p := ⟨w.heap.size, 1, none⟩) hlt]; exact h.2.2⟩
theorem keep_first {w w1 : World} {a b : Value} {T : TypeId} (hb : Below (w.alloc (.cells #[a, b] T)).heap.size (w.alloc (.cells #[a, b] T)) w1) :
    Below w.heap.size w w1 ∧ w1.cell? ⟨w.heap.size, 0, none⟩ = some a ∧ w1.cell? ⟨w.heap.size, 1, none⟩ = some b := ⟨below_one hb, cells_two hb⟩
theorem ring_two {w w1 w2 : World} (h1 : Below w.heap.size w w1) (h2 : Below w1.heap.size w1 w2) : Below w.heap.size w w2 := h1.trans (h2.mono h1.size)
end Go.Proofs.YtghhjeebcpcepaaDoor
