/- What the laws' marks leave in a row of the call's own memory: cell number o of the row holds the first mark plus o. No conditions. -/
import Derived.WalkKit
import Derived.ProofKit
import Derived.Lib.Hide
import Derived.Test.YtbjkcoajabcibaaRows
namespace Go.Proofs.Ytbjkcoajabcibaa
open Go.RowKit
set_option linter.unusedVariables false
/-- all N cells of block g are there, the first m of them marked from c on; nothing else has turned -/
structure MarkSt (w wr : World) (g N m : Nat) (c : Int) : Prop where
  cells : ∀ o, o < N → ∃ v, wr.cell? ⟨g, o, none⟩ = some v
  marks : ∀ o : Nat, o < m → wr.cell? ⟨g, o, none⟩ = some (.int .i64 (c + o))
  grown : w.grownBy wr (some g)
  size : wr.heap.size = w.heap.size
theorem grownBy_setCellAt (w : World) (g o : Nat) (v : Value) : w.grownBy (w.setCell ⟨g, o, none⟩ v) (some g) :=
  ⟨rfl, rfl, rfl, by simp [World.setCell], fun k _ hne => Below.heap_setCell _ _ _ _ (by intro e; apply hne; rw [e])⟩
theorem grownBy_tr {a b c : World} {row : Option Nat} (h : a.grownBy b row) (k : b.grownBy c row) : a.grownBy c row :=
  ⟨k.os.trans h.os, k.tape.trans h.tape, k.output.trans h.output, Nat.le_trans h.size k.size, fun i hi hne => (k.block i (Nat.lt_of_lt_of_le hi h.size) hne).trans (h.block i hi hne)⟩
theorem markSt_start {w : World} {g N : Nat} {c : Int} (hc : ∀ o, o < N → ∃ v, w.cell? ⟨g, o, none⟩ = some v) : MarkSt w w g N 0 c :=
  ⟨hc, fun o h => absurd h (Nat.not_lt_zero _), ⟨rfl, rfl, rfl, Nat.le_refl _, fun _ _ _ => rfl⟩, rfl⟩
theorem markSt_step {w wr : World} {g N m : Nat} {c q : Int} (h : MarkSt w wr g N m c) (hm : m < N) (hq : q = c + m) :
    MarkSt w (wr.setCell ⟨g, m, none⟩ (.int .i64 q)) g N (m + 1) c := by
  have hs : (wr.setCell ⟨g, m, none⟩ (.int .i64 q)).cell? ⟨g, m, none⟩ = some (.int .i64 q) := by
    obtain ⟨v, hv⟩ := h.cells m hm
    exact World.cell?_setCell_same _ _ _ hv
  have ho : ∀ o, o ≠ m → (wr.setCell ⟨g, m, none⟩ (.int .i64 q)).cell? ⟨g, o, none⟩ = wr.cell? ⟨g, o, none⟩ := fun o hne =>
    World.cell?_setCell_other _ _ _ _ (by intro e; apply hne; exact ((Addr.mk.injEq _ _ _ _ _ _).mp e).2.1.symm)
  refine ⟨fun o hlt => ?_, fun o hlt => ?_, grownBy_tr h.grown (grownBy_setCellAt _ _ _ _), by simp [World.setCell, h.size]⟩
  · by_cases e : o = m
    · subst e; exact ⟨_, hs⟩
    · rw [ho o e]; exact h.cells o hlt
  · by_cases e : o = m
    · subst e; rw [hs, hq]
    · rw [ho o e]; exact h.marks o (by omega)
end Go.Proofs.Ytbjkcoajabcibaa
