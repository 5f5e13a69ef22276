/- Contract of the walk: impl.DigitsOf answers the digits of a number in a row of its own memory, or the code. -/
import Derived.Test.YtjmecidbnoimnaaDigSeq
import Derived.Test.YtjmecidbnoimnaaIntAid
import Derived.Shelf.Abstract
namespace Go.Proofs.Ytjmecidbnoimnaa
open Go.RowKit Go.Shelf
attribute [local go_sem] Oper.semAt_some
set_option linter.unusedVariables false
set_option maxRecDepth 20000
/-- what both DigitsOf answer -/
def digsL (p v u n : Int) : List Int := if padB p v u n then digL p u n.toNat else []
/-- what holds at the head of each round: the box b holds the row of the digits so far -/
def DI (w : World) (b : Nat) (pre : List Int) (W : World) : Prop :=
  ∃ vl, Boxed W b 27 vl ∧ IntRow w.heap.size W vl pre ∧ Below w.heap.size w W
theorem di_put {w W : World} {b k : Nat} {pre : List Int} {o o' : Obj} (h : DI w b pre W) (hb : w.heap.size ≤ k) (hk : W.heap[k]? = some o) (ho : o.isCells = false) : DI w b pre (W.putObj k o') := by
  obtain ⟨vl, h1, h2, h3⟩ := h
  exact ⟨vl, boxed_putB h1 hk ho, ownsRow_putObj h2 _ hk ho, below_putB h3 hb⟩
theorem di_below {w A B : World} {b : Nat} {pre : List Int} (h : DI w b pre A) (hs : StU A B) : DI w b pre B := by
  obtain ⟨vl, h1, h2, h3⟩ := h
  exact ⟨vl, boxed_belowB h1 hs, row_below h2 hs (Nat.le_refl _), h3.trans (hs.mono h3.size)⟩
theorem digs_len {p v u n : Int} {pre : List Int} {x : Int} (h : POk p v u n) (hp : pre ++ [x] <+: digL p u n.toNat) : pre.length ≤ 28 := by
  have := hp.length_le
  rw [digL_length, List.length_append] at this
  have := (pok_bd h).2.2.2.1
  simp at *; omega
end Go.Proofs.Ytjmecidbnoimnaa
