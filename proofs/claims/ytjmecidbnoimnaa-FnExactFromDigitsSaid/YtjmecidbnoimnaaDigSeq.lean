/- Contract of the walk: the iterator digits of a valid number hands on its digits, one by one; it keeps all that lay, and asks of a round only that its own block stays. -/
import Derived.RangeFuncNested
import Derived.RangeFuncBound
import Derived.RangeFuncCalls
import Derived.RangeFuncLeaves
import Derived.RangeFuncBox
import Derived.WalkKit
import Derived.OwnWalkIn
import Derived.TacticsInMore
import Derived.LoopNIn
import Derived.LoopIn
import Derived.Test.YtjmecidbnoimnaaRangeB
import Derived.Test.YtjmecidbnoimnaaDigMath
import Derived.Test.YtjmecidbnoimnaaRow
namespace Go.Proofs.Ytjmecidbnoimnaa
open Go.RowKit
set_option linter.unusedVariables false
set_option maxRecDepth 20000
/-- a box, and what lay before, behind a step of the loop's own record -/
theorem boxed_putB {W : World} {j k : Nat} {t : TypeId} {v : Value} {o o' : Obj} (h : Boxed W j t v) (hk : W.heap[k]? = some o) (ho : o.isCells = false) : Boxed (W.putObj k o') j t v := by
  have hne : j ≠ k := by
    rintro rfl
    have h' : W.heap[j]? = some (Obj.cells #[v] t (0, 0)) := h
    rw [h'] at hk; cases hk; cases ho
  exact (World.putObj_heap_other hne).trans h
theorem below_putB {b k : Nat} {w W : World} {o' : Obj} (h : Below b w W) (hk : b ≤ k) : Below b w (W.putObj k o') :=
  ⟨h.os, h.tape, h.output, by have := h.size; simp [World.putObj]; omega, fun j hj => (World.putObj_heap_other (by omega)).trans (h.block j hj)⟩
theorem boxed_belowB {W w2 : World} {j : Nat} {t : TypeId} {v : Value} (h : Boxed W j t v) (hb : Below W.heap.size W w2) : Boxed w2 j t v := (hb.block j h.lt).trans h
theorem keeps_belowB {W w2 : World} (hb : Below W.heap.size W w2) : KeepsOthers W w2 :=
  ⟨hb.size, fun k o hk _ => (hb.block k (Array.getElem?_eq_some_iff.1 hk).1).trans hk⟩
/-- a number lies in block b -/
def PadAt (w : World) (b : Nat) (p v u n : Int) : Prop := w.heap[b]? = some (.cells (P4 p v u n) 34 (0, 0))
theorem padAt_four {w : World} {b : Nat} {p v u n : Int} (h : PadAt w b p v u n) :
    w.cell? ⟨b, 0, none⟩ = some (.int .i64 p) ∧ w.cell? ⟨b, 1, none⟩ = some (.int .i64 v) ∧ w.cell? ⟨b, 2, none⟩ = some (.int .i64 u) ∧ w.cell? ⟨b, 3, none⟩ = some (.int .i64 n) := by
  have h' : w.heap[b]? = _ := h
  refine ⟨?_, ?_, ?_, ?_⟩ <;> simp [World.cell?, h']
/-- an iterator's own steps only add memory -/
abbrev StU (A B : World) : Prop := Below A.heap.size A B
/-- numbers that lie stay -/
def FrP (A B : World) : Prop := ∀ (b : Nat) (vs : Array Value) (z : Nat × Nat), A.heap[b]? = some (.cells vs 34 z) → B.heap[b]? = A.heap[b]?
theorem frP_refl (A : World) : FrP A A := fun _ _ _ _ => rfl
theorem frP_trans {A B C : World} (h : FrP A B) (k : FrP B C) : FrP A C := fun b vs z hb => by
  have e := h b vs z hb
  exact (k b vs z (e.trans hb)).trans e
theorem frP_put {A W : World} {k : Nat} {o o' : Obj} (h : FrP A W) (hk : W.heap[k]? = some o) (ho : o.isCells = false) : FrP A (W.putObj k o') := by
  intro b vs z hb
  have e := h b vs z hb
  refine (World.putObj_heap_other ?_).trans e
  rintro rfl
  rw [e, hb] at hk; cases hk; cases ho
theorem frP_below {A B : World} (h : Below A.heap.size A B) : FrP A B := fun b vs z hb => h.block b (Array.getElem?_eq_some_iff.1 hb).1
theorem frP_set {A : World} {j : Nat} {t : TypeId} {v : Value} (u : Value) (h : Boxed A j t v) (ht : t ≠ 34) : FrP A (A.setCell ⟨j, 0, none⟩ u) := by
  intro b vs z hb
  refine Below.heap_setCell _ _ _ _ ?_
  intro e
  have h' : A.heap[j]? = some (Obj.cells #[v] t (0, 0)) := h
  rw [show b = j from e, h'] at hb
  simp at hb
  exact ht hb.2.1
theorem frP_row {A B : World} {base n sz : Nat} {T : TypeId} {v : Value} {xs : List Value} (hr : A.ownsRow base T sz v n xs) (hT : T ≠ 34) (hg : A.grownBy B v.ownBlock) : FrP A B := by
  intro b vs z hb
  refine hg.block b (Array.getElem?_eq_some_iff.1 hb).1 ?_
  intro e
  rcases hr.2 with ⟨rfl, _⟩ | ⟨g, cap, cur, rfl, _, hgb, _⟩
  · cases e
  · obtain rfl : b = g := by simpa [Value.ownBlock] using e
    rw [hgb] at hb
    simp at hb
    exact hT hb.2.1
theorem digL_prefix (p u : Int) {i n : Nat} (h : i ≤ n) : digL p u i <+: digL p u n := by
  obtain ⟨d, rfl⟩ := Nat.exists_eq_add_of_le h
  clear h
  induction d with
  | zero => exact List.prefix_refl _
  | succ d ih => rw [← Nat.add_assoc, digL_succ]; exact ih.trans (List.prefix_append _ _)
/-- one step of the digits -/
theorem dig_step {p u : Int} (hp2 : 2 ≤ p) (hp97 : p ≤ 97) (hu0 : 0 ≤ u) (hu2 : u ≤ 1000000000) (I : Nat) :
    ∃ a : Int, u / pw p (I : Int) = a ∧ 0 ≤ a ∧ a ≤ 1000000000 ∧ a.tmod p = a % p ∧ a.tdiv p = a / p ∧ IntKind.i64.wrap (a % p) = a % p ∧ IntKind.i64.wrap (a / p) = a / p ∧ u / pw p ((I + 1 : Nat) : Int) = a / p ∧ digL p u (I + 1) = digL p u I ++ [a % p] := by
  have g := pw_ge1 (p := p) (a := (I : Int)) hp2
  have a0 : 0 ≤ u / pw p (I : Int) := Int.ediv_nonneg hu0 (by omega)
  have a1 : u / pw p (I : Int) ≤ u := Int.ediv_le_self _ hu0
  refine ⟨_, rfl, a0, by omega, tmod_nonneg a0, Int.tdiv_eq_ediv_of_nonneg a0, ?_, ?_, ?_, digL_succ p u I⟩
  · have := Int.emod_nonneg (u / pw p (I : Int)) (show p ≠ 0 by omega)
    have := Int.emod_lt_of_pos (u / pw p (I : Int)) (show 0 < p by omega)
    exact IntWalk.i64_in _ (by omega)
  · have := Int.ediv_nonneg a0 (show 0 ≤ p by omega)
    have := Int.ediv_le_self p a0
    exact IntWalk.i64_in _ (by omega)
  · have e := pw_add (p := p) (a := (I : Int)) (b := 1) (by omega) (by omega)
    rw [pw_one] at e
    rw [show ((I + 1 : Nat) : Int) = (I : Int) + 1 by omega, e, Int.ediv_ediv_of_nonneg (by omega)]
end Go.Proofs.Ytjmecidbnoimnaa
