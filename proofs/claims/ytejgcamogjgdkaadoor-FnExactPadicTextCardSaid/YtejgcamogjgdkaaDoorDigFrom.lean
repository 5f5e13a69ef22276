/- Contracts of the walk: impl.FromDigits answers the number with these digits, or the code. -/
import Derived.Test.YtejgcamogjgdkaaDoorDigImpl
import Derived.Test.YtejgcamogjgdkaaDoorDigSeq
import Derived.Test.YtejgcamogjgdkaaDoorIntAid
import Derived.Shelf.Abstract
namespace Go.Proofs.YtejgcamogjgdkaaDoor
open Go.RowKit Go.Shelf
attribute [local go_sem] Oper.semAt_some
set_option linter.unusedVariables false
set_option linter.unusedSimpArgs false
def digB (p d : Int) : Bool := inB d 0 (p - 1)
theorem all_bad {f : Int → Bool} {l : List Int} {k : Nat} (hk : k < l.length) (h : f (l.getD k 0) = false) : l.all f = false := by
  cases ha : l.all f
  · rfl
  · rw [List.all_eq_true] at ha
    have e : l.getD k 0 = l[k] := by simp [List.getD, hk]
    rw [e, ha _ (List.getElem_mem hk)] at h; cases h
theorem all_good {f : Int → Bool} {l : List Int} (h : ∀ j, j < l.length → f (l.getD j 0) = true) : l.all f = true := by
  rw [List.all_eq_true]
  intro x hx
  obtain ⟨i, hi, e⟩ := List.getElem_of_mem hx
  have := h i hi
  rw [show l.getD i 0 = l[i] by simp [List.getD, hi], e] at this
  exact this
/-- the elements of a list from its end on, with their indices -/
def bk (l : List Int) (j : Nat) : List (Nat × Int) := (List.range j).map fun (i : Nat) => (l.length - 1 - i, l.getD (l.length - 1 - i) 0)
theorem bk_length (l : List Int) (j : Nat) : (bk l j).length = j := by simp [bk]
theorem bk_succ (l : List Int) (j : Nat) : bk l (j + 1) = bk l j ++ [(l.length - 1 - j, l.getD (l.length - 1 - j) 0)] := by
  unfold bk; rw [List.range_succ, List.map_append]; rfl
/-- what the iterator reads: the box of its list, and the list's row -/
def FrD (g b : Nat) (A B : World) : Prop := ∀ k, k = g ∨ k = b → B.heap[k]? = A.heap[k]?
def BackAt (g b c : Nat) (l : List Int) (W : World) : Prop :=
  Boxed W b 41 (.slice (some ⟨g, 0, none⟩) l.length c) ∧ ∀ k, k < l.length → W.cell? ⟨g, k, none⟩ = some (.int .i64 (l.getD k 0))
theorem backAt_kept {g b c : Nat} {l : List Int} {A B : World} (h : BackAt g b c l A) (hf : FrD g b A B) : BackAt g b c l B :=
  ⟨(hf b (.inr rfl)).trans h.1, fun k hk => by rw [World.cell?_of_block (w := A) (a := ⟨g, k, none⟩) (hf g (.inl rfl))]; exact h.2 k hk⟩
end Go.Proofs.YtejgcamogjgdkaaDoor
