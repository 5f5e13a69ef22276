/- Contracts of the walk: chapter 6 in spec: sums of lists. -/
import Derived.Test.YtgnjhdkkjijiaaaPolySpec3
import Derived.StillTailTactics
import Derived.Deep.DeepCutAuto
namespace Go.Proofs.Ytgnjhdkkjijiaaa
open Go.RowKit
set_option linter.unusedVariables false
set_option linter.unusedSimpArgs false
theorem int_stored {b g n c : Nat} {w : World} {acc : List Int} (h : IntRow b w (.slice (some ⟨g, 0, none⟩) n c) acc) (hn : acc.length = n) (k : Nat) (x : Int) :
    IntRow b (w.setCell ⟨g, k, none⟩ (.int .i64 x)) (.slice (some ⟨g, 0, none⟩) n c) (acc.set k x) := by
  subst hn
  have h2 := (World.ownsRow.stored h k (.int .i64 x)).1
  unfold IntRow
  rw [List.length_set, List.map_set]
  exact h2
theorem int_at {b g n c : Nat} {w : World} {acc : List Int} (h : IntRow b w (.slice (some ⟨g, 0, none⟩) n c) acc) (hn : acc.length = n) {k : Nat} (hk : k < n) : w.cell? ⟨g, k, none⟩ = some (.int .i64 (acc.getD k 0)) := by
  subst hn
  have h2 := World.ownsRow.cellAt h k (by omega)
  rw [h2]; simp [List.getD, hk]
theorem int_frozen {b g n c : Nat} {w : World} {acc : List Int} (h : IntRow b w (.slice (some ⟨g, 0, none⟩) n c) acc) (hn : acc.length = n) (k : Nat) : w.frozen? ⟨g, k, none⟩ = false := by
  subst hn
  exact World.ownsRow.frozenAt h k
theorem tab_set {n k : Nat} {f : Nat → Int} (x : Int) (hk : k < n) : (tabL n f).set k x = tabL n fun i => if i = k then x else f i := by
  refine ext_getD (by rw [List.length_set, tabL_length, tabL_length]) fun i hi => ?_
  rw [List.length_set, tabL_length] at hi
  rw [tabL_getD hi]
  by_cases e : i = k
  · subst e; rw [if_pos rfl]; simp [List.getD, tabL_length, hi]
  · rw [if_neg e, ← tabL_getD (f := f) hi]; simp [List.getD, List.getElem?_set_ne (Ne.symm e)]
theorem tab_zero (n : Nat) : List.replicate n (0 : Int) = tabL n fun _ => 0 := by
  refine ext_getD (by rw [List.length_replicate, tabL_length]) fun i hi => ?_
  rw [List.length_replicate] at hi
  rw [tabL_getD hi]; simp [List.getD, hi]
theorem int_made {w w2 : World} {N : Nat} (h : w2.ownsRow w.heap.size 2 1 (.slice (some ⟨w.heap.size, 0, none⟩) N N) N (madeCells (Value.int .i64 0).cells (N * 1)).toList) :
    IntRow w.heap.size w2 (.slice (some ⟨w.heap.size, 0, none⟩) N N) (tabL N fun _ => 0) := by
  rw [← tab_zero]
  unfold IntRow
  rw [List.length_replicate, List.map_replicate]
  have e : (madeCells (Value.int .i64 0).cells (N * 1)).toList = List.replicate N (Value.int .i64 0) := by
    rw [Nat.mul_one]; exact toList_madeCells_one _ _
  rw [← e]; exact h
theorem add_step {f g : List Int} {kk : Int} {N k : Nat} {y : Int} (hk : k < N) (hy : f.getD k 0 + kk * g.getD k 0 = y) :
    (tabL N fun i => if i < k then f.getD i 0 + kk * g.getD i 0 else 0).set k y = tabL N fun i => if i < k + 1 then f.getD i 0 + kk * g.getD i 0 else 0 := by
  rw [tab_set y hk]
  refine tabL_ext fun i hi => ?_
  by_cases e : i = k
  · subst e; rw [if_pos rfl, if_pos (by omega), hy]
  · rw [if_neg e]
    by_cases h2 : i < k
    · rw [if_pos h2, if_pos (by omega)]
    · rw [if_neg h2, if_neg (by omega)]
set_option maxRecDepth 20000
theorem poly_bf {f : List Int} (h : polyB f = true) : ∀ i, -1000000000000000 ≤ f.getD i 0 ∧ f.getD i 0 ≤ 1000000000000000 := fun i => by have := (polyB_of h).2.1 i; omega
theorem addL_length (f g : List Int) (k : Int) : (addL f g k).length = max f.length g.length := tabL_length _ _
def twoP (f g : List Int) : Bool := polyB f && polyB g
theorem trim_trim (l : List Int) : trimL (trimL l) = trimL l := trimL_self (trimL_last l)
theorem res_trim (l : List Int) : resL (trimL l) = resL l ∧ resC (trimL l) = resC l := by simp [resL, resC, trim_trim]
theorem trim_le {l : List Int} {n : Nat} (h : l.length ≤ n) : (trimL l).length ≤ n := by rw [trimL_length]; have := trimN_le l l.length; omega
end Go.Proofs.Ytgnjhdkkjijiaaa
