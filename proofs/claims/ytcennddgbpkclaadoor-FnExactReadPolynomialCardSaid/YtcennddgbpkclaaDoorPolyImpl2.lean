/- Contracts of the walk: chapter 6 in impl: sums, products, derivatives, lists turned round, contents. -/
import Derived.Test.YtcennddgbpkclaaDoorPolyImpl
import Derived.Deep.WholeRow
namespace Go.Proofs.YtcennddgbpkclaaDoor
open Go.RowKit
set_option linter.unusedVariables false
set_option linter.unusedSimpArgs false
/-- sum on the way: k entries of the second list are added -/
def addW (f g : List Int) (k : Nat) : List Int := tabL 9 fun i => f.getD i 0 + (if i < k then g.getD i 0 else 0)
theorem addW_zero (f g : List Int) : addW f g 0 = padL f := tabL_ext fun i _ => by rw [if_neg (by omega), Int.add_zero]
theorem addW_length (f g : List Int) (k : Nat) : (addW f g k).length = 9 := tabL_length _ _
theorem addW_at {f g : List Int} {k : Nat} (hk : k < 9) : (addW f g k).getD k 0 = f.getD k 0 := by
  unfold addW; rw [tabL_getD hk, if_neg (Nat.lt_irrefl _), Int.add_zero]
theorem addW_step {f g : List Int} {k : Nat} (hk : k < 9) : (addW f g k).set k (f.getD k 0 + g.getD k 0) = addW f g (k + 1) := by
  unfold addW
  rw [tab_set _ hk]
  refine tabL_ext fun i hi => ?_
  by_cases e : i = k
  · subst e; rw [if_pos rfl, if_pos (by omega)]
  · rw [if_neg e]
    by_cases h2 : i < k
    · rw [if_pos h2, if_pos (by omega)]
    · rw [if_neg h2, if_neg (by omega)]
theorem addW_end {f g : List Int} (hf : f.length ≤ 9) (hg : g.length ≤ 9) : trimL (addW f g g.length) = trimL (addL f g 1) := by
  rw [← add_pad hf hg]
  refine congrArg trimL (tabL_ext fun i _ => ?_)
  by_cases h : i < g.length
  · rw [if_pos h]
  · rw [if_neg h, getD_out (l := g) (by omega)]
theorem store_new (W : World) {F : List Int} (h : F.length = 9) :
    (storeCells ⟨W.heap.size, 0, none⟩ (arrV F).toList 0).run Tryd.prog (W.alloc (.cells #[.int .i64 0, .int .i64 0, .int .i64 0, .int .i64 0, .int .i64 0, .int .i64 0, .int .i64 0, .int .i64 0, .int .i64 0] 40)) = .ok () (W.alloc (.cells (arrV F) 40)) :=
  run_storeCells_new W 40 _ (arrV F) (by rw [arrV_size, h]; exact Tryd.infoCo) (by rw [arrV_size, h]; rfl) (arrV_one F)
/-- a block of zeros -/
theorem zero_new (W : World) : Nine (W.alloc (.cells #[.int .i64 0, .int .i64 0, .int .i64 0, .int .i64 0, .int .i64 0, .int .i64 0, .int .i64 0, .int .i64 0, .int .i64 0] 40)) W.heap.size (tabL 9 fun _ => 0) :=
  nine_new W (tabL 9 fun _ => 0) 40 (tabL_length _ _)
def derW (f : List Int) (k : Nat) : List Int := tabL 9 fun j => if j + 1 < k then ((j : Int) + 1) * f.getD (j + 1) 0 else 0
theorem derW_one (f : List Int) : derW f 1 = tabL 9 fun _ => 0 := tabL_ext fun i _ => by rw [if_neg (by omega)]
theorem derW_step {f : List Int} {k m : Nat} (hk : k < 9) (hm : m + 1 = k) : (derW f k).set m ((k : Int) * f.getD k 0) = derW f (k + 1) := by
  unfold derW
  rw [tab_set _ (by omega)]
  refine tabL_ext fun i hi => ?_
  by_cases e : i = m
  · subst e; rw [if_pos rfl, if_pos (by omega), ← hm]; push_cast; rfl
  · rw [if_neg e]
    by_cases h2 : i + 1 < k
    · rw [if_pos h2, if_pos (by omega)]
    · rw [if_neg h2, if_neg (by omega)]
theorem derW_end {f : List Int} {k : Nat} (hf : f.length ≤ 9) (hk : k = f.length ∨ k = 1 ∧ f.length = 0) : trimL (derW f k) = trimL (derL f) := by
  rw [← der_pad hf]
  refine congrArg trimL (tabL_ext fun i _ => ?_)
  rcases hk with rfl | ⟨rfl, h⟩
  · rfl
  · rw [if_neg (by omega), if_neg (by omega)]
def revW (f : List Int) (k : Nat) : List Int := tabL 9 fun j => if f.length ≤ j + k ∧ j < f.length then f.getD (f.length - 1 - j) 0 else 0
theorem revW_zero (f : List Int) : revW f 0 = tabL 9 fun _ => 0 := tabL_ext fun i _ => by rw [if_neg (by omega)]
theorem revW_step {f : List Int} {k m : Nat} (hf : f.length ≤ 9) (hm : m + k + 1 = f.length) : (revW f k).set m (f.getD k 0) = revW f (k + 1) := by
  unfold revW
  rw [tab_set _ (by omega)]
  refine tabL_ext fun i hi => ?_
  by_cases e : i = m
  · subst e; rw [if_pos rfl, if_pos (by omega), show f.length - 1 - i = k by omega]
  · rw [if_neg e]
    by_cases h2 : f.length ≤ i + k ∧ i < f.length
    · rw [if_pos h2, if_pos (by omega)]
    · rw [if_neg h2, if_neg (by omega)]
theorem revW_end {f : List Int} (hf : f.length ≤ 9) : trimL (revW f f.length) = trimL (revL f) := by
  rw [← rev_pad hf]
  refine congrArg trimL (tabL_ext fun i _ => ?_)
  by_cases h : i < f.length
  · rw [if_pos ⟨by omega, h⟩, if_pos h]
  · rw [if_neg (by omega), if_neg h]
end Go.Proofs.YtcennddgbpkclaaDoor
