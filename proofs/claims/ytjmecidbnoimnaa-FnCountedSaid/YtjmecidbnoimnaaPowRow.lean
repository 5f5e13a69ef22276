/- Rows of prime powers of the call's own memory, and that eqPowerS of the laws' package finds two rows of one list equal. -/
import Derived.Test.YtjmecidbnoimnaaPow
import Derived.Test.YtjmecidbnoimnaaRow
import Derived.Test.YtjmecidbnoimnaaFactMath
namespace Go.Proofs.Ytjmecidbnoimnaa
open Go.RowKit
set_option linter.unusedVariables false
theorem Try.infoPower : (Try.prog.info? 72).map (fun i => (i.zero, i.size, i.bytes)) = some (some (.agg #[.int .i64 0, .int .i64 0]), 2, 16) := by kernel_rfl
/-- a row of prime powers of the call's own memory -/
def PowRow (base : Nat) (w : World) (v : Value) (l : List (Int × Int)) : Prop := w.ownsRow base 72 2 v l.length (pc l)
theorem powRow_nil (base : Nat) (w : World) : PowRow base w (.slice none 0 0) [] := World.ownsRow_nil _ _ _ _
theorem powRow_made (w : World) (_ : TypeId) : PowRow w.heap.size (w.alloc (.cells #[] 72)) (.slice (some ⟨w.heap.size, 0, none⟩) 0 0) [] :=
  World.ownsRow_made w #[] 0 (Nat.le_refl _) (Nat.zero_le _) rfl
theorem news_two (w : World) (a b : Value) (T : TypeId) : ∀ j u, [a, b][j]? = some u → (w.alloc (.cells #[a, b] T)).cell? ((⟨w.heap.size, 0, none⟩ : Addr).add j) = some u := by
  intro j u h
  match j, h with
  | 0, h => simp at h; subst h; simp [Addr.add]
  | 1, h => simp at h; subst h; simp [Addr.add]
theorem one_two {k l : IntKind} (a b : Int) : ∀ u ∈ [Value.int k a, Value.int l b], u.oneCell' = true := by
  intro u hu; simp at hu; rcases hu with rfl | rfl <;> rfl
theorem powRow_snoc {base : Nat} {w' : World} {v' : Value} {acc : List (Int × Int)} {a b : Int} (h : w'.ownsRow base 72 2 v' (acc.length + 1) (pc acc ++ [.int .i64 a, .int .i64 b])) : PowRow base w' v' (acc ++ [(a, b)]) := by
  unfold PowRow; rw [pc_snoc, List.length_append]; exact h
theorem pow_cells {base : Nat} {w : World} {g c : Nat} {l : List (Int × Int)} (h : PowRow base w (.slice (some ⟨g, 0, none⟩) l.length c) l) :
    ∀ k, k < l.length → w.cell? ⟨g, k * 2, none⟩ = some (.int .i64 (l.getD k (0, 0)).1) ∧ w.cell? ⟨g, k * 2 + 1, none⟩ = some (.int .i64 (l.getD k (0, 0)).2) := by
  intro k hk
  rw [World.ownsRow.cellAt h (k * 2) (by omega), World.ownsRow.cellAt h (k * 2 + 1) (by omega)]
  exact pc_get l k hk
end Go.Proofs.Ytjmecidbnoimnaa
