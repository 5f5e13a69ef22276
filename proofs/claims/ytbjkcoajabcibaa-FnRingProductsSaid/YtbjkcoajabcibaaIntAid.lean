/- Lists of int64 in rows of the call's own memory: an append makes the row longer; what a function that answers a list and a code gives. -/
import Derived.Test.YtbjkcoajabcibaaInts
namespace Go.Proofs.Ytbjkcoajabcibaa
open Go.RowKit
set_option linter.unusedVariables false
theorem Try.infoInt64 : (Try.prog.info? 2).map (fun i => (i.zero, i.size, i.bytes)) = some (some (.int .i64 0), 1, 8) := by kernel_rfl
theorem row_slice {w : World} {base : Nat} {T : TypeId} {sz : Nat} {v : Value} {n : Nat} {xs : List Value} (h : w.ownsRow base T sz v n xs) : ∃ o c, v = .slice o n c := by
  rcases row_shape h with ⟨h0, o, c, rfl⟩ | ⟨_, g, c, rfl, _⟩
  · exact ⟨o, c, by rw [h0]⟩
  · exact ⟨_, c, rfl⟩
def IntPost (l : List Int) (c : Int) (w : World) (e : Ending) (w' : World) : Prop :=
  ∃ v, e = .returned (.tuple #[v, .int .i64 c]) ∧ IntRow w.heap.size w' v l ∧ Below w.heap.size w w'
theorem intRow_nil (base : Nat) (w : World) : IntRow base w (.slice none 0 0) [] := World.ownsRow_nil _ _ _ _
theorem intRow_made (w : World) : IntRow w.heap.size (w.alloc (.cells #[] 2)) (.slice (some ⟨w.heap.size, 0, none⟩) 0 0) [] :=
  World.ownsRow_made w #[] 0 (Nat.le_refl _) (Nat.zero_le _) rfl
theorem intRow_snoc {base : Nat} {w' : World} {v' : Value} {acc : List Int} {a : Int} (h : w'.ownsRow base 2 1 v' (acc.length + 1) (acc.map (Value.int .i64) ++ [.int .i64 a])) : IntRow base w' v' (acc ++ [a]) := by
  unfold IntRow; rw [List.map_append, List.length_append]; exact h
theorem below_appendI {W wr w' : World} {v : Value} {o : Obj} {acc : List Int} (hb : Below W.heap.size W wr) (hW : IntRow W.heap.size wr v acc) (hg : (wr.alloc o).grownBy w' v.ownBlock) : Below W.heap.size W w' :=
  (hb.alloc hb.size o).grown hg (by simp; have := hb.size; omega) (fun k hk => (World.ownsRow.lt hW k hk).1)
theorem news_one (w : World) (a : Value) (T : TypeId) : ∀ j u, [a][j]? = some u → (w.alloc (.cells #[a] T)).cell? ((⟨w.heap.size, 0, none⟩ : Addr).add j) = some u := by
  intro j u h
  match j, h with
  | 0, h => simp at h; subst h; simp [Addr.add]
theorem one_one {k : IntKind} (a : Int) : ∀ u ∈ [Value.int k a], u.oneCell' = true := by
  intro u hu; simp at hu; subst hu; rfl
end Go.Proofs.Ytbjkcoajabcibaa
