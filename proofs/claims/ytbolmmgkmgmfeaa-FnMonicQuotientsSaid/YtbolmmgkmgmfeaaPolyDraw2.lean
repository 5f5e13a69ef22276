/- The drawn arguments of chapter 6's laws, law by law. -/
import Derived.Test.YtbolmmgkmgmfeaaPolyDraw
namespace Go.Proofs.Ytbolmmgkmgmfeaa
open Go.RowKit
set_option linter.unusedVariables false
set_option linter.unusedSimpArgs false
/-- what a draw answers: one list, a list and a number, two lists -/
def OneL (w : World) (e : Ending) (w' : World) : Prop := ∃ v l, e = .returned v ∧ IntRow w.heap.size w' v l ∧ l.length ≤ 10 ∧ Below w.heap.size w w'
def NumL (w : World) (e : Ending) (w' : World) : Prop := ∃ v l x, e = .returned (.tuple #[v, .int .i64 x]) ∧ IntRow w.heap.size w' v l ∧ l.length ≤ 10 ∧ -1001 ≤ x ∧ x ≤ 1001 ∧ Below w.heap.size w w'
def TwoL (w : World) (e : Ending) (w' : World) : Prop := ∃ v v' l l', e = .returned (.tuple #[v, v']) ∧ IntRow w.heap.size w' v l ∧ IntRow w.heap.size w' v' l' ∧ l.length ≤ 10 ∧ l'.length ≤ 10 ∧ Below w.heap.size w w'
theorem vs_out {o : Option Addr} {len cap q : Nat} {w w1 w2 : World} {v : Value} {l : List Int} (h : VS o len cap q w1 w2 v l) (hb : Below w.heap.size w w1) (hq : w.heap.size ≤ q) : IntRow w.heap.size w2 v l ∧ Below w.heap.size w w2 :=
  ⟨intRow_lower h.2.2.1 hb.size, hb.grown h.2.1 hb.size (fun k hk => by cases hk; exact hq)⟩
end Go.Proofs.Ytbolmmgkmgmfeaa
