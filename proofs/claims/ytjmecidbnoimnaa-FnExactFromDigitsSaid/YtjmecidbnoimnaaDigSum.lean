/- Contract of the walk: impl.SumOfDigits answers the sum of the digits of a number, or the code. -/
import Derived.Test.YtjmecidbnoimnaaDigList
namespace Go.Proofs.Ytjmecidbnoimnaa
open Go.RowKit Go.Shelf
attribute [local go_sem] Oper.semAt_some
set_option linter.unusedVariables false
set_option maxRecDepth 20000
/-- what both SumOfDigits answer -/
def sumV (p v u n : Int) : Int := if padB p v u n then sumL (digL p u n.toNat) else 0
theorem fold_add_bd {p : Int} : ∀ (l : List Int) (a : Int), (∀ d ∈ l, 0 ≤ d ∧ d < p) → a ≤ l.foldl (· + ·) a ∧ l.foldl (· + ·) a ≤ a + p * l.length := by
  intro l
  induction l with
  | nil => intro a _; simp
  | cons d l ih =>
    intro a h
    obtain ⟨h1, h2⟩ := ih (a + d) fun x hx => h x (List.mem_cons_of_mem _ hx)
    obtain ⟨d0, d1⟩ := h d List.mem_cons_self
    rw [List.foldl_cons, List.length_cons]
    have e : p * ((l.length + 1 : Nat) : Int) = p * l.length + p := by rw [show ((l.length + 1 : Nat) : Int) = (l.length : Int) + 1 by omega, Int.mul_add, Int.mul_one]
    omega
theorem sumL_bd {p : Int} {l : List Int} (hp : p ≤ 97) (hl : l.length ≤ 40) (h : ∀ d ∈ l, 0 ≤ d ∧ d < p) : 0 ≤ sumL l ∧ sumL l ≤ 4000 := by
  obtain ⟨h1, h2⟩ := fold_add_bd (p := 97) l 0 fun d hd => ⟨(h d hd).1, by have := (h d hd).2; omega⟩
  exact ⟨h1, by unfold sumL; omega⟩
theorem sum_pre {p v u n x : Int} {pre : List Int} (h : POk p v u n) (hp : pre ++ [x] <+: digL p u n.toNat) : 0 ≤ sumL pre ∧ sumL pre ≤ 4000 ∧ 0 ≤ x ∧ x ≤ 97 := by
  have hl := digs_len h hp
  obtain ⟨hp2, hp97, _⟩ := pok_bd h
  have hm : ∀ d ∈ pre ++ [x], 0 ≤ d ∧ d < p := fun d hd => digL_bd hp2 (hp.subset hd)
  obtain ⟨a, b⟩ := sumL_bd hp97 (show pre.length ≤ 40 by omega) fun d hd => hm d (by simp [hd])
  obtain ⟨c, d⟩ := hm x (by simp)
  exact ⟨a, b, c, by omega⟩
def SI (w : World) (b : Nat) (pre : List Int) (W : World) : Prop := Boxed W b 2 (.int .i64 (sumL pre)) ∧ Below w.heap.size w W
theorem si_put {w W : World} {b k : Nat} {pre : List Int} {o o' : Obj} (h : SI w b pre W) (hb : w.heap.size ≤ k) (hk : W.heap[k]? = some o) (ho : o.isCells = false) : SI w b pre (W.putObj k o') :=
  ⟨boxed_putB h.1 hk ho, below_putB h.2 hb⟩
theorem si_below {w A B : World} {b : Nat} {pre : List Int} (h : SI w b pre A) (hs : StU A B) : SI w b pre B :=
  ⟨boxed_belowB h.1 hs, h.2.trans (hs.mono h.2.size)⟩
end Go.Proofs.Ytjmecidbnoimnaa
