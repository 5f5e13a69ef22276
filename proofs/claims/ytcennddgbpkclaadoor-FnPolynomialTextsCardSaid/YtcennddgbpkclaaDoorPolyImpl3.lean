/- Contracts of the walk: chapter 6 in impl: division by x - a, values, shifted polynomials. -/
import Derived.Test.YtcennddgbpkclaaDoorPolyImpl2
namespace Go.Proofs.YtcennddgbpkclaaDoor
open Go.RowKit
set_option linter.unusedVariables false
set_option linter.unusedSimpArgs false
def VBd (l : List Int) : Prop := ∀ i, -1000000000000 ≤ l.getD i 0 ∧ l.getD i 0 ≤ 1000000000000
def KeepB (B : Nat) (W W' : World) : Prop := ∀ w0 : World, w0.heap.size ≤ B → Below w0.heap.size w0 W → Below w0.heap.size w0 W'
theorem keepB_refl (B : Nat) (W : World) : KeepB B W W := fun _ _ h => h
theorem keepB_trans {B : Nat} {W1 W2 W3 : World} (h : KeepB B W1 W2) (h' : KeepB B W2 W3) : KeepB B W1 W3 := fun w0 hw h0 => h' w0 hw (h w0 hw h0)
theorem keepB_set (B k : Nat) (W : World) (v : Value) : KeepB B W (W.setCell ⟨B, k, none⟩ v) := fun w0 hw h => h.setCell hw v
theorem keepB_drew (B : Nat) (W : World) : KeepB B W W.drew := fun w0 hw h => below_drewN h 1
def DivP (F : List Int) (a : Int) (k B : Nat) (W : World) (e : Ending) (W' : World) : Prop :=
  KeepB B W W' ∧ (e = .returned (.bool true) ∧ Nine W' B (shiftP F a (k + 1)) ∧ VBd (shiftP F a (k + 1)) ∨
    e = .returned (.bool false) ∧ ∃ i, k ≤ i ∧ i < 9 ∧ (evalD (shiftP F a k) a (9 - i) < -1000000000000 ∨ 1000000000000 < evalD (shiftP F a k) a (9 - i)))
set_option maxRecDepth 20000
theorem vbd_of {l : List Int} (h : ∀ i, -1000000 ≤ l.getD i 0 ∧ l.getD i 0 ≤ 1000000) : VBd l := fun i => by have := h i; omega
theorem shiftP_one {F : List Int} {x : Int} (h : F.length = 9) : (shiftP F x 1).getD 0 0 = evalD F x 9 := by
  show (tabL F.length _).getD 0 0 = _
  rw [tabL_getD (show 0 < F.length by omega), if_neg (Nat.lt_irrefl 0), h]
  rfl
end Go.Proofs.YtcennddgbpkclaaDoor
