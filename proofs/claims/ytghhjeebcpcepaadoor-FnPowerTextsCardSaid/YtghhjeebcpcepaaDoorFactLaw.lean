/- The walk of the law FnExactFactorOf: true for every integer; below the old memory nothing has turned. -/
import Derived.Test.YtghhjeebcpcepaaDoorFact
import Derived.Test.YtghhjeebcpcepaaDoorRow
namespace Go.Proofs.YtghhjeebcpcepaaDoor
open Go.RowKit
set_option linter.unusedVariables false
theorem markPow {b : Nat} {w : World} {v : Value} {l : List (Int × Int)} {q : Int} (h : PowRow b w v l) (hl : l.length ≤ 1000000) (h0 : 0 ≤ q) (h1 : q ≤ 1000000) :
    Calls Tryd.prog 26 #[v, .int .i64 q] w fun e w' => e = .returned (.int .i64 (q + (l.length : Int) * 2)) ∧ MarkedRow w' v l.length 2 q ∧ w.grownBy w' v.ownBlock := by
  rcases row_shape h with ⟨hz, o, c, rfl⟩ | ⟨hz, g, c, rfl, hb, hg⟩
  · refine (markPowerS_nil o c q w).mono fun e w' ⟨he, hw⟩ => ⟨?_, .inl ⟨hz, o, c, rfl⟩, hw ▸ World.grownBy.refl _ _⟩
    rw [he, hz]; exact ret_int (by simp)
  · refine (markPowerS_row g l.length c q w hl h0 h1 (fun o ho => ?_) (fun o => World.ownsRow.frozenAt h o)).mono fun e w' ⟨he, hm, _⟩ => ⟨he, .inr ⟨g, c, rfl, by have := hm.grown.size; omega, hm.marks⟩, hm.grown⟩
    rw [World.ownsRow.cellAt h o ho]
    have : o < (pc l).length := by rw [pc_length]; exact ho
    exact ⟨_, List.getElem?_eq_getElem this⟩
theorem heldPow {w : World} {v : Value} {n : Nat} {q : Int} (h : MarkedRow w v n 2 q) (hl : n ≤ 1000000) (h0 : 0 ≤ q) (h1 : q ≤ 1000000) :
    Calls Tryd.prog 27 #[v, .int .i64 q] w fun e w' => e = .returned (.int .i64 (q + (n : Int) * 2)) ∧ ∃ m, w' = w.drewN m := by
  rcases h with ⟨hz, o, c, rfl⟩ | ⟨g, c, rfl, hg, hc⟩
  · refine (heldPowerS_nil o c q w).mono fun e w' ⟨he, hw⟩ => ⟨?_, 0, hw.symm⟩
    rw [he, hz]; exact ret_int (by simp)
  · exact heldPowerS_row g n c q w hl h0 h1 hc
end Go.Proofs.YtghhjeebcpcepaaDoor
