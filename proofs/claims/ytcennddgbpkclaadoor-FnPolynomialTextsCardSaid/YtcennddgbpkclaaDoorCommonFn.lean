/- The walk of the law FnCommon: true for every code; below the old memory nothing has turned. -/
import Derived.Test.YtcennddgbpkclaaDoorCommonLaw
import Derived.OpenShut
namespace Go.Proofs.YtcennddgbpkclaaDoor
open Go.RowKit
set_option linter.unusedVariables false
/-- a slice of integers that came in, as the shells have it -/
def IsRowOf (k : IntKind) (w : World) (a : Option Addr) (len cap : Nat) (zs : List Int) : Prop :=
  (a = none ∧ len = 0 ∧ cap = 0 ∧ zs = []) ∨
  ∃ x, a = some x ∧ len ≤ cap ∧ cap ≤ maxLen ∧ zs.length = cap ∧ (∀ i, i < zs.length → w.cell? (x.add i) = some (.int k (zs.getD i 0))) ∧ ∀ n ∈ zs, (Lit.int k n).wf = true
theorem u8_bd {q : Int} (h : (Lit.int .u8 q).wf = true) : 0 ≤ q ∧ q ≤ 255 := by
  simp [Lit.wf, IntKind.min, IntKind.max, IntKind.signed, IntKind.bits] at h
  exact ⟨h.1, by omega⟩
theorem codeIn_of {w : World} {a : Option Addr} {len cap : Nat} {zs : List Int} (h : IsRowOf .u8 w a len cap zs) : CodeIn w a len ∧ len ≤ 9223372036854775807 := by
  rcases h with ⟨_, h, _, _⟩ | ⟨x, rfl, h1, h2, h3, h4, h5⟩
  · exact ⟨.inl h, by omega⟩
  · refine ⟨?_, by unfold maxLen at h2; omega⟩
    by_cases h0 : len = 0
    · exact .inl h0
    · obtain ⟨b, off, rfl, hc⟩ := ints_at h4 (by omega)
      refine .inr ⟨b, off, rfl, World.block_lt_of_cell? w _ (hc 0 (by omega)), fun i hi => ⟨_, hc i (by omega), ?_⟩⟩
      have hm : zs.getD i 0 ∈ zs := by
        have hlt : i < zs.length := by omega
        rw [show zs.getD i 0 = zs[i] by simp [List.getD, hlt]]; exact List.getElem_mem _
      exact u8_bd (h5 _ hm)
theorem gcd_dvd_tmod (a b : Int) (h : Int.gcd a b ≠ 0) : a.tmod (Int.gcd a b) = 0 ∧ b.tmod (Int.gcd a b) = 0 :=
  ⟨Int.tmod_eq_zero_of_dvd (Int.gcd_dvd_left ..), Int.tmod_eq_zero_of_dvd (Int.gcd_dvd_right ..)⟩
end Go.Proofs.YtcennddgbpkclaaDoor
