/- Contracts of the walk: chapter 4 in spec: the digits of a number, their sum, and both functions that answer them. -/
import Derived.Test.YtjmecidbnoimnaaDigList
import Derived.Test.YtjmecidbnoimnaaDigSum
import Derived.Test.YtjmecidbnoimnaaDigSpec
namespace Go.Proofs.Ytjmecidbnoimnaa
open Go.RowKit
set_option linter.unusedVariables false
set_option maxRecDepth 20000
set_option linter.unusedSimpArgs false
theorem padAt_keep {A B : World} {b : Nat} {p v u n : Int} (h : PadAt A b p v u n) (hf : FrP A B) : PadAt B b p v u n := (hf _ _ _ h).trans h
theorem row_lower {w : World} {b b' : Nat} {T : TypeId} {sz : Nat} {v : Value} {n : Nat} {xs : List Value} (h : w.ownsRow b' T sz v n xs) (hle : b ≤ b') : w.ownsRow b T sz v n xs :=
  ⟨h.1, h.2.imp id fun ⟨g, cap, cur, e, hb, rest⟩ => ⟨g, cap, cur, e, Nat.le_trans hle hb, rest⟩⟩
theorem row_form {base : Nat} {w : World} {v : Value} {l : List Int} (h : IntRow base w v l) :
    ∃ o g c, v = .slice o l.length c ∧ (0 < l.length → o = some ⟨g, 0, none⟩) ∧ ∀ k, k < l.length → w.cell? ⟨g, k, none⟩ = some (.int .i64 (l.getD k 0)) := by
  rcases row_shape h with ⟨h0, o, c, rfl⟩ | ⟨h0, g, c, rfl, hb, hg⟩
  · exact ⟨o, 0, c, by rw [h0], fun h => by omega, fun k hk => by omega⟩
  · exact ⟨_, g, c, rfl, fun _ => rfl, int_cells h⟩
theorem digL_all {p v u n : Int} (h : POk p v u n) : (digL p u n.toNat).length ≤ 40 ∧ ∀ d ∈ digL p u n.toNat, 0 ≤ d ∧ d < 97 := by
  obtain ⟨hp2, hp97, hn0, hn1, _⟩ := pok_bd h
  refine ⟨by rw [digL_length]; omega, fun d hd => ?_⟩
  have := digL_bd hp2 hd
  omega
end Go.Proofs.Ytjmecidbnoimnaa
