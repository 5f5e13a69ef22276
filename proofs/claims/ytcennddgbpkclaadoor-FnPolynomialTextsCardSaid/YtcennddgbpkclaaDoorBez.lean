/- Contracts of the walk: spec.l01Bezout and both Bezout answer the numbers of the plain division steps, with Go's wrap of 64 bits; values are integers from -10^12 to 10^12. -/
import Derived.Test.YtcennddgbpkclaaDoorGcd
import Derived.Test.YtcennddgbpkclaaDoorBezMath
namespace Go.Proofs.YtcennddgbpkclaaDoor
open Go.RowKit
set_option linter.unusedVariables false
/-- what holds at the head of a round -/
def BzRel (a b r x y s u v : Int) : Prop :=
  r.natAbs ≤ 1000000000000 ∧ s.natAbs ≤ 1000000000000 ∧ ∃ f, s.natAbs ≤ f ∧ bzF f r x y s u v = bzT a b
theorem bzRel_start {a b : Int} (ha1 : -1000000000000 ≤ a) (ha2 : a ≤ 1000000000000) (hb1 : -1000000000000 ≤ b) (hb2 : b ≤ 1000000000000) : BzRel a b a 1 0 b 0 1 :=
  ⟨by omega, by omega, b.natAbs, Nat.le_refl _, rfl⟩
theorem bzRel_step {a b r x y s u v : Int} (hs : s ≠ 0) (h : BzRel a b r x y s u v) :
    BzRel a b s u v (wrap64 (r - wrap64 (wrap64 (r.tdiv s) * s))) (wrap64 (x - wrap64 (wrap64 (r.tdiv s) * u))) (wrap64 (y - wrap64 (wrap64 (r.tdiv s) * v))) ∧
    (wrap64 (r - wrap64 (wrap64 (r.tdiv s) * s))).natAbs < s.natAbs := by
  obtain ⟨h1, h2, f, h3, h4⟩ := h
  rw [rem_step h1 h2]
  have h5 := tmod_le r s
  refine ⟨⟨h2, by omega, ?_⟩, tmod_lt r hs⟩
  match f, h3, h4 with
  | 0, h3, h4 => omega
  | f + 1, h3, h4 =>
    obtain ⟨e, hl⟩ := bzF_step (r := r) (x := x) (y := y) (u := u) (v := v) hs h3
    exact ⟨f, hl, by rw [← e, h4]⟩
theorem bzRel_end {a b r x y u v : Int} (h : BzRel a b r x y 0 u v) : bzT a b = (r, x, y) := by
  obtain ⟨_, _, f, _, h4⟩ := h; rw [← h4, bzF_zero]
theorem bez_neg {a b r x y u v : Int} (h : BzRel a b r x y 0 u v) (hr : r < 0) : wrap64 (-x) = bezX a b ∧ wrap64 (-y) = bezY a b := by
  have e := bzRel_end h; simp [bezX, bezY, e, hr]
theorem bez_pos {a b r x y u v : Int} (h : BzRel a b r x y 0 u v) (hr : 0 ≤ r) : x = bezX a b ∧ y = bezY a b := by
  have e := bzRel_end h; have : ¬ r < 0 := by omega
  simp [bezX, bezY, e, this]
theorem ret_int2 {k l : IntKind} {a b c d : Int} (h : a = b) (h' : c = d) : Ending.returned (.tuple #[.int k a, .int l c]) = .returned (.tuple #[.int k b, .int l d]) := by rw [h, h']
theorem ret_int3 {k l m : IntKind} {a b c d p q : Int} (h : a = b) (h' : c = d) (h'' : p = q) : Ending.returned (.tuple #[.int k a, .int l c, .int m p]) = .returned (.tuple #[.int k b, .int l d, .int m q]) := by rw [h, h', h'']
end Go.Proofs.YtcennddgbpkclaaDoor
