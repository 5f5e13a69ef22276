/- Plain mathematics of dividing a number out: how often p divides n, and what remains. Conditions: n is not 0, p is at least 2. -/
import Derived.Test.YtbjkcoajabcibaaBezMath
namespace Go.Proofs.Ytbjkcoajabcibaa
open Go.RowKit
set_option linter.unusedVariables false
def vF : Nat → Int → Int → Int → Int × Int
  | 0, n, _, c => (c, n)
  | f + 1, n, p, c => if n.tmod p = 0 then vF f (n.tdiv p) p (c + 1) else (c, n)
def vT (n p : Int) : Int × Int := vF n.natAbs n p 0
def valCount (n p : Int) : Int := (vT n p).1
def valRest (n p : Int) : Int := (vT n p).2
def VRel (n0 p n c : Int) : Prop :=
  n ≠ 0 ∧ 0 ≤ c ∧ c + n.natAbs ≤ n0.natAbs ∧ n.natAbs ≤ 1000000000000 ∧ (0 < n0 → 0 < n) ∧ ∃ f, n.natAbs ≤ f ∧ vF f n p c = vT n0 p
theorem vRel_start {n p : Int} (h0 : n ≠ 0) (h1 : n.natAbs ≤ 1000000000000) : VRel n p n 0 :=
  ⟨h0, by omega, by omega, h1, fun h => h, n.natAbs, Nat.le_refl _, rfl⟩
theorem tdiv_props {n p : Int} (hp : 2 ≤ p) (h0 : n ≠ 0) (h : n.tmod p = 0) : n.tdiv p ≠ 0 ∧ (n.tdiv p).natAbs + 1 ≤ n.natAbs ∧ (0 < n → 0 < n.tdiv p) := by
  have e := Int.tmod_add_mul_tdiv n p
  rw [h] at e
  have hq : n.tdiv p ≠ 0 := by intro hz; rw [hz] at e; omega
  have hs : 0 < n → 0 < n.tdiv p := by
    intro hn
    have : 0 ≤ n.tdiv p := Int.tdiv_nonneg (by omega) (by omega)
    omega
  refine ⟨hq, ?_, hs⟩
  have e2 : n.natAbs = p.natAbs * (n.tdiv p).natAbs := by rw [← Int.natAbs_mul]; congr 1; omega
  have : 2 * (n.tdiv p).natAbs ≤ p.natAbs * (n.tdiv p).natAbs := Nat.mul_le_mul_right _ (by omega)
  omega
theorem vRel_step {n0 p n c : Int} (hp : 2 ≤ p) (h : VRel n0 p n c) (hm : n.tmod p = 0) :
    VRel n0 p (n.tdiv p) (c + 1) ∧ (n.tdiv p).natAbs < n.natAbs := by
  obtain ⟨h1, h2, h3, h4, h5, f, h6, h7⟩ := h
  obtain ⟨t1, t2, t3⟩ := tdiv_props hp h1 hm
  refine ⟨?_, by omega⟩
  match f, h6, h7 with
  | 0, h6, h7 => omega
  | f + 1, h6, h7 =>
    rw [vF, if_pos hm] at h7
    exact ⟨t1, by omega, by omega, by omega, fun h => t3 (h5 h), f, by omega, h7⟩
theorem vRel_end {n0 p n c : Int} (h : VRel n0 p n c) (hm : n.tmod p ≠ 0) : c = valCount n0 p ∧ n = valRest n0 p := by
  obtain ⟨h1, h2, h3, h4, h5, f, h6, h7⟩ := h
  match f, h6, h7 with
  | 0, h6, h7 => omega
  | f + 1, h6, h7 =>
    rw [vF, if_neg hm] at h7
    simp [valCount, valRest, ← h7]
/-- what both ValuationOf answer: the number and the code -/
def valC (n p : Int) : Int := if smallB p then (if valueB n then (if n = 0 then 5 else 0) else 2) else 1
def valV (n p : Int) : Int := if smallB p then (if valueB n then (if n = 0 then 0 else valCount n p) else 0) else 0
theorem smallB_bd {p : Int} (h : smallB p = true) : 2 ≤ p ∧ p ≤ 97 := by
  unfold smallB inB at h; simp at h; exact ⟨h.1.1, h.1.2⟩
end Go.Proofs.Ytbjkcoajabcibaa
