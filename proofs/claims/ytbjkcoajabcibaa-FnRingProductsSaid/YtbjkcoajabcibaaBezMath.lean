/- Plain mathematics of Bezout's division steps with Go's wrap of 64 bits: what they compute, and that the numbers found satisfy Bezout's equation in 64-bit arithmetic. Conditions: values from -10^12 to 10^12. -/
import Derived.IntWalk
import Derived.Test.YtbjkcoajabcibaaMath
namespace Go.Proofs.Ytbjkcoajabcibaa
open Go.RowKit
set_option linter.unusedVariables false
/-- the division steps, f at most: the first pair at the end -/
def bzF : Nat → Int → Int → Int → Int → Int → Int → Int × Int × Int
  | 0, r, x, y, _, _, _ => (r, x, y)
  | f + 1, r, x, y, s, u, v =>
    if s = 0 then (r, x, y)
    else bzF f s u v (r.tmod s) (wrap64 (x - wrap64 (wrap64 (r.tdiv s) * u))) (wrap64 (y - wrap64 (wrap64 (r.tdiv s) * v)))
def bzT (a b : Int) : Int × Int × Int := bzF b.natAbs a 1 0 b 0 1
def bezX (a b : Int) : Int := if (bzT a b).1 < 0 then wrap64 (-(bzT a b).2.1) else (bzT a b).2.1
def bezY (a b : Int) : Int := if (bzT a b).1 < 0 then wrap64 (-(bzT a b).2.2) else (bzT a b).2.2
theorem bzF_zero (f : Nat) (r x y u v : Int) : bzF f r x y 0 u v = (r, x, y) := by cases f <;> simp [bzF]
theorem wrap64_small {n : Int} (h : n.natAbs ≤ 4000000000000000000) : wrap64 n = n := IntWalk.wrap64_in n ⟨by omega, by omega⟩
theorem tdiv_le (r s : Int) : (r.tdiv s).natAbs ≤ r.natAbs := by rw [Int.natAbs_tdiv]; exact Nat.div_le_self _ _
/-- the walk's spelling of the remainder -/
theorem rem_step {r s : Int} (hr : r.natAbs ≤ 1000000000000) (hs : s.natAbs ≤ 1000000000000) :
    wrap64 (r - wrap64 (wrap64 (r.tdiv s) * s)) = r.tmod s := by
  have h1 := tdiv_le r s
  rw [wrap64_small (by omega : (r.tdiv s).natAbs ≤ _)]
  have h2 := Int.tmod_add_mul_tdiv r s
  have h3 := tmod_le r s
  have h4 : r.tdiv s * s = r - r.tmod s := by rw [Int.mul_comm]; omega
  rw [h4, wrap64_small (n := r - r.tmod s) (by omega), wrap64_small (by omega)]; omega
theorem bzF_step {f : Nat} {r x y s u v : Int} (hs : s ≠ 0) (hf : s.natAbs ≤ f + 1) :
    bzF (f + 1) r x y s u v = bzF f s u v (r.tmod s) (wrap64 (x - wrap64 (wrap64 (r.tdiv s) * u))) (wrap64 (y - wrap64 (wrap64 (r.tdiv s) * v))) ∧ (r.tmod s).natAbs ≤ f := by
  refine ⟨by rw [bzF, if_neg hs], ?_⟩
  have := tmod_lt r hs; omega
/-- equal in 64 bits -/
def Cg (p q : Int) : Prop := ∃ k : Int, p = q + k * 18446744073709551616
theorem wrap64_cg (n : Int) : Cg (wrap64 n) n := by
  refine ⟨-((n + 9223372036854775808) / 18446744073709551616), ?_⟩
  unfold wrap64; omega
theorem Cg.eq_small {p q : Int} (h : Cg p q) (hp : p.natAbs ≤ 4000000000000000000) (hq : q.natAbs ≤ 4000000000000000000) : p = q := by
  obtain ⟨k, h⟩ := h; omega
theorem wrap64_of_cg {p q : Int} (h : Cg p q) (hq : q.natAbs ≤ 4000000000000000000) : wrap64 p = q := by
  obtain ⟨k, h⟩ := h; unfold wrap64; omega
theorem cg_lin {a b x y q u v r s x1 x2 y1 y2 : Int} (h1 : Cg (a * x + b * y) r) (h2 : Cg (a * u + b * v) s)
    (e1 : Cg x1 (q * u)) (e2 : Cg x2 (x - x1)) (e3 : Cg y1 (q * v)) (e4 : Cg y2 (y - y1)) : Cg (a * x2 + b * y2) (r - q * s) := by
  obtain ⟨k1, h1⟩ := h1; obtain ⟨k2, h2⟩ := h2; obtain ⟨k3, rfl⟩ := e1; obtain ⟨k4, rfl⟩ := e2; obtain ⟨k5, rfl⟩ := e3; obtain ⟨k6, rfl⟩ := e4
  refine ⟨k1 - q * k2 - a * k3 + a * k4 - b * k5 + b * k6, ?_⟩
  grind
theorem bzF_inv (a b : Int) : ∀ (f : Nat) (r x y s u v : Int), s.natAbs ≤ f → r.natAbs ≤ 1000000000000 → s.natAbs ≤ 1000000000000 →
    Cg (a * x + b * y) r → Cg (a * u + b * v) s → Int.gcd r s = Int.gcd a b →
    (bzF f r x y s u v).1.natAbs = Int.gcd a b ∧ Cg (a * (bzF f r x y s u v).2.1 + b * (bzF f r x y s u v).2.2) (bzF f r x y s u v).1 := by
  intro f
  induction f with
  | zero =>
    intro r x y s u v hf hr hs h1 h2 hg
    have : s = 0 := by omega
    subst this
    exact ⟨by simpa [bzF] using hg, h1⟩
  | succ f ih =>
    intro r x y s u v hf hr hs h1 h2 hg
    by_cases h0 : s = 0
    · subst h0; rw [bzF_zero]; exact ⟨by simpa using hg, h1⟩
    · obtain ⟨e, hl⟩ := bzF_step (r := r) (x := x) (y := y) (u := u) (v := v) h0 hf
      rw [e]
      have h3 := tmod_le r s
      have h4 := tdiv_le r s
      refine ih _ _ _ _ _ _ hl hs (by omega) h2 ?_ (by rw [gcd_tmod]; exact hg)
      rw [wrap64_small (by omega : (r.tdiv s).natAbs ≤ _)]
      have e5 : r.tmod s = r - r.tdiv s * s := by have := Int.tmod_add_mul_tdiv r s; rw [Int.mul_comm] at this; omega
      rw [e5]
      exact cg_lin h1 h2 (wrap64_cg _) (wrap64_cg _) (wrap64_cg _) (wrap64_cg _)
theorem bz_eq {a b : Int} (ha : a.natAbs ≤ 1000000000000) (hb : b.natAbs ≤ 1000000000000) :
    wrap64 (wrap64 (a * bezX a b) + wrap64 (b * bezY a b)) = (Int.gcd a b : Int) := by
  obtain ⟨h1, h2⟩ := bzF_inv a b b.natAbs a 1 0 b 0 1 (Nat.le_refl _) ha hb ⟨0, by simp⟩ ⟨0, by simp⟩ rfl
  have hg : Int.gcd a b ≤ 1000000000000 := by
    by_cases h : b = 0
    · subst h; rw [Int.gcd_zero_right]; exact ha
    · exact Nat.le_trans (Nat.le_of_dvd (by omega) (Nat.gcd_dvd_right _ _)) hb
  refine wrap64_of_cg ?_ (by omega)
  have w1 := wrap64_cg (a * bezX a b)
  have w2 := wrap64_cg (b * bezY a b)
  obtain ⟨k1, w1⟩ := w1; obtain ⟨k2, w2⟩ := w2; rw [w1, w2]; clear w1 w2
  change (bzT a b).1.natAbs = _ at h1
  change Cg (a * (bzT a b).2.1 + b * (bzT a b).2.2) (bzT a b).1 at h2
  obtain ⟨k3, h2⟩ := h2
  unfold bezX bezY
  by_cases h : (bzT a b).1 < 0
  · rw [if_pos h, if_pos h]
    obtain ⟨k4, e4⟩ := wrap64_cg (-(bzT a b).2.1); obtain ⟨k5, e5⟩ := wrap64_cg (-(bzT a b).2.2)
    rw [e4, e5]
    have : (Int.gcd a b : Int) = -(bzT a b).1 := by omega
    rw [this]
    refine ⟨a * k4 + b * k5 + k1 + k2 - k3, ?_⟩
    grind
  · rw [if_neg h, if_neg h]
    have : (Int.gcd a b : Int) = (bzT a b).1 := by omega
    rw [this]
    refine ⟨k1 + k2 + k3, ?_⟩
    grind
end Go.Proofs.Ytbjkcoajabcibaa
