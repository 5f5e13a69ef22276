/- Plain mathematics of Bezout's steps for numbers of at least 0 and at most 10^9: nothing wraps, so that the numbers found satisfy Bezout's equation over the integers; inverses by a modulus. -/
import Derived.Test.YtbjkcoajabcibaaBezMath
import Derived.Test.YtbjkcoajabcibaaRingMath
namespace Go.Proofs.Ytbjkcoajabcibaa
open Go.RowKit
set_option linter.unusedVariables false
theorem sign_le {e x : Int} (he : e = 1 ∨ e = -1) (h0 : 0 ≤ x) (h1 : x ≤ 4000000000000) : (e * x).natAbs ≤ 4000000000000 := by
  rcases he with rfl | rfl <;> omega
theorem bzF_pos {a b : Int} (hb : b ≤ 1000000000) (ha : a ≤ 1000000000) : ∀ (f : Nat) (r X Y s U V e : Int), (e = 1 ∨ e = -1) → 0 ≤ r → 0 ≤ s → s.natAbs ≤ f → r ≤ 1000000000 → s ≤ 1000000000 →
    0 ≤ X → 0 ≤ Y → 0 ≤ U → 0 ≤ V → X * s + U * r = b → V * r + Y * s = a → a * X - b * Y = e * r → b * V - a * U = e * s → Int.gcd r s = Int.gcd a b →
    ∃ x y : Int, bzF f r (e * X) (-(e * Y)) s (-(e * U)) (e * V) = ((Int.gcd a b : Int), x, y) ∧ a * x + b * y = (Int.gcd a b : Int) := by
  intro f
  induction f with
  | zero =>
    intro r X Y s U V e he hr hs hf h1 h2 hX hY hU hV e1 e2 e3 e4 hg
    obtain rfl : s = 0 := by omega
    rw [Int.gcd_zero_right] at hg
    refine ⟨e * X, -(e * Y), ?_, ?_⟩
    · rw [bzF]; congr 1; omega
    · have : a * (e * X) + b * -(e * Y) = e * (a * X - b * Y) := by grind
      rw [this, e3, ← Int.mul_assoc]
      rcases he with rfl | rfl <;> omega
  | succ f ih =>
    intro r X Y s U V e he hr hs hf h1 h2 hX hY hU hV e1 e2 e3 e4 hg
    by_cases h0 : s = 0
    · subst h0
      rw [Int.gcd_zero_right] at hg
      refine ⟨e * X, -(e * Y), ?_, ?_⟩
      · rw [bzF_zero]; congr 1; omega
      · have : a * (e * X) + b * -(e * Y) = e * (a * X - b * Y) := by grind
        rw [this, e3, ← Int.mul_assoc]
        rcases he with rfl | rfl <;> omega
    · obtain ⟨st, hl⟩ := bzF_step (r := r) (x := e * X) (y := -(e * Y)) (u := -(e * U)) (v := e * V) h0 hf
      rw [st]
      obtain ⟨q, hq⟩ : ∃ q, r.tdiv s = q := ⟨_, rfl⟩
      have hq0 : 0 ≤ q := by rw [← hq]; exact Int.tdiv_nonneg hr hs
      have hrem : r.tmod s = r - q * s := by
        have := Int.tmod_add_mul_tdiv r s
        rw [hq] at this; rw [Int.mul_comm q s]; omega
      have hmod0 : 0 ≤ r - q * s := by rw [← hrem]; exact Int.tmod_nonneg s hr
      have hmod1 : r - q * s < s := by
        have := tmod_lt r h0
        rw [hrem] at this; omega
      have hqr : q.natAbs ≤ r.natAbs := by rw [← hq]; exact tdiv_le r s
      have hqU : 0 ≤ q * U := Int.mul_nonneg hq0 hU
      have hqV : 0 ≤ q * V := Int.mul_nonneg hq0 hV
      have b1 : (X + q * U) * s + U * (r - q * s) = b := by rw [← e1]; grind
      have a1 : V * (r - q * s) + (Y + q * V) * s = a := by rw [← e2]; grind
      have b2 : 0 ≤ U * (r - q * s) := Int.mul_nonneg hU hmod0
      have a2 : 0 ≤ V * (r - q * s) := Int.mul_nonneg hV hmod0
      have b3 : X + q * U ≤ (X + q * U) * s := by
        have := Int.mul_le_mul_of_nonneg_left (show (1 : Int) ≤ s by omega) (show 0 ≤ X + q * U by omega)
        omega
      have a3 : Y + q * V ≤ (Y + q * V) * s := by
        have := Int.mul_le_mul_of_nonneg_left (show (1 : Int) ≤ s by omega) (show 0 ≤ Y + q * V by omega)
        omega
      have w1 : wrap64 (e * X - wrap64 (wrap64 q * -(e * U))) = -(-e * (X + q * U)) := by
        rw [wrap64_small (n := q) (by omega)]
        have t : q * -(e * U) = -(e * (q * U)) := by grind
        have s1 := sign_le he hqU (by omega)
        rw [t, wrap64_small (n := -(e * (q * U))) (by omega)]
        have t2 : e * X - -(e * (q * U)) = e * (X + q * U) := by grind
        have s2 := sign_le (x := X + q * U) he (by omega) (by omega)
        rw [t2, wrap64_small (n := e * (X + q * U)) (by omega)]; grind
      have w2 : wrap64 (-(e * Y) - wrap64 (wrap64 q * (e * V))) = -e * (Y + q * V) := by
        rw [wrap64_small (n := q) (by omega)]
        have t : q * (e * V) = e * (q * V) := by grind
        have s1 := sign_le he hqV (by omega)
        rw [t, wrap64_small (n := e * (q * V)) (by omega)]
        have t2 : -(e * Y) - e * (q * V) = -(e * (Y + q * V)) := by grind
        have s2 := sign_le (x := Y + q * V) he (by omega) (by omega)
        rw [t2, wrap64_small (n := -(e * (Y + q * V))) (by omega)]; grind
      rw [hq, hrem, w1, w2, show -(e * U) = -e * U by grind, show e * V = -(-e * V) by grind]
      refine ih s U V (r - q * s) (X + q * U) (Y + q * V) (-e) (by rcases he with rfl | rfl <;> omega) hs hmod0 (by rw [← hrem]; exact hl) h2 (by omega) hU hV (by omega) (by omega) ?_ ?_ ?_ ?_ ?_
      · rw [← b1]; grind
      · rw [← a1]; grind
      · grind
      · grind
      · rw [← hrem, gcd_tmod]; exact hg
theorem bez_pos_eq {a b : Int} (ha0 : 0 ≤ a) (hb0 : 0 ≤ b) (ha : a ≤ 1000000000) (hb : b ≤ 1000000000) : a * bezX a b + b * bezY a b = (Int.gcd a b : Int) := by
  obtain ⟨x, y, h1, h2⟩ := bzF_pos hb ha b.natAbs a 1 0 b 0 1 1 (Or.inl rfl) ha0 hb0 (Nat.le_refl _) ha hb (by omega) (by omega) (by omega) (by omega) (by simp) (by simp) (by simp) (by simp) rfl
  have e : bzT a b = ((Int.gcd a b : Int), x, y) := by rw [← h1]; simp [bzT]
  unfold bezX bezY
  rw [e]
  have hn : ¬ (Int.gcd a b : Int) < 0 := by omega
  simp only [hn, if_false]
  exact h2
/-- the number found is the inverse -/
theorem bez_inverse {a m : Int} (ha0 : 0 ≤ a) (ha : a < m) (hm : 2 ≤ m) (hm2 : m ≤ 1000000000) (hg : Int.gcd a m = 1) : a * (bezX a m % m) % m = 1 := by
  have h := bez_pos_eq ha0 (show 0 ≤ m by omega) (by omega) hm2
  rw [hg] at h
  rw [mul_emod_r]
  have e : a * bezX a m = 1 - m * bezY a m := by
    have : ((1 : Nat) : Int) = 1 := rfl
    omega
  have h2 : m ∣ a * bezX a m - 1 := ⟨-bezY a m, by rw [e]; grind⟩
  have := (Int.emod_eq_emod_iff_emod_sub_eq_zero).2 (Int.emod_eq_zero_of_dvd h2)
  rw [this]; exact Int.emod_eq_of_lt (by omega) (by omega)
end Go.Proofs.Ytbjkcoajabcibaa
