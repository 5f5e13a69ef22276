/- Plain mathematics of chapter 5's search: the remainders of a residue and a modulus, and the one fraction of small parts that they give. No conditions. -/
import Derived.Test.YtgckamlibbjgcaaRatMath
namespace Go.Proofs.Ytgckamlibbjgcaa
open Go.RowKit
set_option linter.unusedVariables false
/-- a fraction that fits: small parts in lowest terms that agree with the residue -/
def Fits (m u B n d : Int) : Prop := -B ≤ n ∧ n ≤ B ∧ 1 ≤ d ∧ d ≤ B ∧ Int.gcd n d = 1 ∧ m ∣ n - u * d
theorem fits_unique {m u B n1 d1 n2 d2 : Int} (hB : 2 * (B * B) < m) (h1 : Fits m u B n1 d1) (h2 : Fits m u B n2 d2) : n1 = n2 ∧ d1 = d2 :=
  found_unique hB h1.1 h1.2.1 h1.2.2.1 h1.2.2.2.1 h2.1 h2.2.1 h2.2.2.1 h2.2.2.2.1 h1.2.2.2.2.2 h2.2.2.2.2.2 h1.2.2.2.2.1 h2.2.2.2.2.1
/-- a step of the search: two remainders and their factors -/
def EI (m u B l lf r f : Int) : Prop :=
  ∃ s : Int, (s = 1 ∨ s = -1) ∧ 0 ≤ r ∧ r < l ∧ B < l ∧ 1 ≤ s * f ∧ s * lf ≤ 0 ∧ l * (s * f) - r * (s * lf) = m ∧ m ∣ l - u * lf ∧ m ∣ r - u * f ∧
    ∀ n d : Int, m ∣ n - u * d → ∃ a b : Int, n = a * l + b * r ∧ d = a * lf + b * f
theorem ei_start {m u B : Int} (h0 : 0 ≤ u) (h1 : u < m) (hB : B < m) : EI m u B m 0 u 1 := by
  refine ⟨1, .inl rfl, h0, h1, hB, by omega, by omega, by omega, ⟨1, by omega⟩, ⟨0, by omega⟩, fun n d h => ?_⟩
  obtain ⟨k, hk⟩ := h
  exact ⟨k, d, by rw [Int.mul_comm k m, Int.mul_comm d u]; omega, by omega⟩
theorem ei_step {m u B l lf r f : Int} (hB : 0 ≤ B) (h : EI m u B l lf r f) (hr : B < r) : EI m u B r f (l - l / r * r) (lf - l / r * f) := by
  obtain ⟨s, hs, r0, r1, bl, sf, slf, hm, c1, c2, hc⟩ := h
  have e := Int.mul_ediv_add_emod l r
  have q1 : 1 ≤ l / r := by
    have := Int.ediv_le_ediv (a := r) (b := l) (c := r) (by omega) (by omega)
    rw [Int.ediv_self (by omega)] at this; exact this
  have m0 := Int.emod_nonneg l (show r ≠ 0 by omega)
  have m1 := Int.emod_lt_of_pos l (show 0 < r by omega)
  generalize l / r = q at *
  have eq1 : l - q * r = l % r := by rw [Int.mul_comm]; omega
  refine ⟨-s, by omega, by omega, by omega, hr, ?_, ?_, ?_, c2, ?_, fun n d h => ?_⟩
  · have x1 : 1 * 1 ≤ q * (s * f) := Int.mul_le_mul q1 sf (by omega) (by omega)
    have x2 : -s * (lf - q * f) = q * (s * f) - s * lf := by grind
    omega
  · have x : -s * f = -(s * f) := by grind
    omega
  · have x : r * (-s * (lf - q * f)) - (l - q * r) * (-s * f) = l * (s * f) - r * (s * lf) := by grind
    omega
  · have x : l - q * r - u * (lf - q * f) = (l - u * lf) - q * (r - u * f) := by grind
    rw [x]; exact Int.dvd_sub c1 (Int.dvd_mul_of_dvd_right c2)
  · obtain ⟨a, b, h1, h2⟩ := hc n d h
    exact ⟨b + q * a, a, by rw [h1]; grind, by rw [h2]; grind⟩
theorem ei_bd {m u B l lf r f : Int} (hB : 0 ≤ B) (h : EI m u B l lf r f) : 0 ≤ r ∧ r < l ∧ l ≤ m ∧ -m ≤ f ∧ f ≤ m ∧ f ≠ 0 ∧ (1 ≤ r → -m ≤ lf ∧ lf ≤ m ∧ -m ≤ l / r * f ∧ l / r * f ≤ m) := by
  obtain ⟨s, hs, r0, r1, bl, sf, slf, hm, c1, c2, hc⟩ := h
  have x1 : 0 ≤ r * (-(s * lf)) := Int.mul_nonneg r0 (by omega)
  have x2 : l * 1 ≤ l * (s * f) := Int.mul_le_mul_of_nonneg_left sf (by omega)
  have x3 : 1 * (s * f) ≤ l * (s * f) := Int.mul_le_mul_of_nonneg_right (by omega) (by omega)
  rw [Int.mul_neg] at x1
  have hf : s * f ≤ m ∧ l ≤ m := by omega
  refine ⟨r0, r1, hf.2, ?_, ?_, ?_, fun hr => ?_⟩
  · rcases hs with rfl | rfl <;> omega
  · rcases hs with rfl | rfl <;> omega
  · rintro rfl; rw [Int.mul_zero] at sf; omega
  · have y1 : 1 * (-(s * lf)) ≤ r * (-(s * lf)) := Int.mul_le_mul_of_nonneg_right hr (by omega)
    rw [Int.mul_neg r] at y1
    have q0 : 0 ≤ l / r := Int.ediv_nonneg (by omega) r0
    have q1 : l / r ≤ l := Int.ediv_le_self _ (by omega)
    have z1 : l / r * (s * f) ≤ l * (s * f) := Int.mul_le_mul_of_nonneg_right q1 (by omega)
    have z0 : 0 ≤ l / r * (s * f) := Int.mul_nonneg q0 (by omega)
    generalize l / r = q at *
    rcases hs with rfl | rfl
    · rw [Int.one_mul] at *; omega
    · have e : q * (-1 * f) = -(q * f) := by grind
      omega
/-- the end of the search -/
theorem ei_end {m u B l lf r f : Int} (hB : 2 * (B * B) < m) (h0 : 0 ≤ B) (h : EI m u B l lf r f) (hr : r ≤ B) :
    ∃ s : Int, (s = 1 ∨ s = -1) ∧ 1 ≤ s * f ∧ (Int.gcd r f = 1 → -B ≤ f → f ≤ B → Fits m u B (s * r) (s * f)) ∧
      ∀ n d : Int, Fits m u B n d → Int.gcd r f = 1 ∧ -B ≤ f ∧ f ≤ B ∧ n = s * r ∧ d = s * f := by
  obtain ⟨s, hs, r0, r1, bl, sf, slf, hm, c1, c2, hc⟩ := h
  refine ⟨s, hs, sf, fun g f0 f1 => ?_, fun n d h => ?_⟩
  · refine ⟨?_, ?_, sf, ?_, ?_, ?_⟩
    · rcases hs with rfl | rfl <;> omega
    · rcases hs with rfl | rfl <;> omega
    · rcases hs with rfl | rfl <;> omega
    · rcases hs with rfl | rfl
      · rw [Int.one_mul, Int.one_mul]; exact g
      · rw [show -1 * r = -r by omega, show -1 * f = -f by omega, Int.gcd_neg, Int.neg_gcd]; exact g
    · have e : s * r - u * (s * f) = s * (r - u * f) := by grind
      rw [e]; exact Int.dvd_mul_of_dvd_right c2
  · obtain ⟨n0, n1, d0, d1, g, hd⟩ := h
    obtain ⟨a, b, e1, e2⟩ := hc n d hd
    have ha : a = 0 := by
      refine Classical.byContradiction fun hne => ?_
      by_cases hab : 0 ≤ a * b
      · -- both parts add up: the numerator is too great
        have hx : 0 ≤ (a * l) * (b * r) := by
          have : (a * l) * (b * r) = (a * b) * (l * r) := by grind
          rw [this]; exact Int.mul_nonneg hab (Int.mul_nonneg (by omega) r0)
        rcases Int.lt_or_gt_of_ne hne with hl | hl
        · have hal : a * l ≤ -1 * l := Int.mul_le_mul_of_nonneg_right (by omega) (by omega)
          have hbr : b * r ≤ 0 := by
            refine Int.not_lt.1 fun hp => ?_
            have : (a * l) * (b * r) < 0 := Int.mul_neg_of_neg_of_pos (by omega) hp
            omega
          omega
        · have hal : 1 * l ≤ a * l := Int.mul_le_mul_of_nonneg_right (by omega) (by omega)
          have hbr : 0 ≤ b * r := by
            refine Int.not_lt.1 fun hp => ?_
            have : (a * l) * (b * r) < 0 := Int.mul_neg_of_pos_of_neg (by omega) hp
            omega
          omega
      · -- signs differ: the factor is within the bound, and the numbers would meet beyond the modulus
        have hfB : s * f ≤ B := by
          have e3 : s * d = a * (s * lf) + b * (s * f) := by rw [e2]; grind
          have hsd : -B ≤ s * d ∧ s * d ≤ B := by rcases hs with rfl | rfl <;> omega
          rcases Int.lt_or_gt_of_ne hne with hl | hl
          · have hb : 0 < b := by
              refine Int.not_le.1 fun hp => hab ?_
              have := Int.mul_nonneg (show 0 ≤ -a by omega) (show 0 ≤ -b by omega)
              rw [Int.neg_mul_neg] at this; exact this
            have w1 : 1 * (s * f) ≤ b * (s * f) := Int.mul_le_mul_of_nonneg_right (by omega) (by omega)
            have w2 : 0 ≤ -a * -(s * lf) := Int.mul_nonneg (by omega) (by omega)
            rw [Int.neg_mul_neg] at w2
            omega
          · have hb : b < 0 := by
              refine Int.not_le.1 fun hp => hab ?_
              exact Int.mul_nonneg (by omega) hp
            have w1 : b * (s * f) ≤ -1 * (s * f) := Int.mul_le_mul_of_nonneg_right (by omega) (by omega)
            have w2 : 0 ≤ a * -(s * lf) := Int.mul_nonneg (by omega) (by omega)
            rw [Int.mul_neg] at w2
            omega
        have hz : n * (s * f) - r * (s * d) = a * m := by
          rw [e1, e2, ← hm]; grind
        have b1 := mul_le_bd n0 n1 sf hfB
        have hsd : -B ≤ s * d ∧ s * d ≤ B := by rcases hs with rfl | rfl <;> omega
        have b2 : -(B * B) ≤ r * (s * d) ∧ r * (s * d) ≤ B * B := by
          have w1 : r * (s * d) ≤ r * B := Int.mul_le_mul_of_nonneg_left hsd.2 r0
          have w2 : r * (-B) ≤ r * (s * d) := Int.mul_le_mul_of_nonneg_left hsd.1 r0
          have w3 : r * B ≤ B * B := Int.mul_le_mul_of_nonneg_right hr h0
          rw [Int.mul_neg] at w2
          omega
        rcases Int.lt_or_gt_of_ne hne with hl | hl
        · have w : a * m ≤ -1 * m := Int.mul_le_mul_of_nonneg_right (by omega) (by omega)
          omega
        · have w : 1 * m ≤ a * m := Int.mul_le_mul_of_nonneg_right (by omega) (by omega)
          omega
    subst ha
    have hn : n = b * r := by omega
    have hd' : d = b * f := by omega
    have hg : b.natAbs * Int.gcd r f = 1 := by rw [← Int.gcd_mul_left, ← hn, ← hd']; exact g
    have hb1 : b.natAbs = 1 := Nat.eq_one_of_mul_eq_one_right hg
    have hg1 : Int.gcd r f = 1 := by rw [hb1] at hg; omega
    have hbs : b = s := by
      rcases (show b = 1 ∨ b = -1 by omega) with rfl | rfl
      · rcases hs with rfl | rfl <;> omega
      · rcases hs with rfl | rfl <;> omega
    subst hbs
    refine ⟨hg1, ?_, ?_, hn, hd'⟩
    · rcases hs with rfl | rfl <;> omega
    · rcases hs with rfl | rfl <;> omega
end Go.Proofs.Ytgckamlibbjgcaa
