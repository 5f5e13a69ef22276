/- Plain mathematics of chapter 5: lowest terms, valid rational numbers, sums, products and results. Conditions: values to 10^12. -/
import Derived.Test.YtgckamlibbjgcaaRatMath
import Derived.Test.YtgckamlibbjgcaaPadMath
namespace Go.Proofs.Ytgckamlibbjgcaa
open Go.RowKit
set_option linter.unusedVariables false
def rlG (n d : Int) : Int := if d < 0 then -(Int.gcd n d : Int) else (Int.gcd n d : Int)
def rlN (n d : Int) : Int := n.tdiv (rlG n d)
def rlD (n d : Int) : Int := d.tdiv (rlG n d)
theorem gcd_ge1 {n d : Int} (hd : d ≠ 0) : 1 ≤ (Int.gcd n d : Int) := by
  have hg : Int.gcd n d ≠ 0 := fun h => hd (Int.gcd_eq_zero_iff.1 h).2
  omega
theorem gcd_le {n d B : Int} (hd : d ≠ 0) (h1 : -B ≤ d) (h2 : d ≤ B) : (Int.gcd n d : Int) ≤ B := by
  have h := Int.le_of_dvd (show 0 < (d.natAbs : Int) by omega) (Int.dvd_natAbs.2 (Int.gcd_dvd_right n d))
  omega
theorem rlG_ne {n d : Int} (hd : d ≠ 0) : rlG n d ≠ 0 := by
  have := gcd_ge1 (n := n) hd
  unfold rlG; split <;> omega
theorem rlG_dvd (n d : Int) : rlG n d ∣ n ∧ rlG n d ∣ d := by
  unfold rlG; split
  · exact ⟨Int.neg_dvd.2 (Int.gcd_dvd_left n d), Int.neg_dvd.2 (Int.gcd_dvd_right n d)⟩
  · exact ⟨Int.gcd_dvd_left n d, Int.gcd_dvd_right n d⟩
theorem low_mul (n d : Int) : rlN n d * rlG n d = n ∧ rlD n d * rlG n d = d :=
  ⟨Int.tdiv_mul_cancel (rlG_dvd n d).1, Int.tdiv_mul_cancel (rlG_dvd n d).2⟩
theorem low_pos {n d : Int} (hd : d ≠ 0) : 1 ≤ rlD n d := by
  have e := (low_mul n d).2
  have g := gcd_ge1 (n := n) hd
  refine Classical.byContradiction fun hc => ?_
  by_cases h : d < 0
  · have hl : rlG n d = -(Int.gcd n d : Int) := by simp [rlG, h]
    rw [hl] at e
    have := Int.mul_nonneg (show 0 ≤ -rlD n d by omega) (show 0 ≤ (Int.gcd n d : Int) by omega)
    rw [Int.neg_mul] at this; rw [Int.mul_neg] at e
    omega
  · have hl : rlG n d = (Int.gcd n d : Int) := by simp [rlG, h]
    rw [hl] at e
    have := Int.mul_nonneg (show 0 ≤ -rlD n d by omega) (show 0 ≤ (Int.gcd n d : Int) by omega)
    rw [Int.neg_mul] at this
    omega
theorem low_gcd {n d : Int} (hd : d ≠ 0) : Int.gcd (rlN n d) (rlD n d) = 1 := by
  obtain ⟨e1, e2⟩ := low_mul n d
  have hg := gcd_ge1 (n := n) hd
  have ha : (rlG n d).natAbs = Int.gcd n d := by unfold rlG; split <;> omega
  have h : Int.gcd (rlN n d * rlG n d) (rlD n d * rlG n d) = Int.gcd (rlN n d) (rlD n d) * (rlG n d).natAbs := Int.gcd_mul_right ..
  rw [e1, e2, ha] at h
  have h1 : Int.gcd (rlN n d) (rlD n d) * Int.gcd n d = 1 * Int.gcd n d := by omega
  exact Nat.eq_of_mul_eq_mul_right (by omega) h1
theorem low_bd (n d : Int) : (rlN n d).natAbs ≤ n.natAbs ∧ (rlD n d).natAbs ≤ d.natAbs := by
  unfold rlN rlD
  rw [Int.natAbs_tdiv, Int.natAbs_tdiv]
  exact ⟨Nat.div_le_self _ _, Nat.div_le_self _ _⟩
theorem low_cross (n d : Int) (hd : d ≠ 0) : rlN n d * d = n * rlD n d := by
  obtain ⟨e1, e2⟩ := low_mul n d
  calc rlN n d * d = rlN n d * (rlD n d * rlG n d) := by rw [e2]
    _ = (rlN n d * rlG n d) * rlD n d := by grind
    _ = n * rlD n d := by rw [e1]
theorem low_unique {n d a b : Int} (hd : d ≠ 0) (hb : 1 ≤ b) (g : Int.gcd a b = 1) (h : a * d = n * b) : rlN n d = a ∧ rlD n d = b := by
  have hc := low_cross n d hd
  refine frac_eq (low_pos hd) hb (low_gcd hd) g ?_
  refine Int.eq_of_mul_eq_mul_right hd ?_
  calc rlN n d * b * d = (rlN n d * d) * b := by grind
    _ = (n * b) * rlD n d := by rw [hc]; grind
    _ = a * rlD n d * d := by rw [← h]; grind
theorem low_self {a b : Int} (hb : 1 ≤ b) (g : Int.gcd a b = 1) : rlN a b = a ∧ rlD a b = b := low_unique (by omega) hb g rfl
/-- a valid rational number -/
def isRatB (n d : Int) : Bool := valueB n && (inB d 1 1000000000000 && decide (Int.gcd n d = 1))
theorem isRat_of {n d : Int} (h : isRatB n d = true) : -1000000000000 ≤ n ∧ n ≤ 1000000000000 ∧ 1 ≤ d ∧ d ≤ 1000000000000 ∧ Int.gcd n d = 1 := by
  simp only [isRatB, valueB, inB, Bool.and_eq_true, decide_eq_true_eq] at h
  omega
theorem isRat_mk {n d : Int} (h1 : -1000000000000 ≤ n) (h2 : n ≤ 1000000000000) (h3 : 1 ≤ d) (h4 : d ≤ 1000000000000) (h5 : Int.gcd n d = 1) : isRatB n d = true := by
  simp [isRatB, valueB, inB, h1, h2, h3, h4, h5]
theorem isRat_val {n d : Int} (h : valueB n = false) : isRatB n d = false := by simp [isRatB, h]
theorem isRat_low {n d : Int} (hd : d ≠ 0) (hn : -1000000000000 ≤ n ∧ n ≤ 1000000000000) (h : -1000000000000 ≤ d ∧ d ≤ 1000000000000) : isRatB (rlN n d) (rlD n d) = true := by
  obtain ⟨b1, b2⟩ := low_bd n d
  have := low_pos (n := n) hd
  exact isRat_mk (by omega) (by omega) this (by omega) (low_gcd hd)
abbrev Q2 := Int × Int
abbrev A2 (q : Q2) : Array Value := #[.int .i64 q.1, .int .i64 q.2]
abbrev P2 (n d : Int) : Array Value := #[.int .i64 n, .int .i64 d]
/-- a result, or none -/
def rresQ (n d : Int) : Q2 := if isRatB n d then (n, d) else (0, 0)
def rlimC (n d : Int) : Int := if isRatB n d then 0 else 3
def opB (n d : Int) : Bool := inB n (-1000000) 1000000 && inB d (-1000000) 1000000
/-- the code of two rational numbers -/
def rtwoC (a b c d : Int) : Int := if isRatB a b && isRatB c d then (if opB a b && opB c d then 0 else 2) else 1
theorem opB_of {n d : Int} (h : opB n d = true) : -1000000 ≤ n ∧ n ≤ 1000000 ∧ -1000000 ≤ d ∧ d ≤ 1000000 := by
  simp only [opB, inB, Bool.and_eq_true, decide_eq_true_eq] at h
  omega
theorem rtwo_zero {a b c d : Int} (h : rtwoC a b c d = 0) : isRatB a b = true ∧ isRatB c d = true ∧ -1000000 ≤ a ∧ a ≤ 1000000 ∧ 1 ≤ b ∧ b ≤ 1000000 ∧ -1000000 ≤ c ∧ c ≤ 1000000 ∧ 1 ≤ d ∧ d ≤ 1000000 := by
  unfold rtwoC at h
  split at h
  · rename_i hv
    simp only [Bool.and_eq_true] at hv
    have h1 := isRat_of hv.1
    have h2 := isRat_of hv.2
    split at h
    · rename_i ho
      simp only [Bool.and_eq_true] at ho
      have o1 := opB_of ho.1
      have o2 := opB_of ho.2
      exact ⟨hv.1, hv.2, by omega, by omega, by omega, by omega, by omega, by omega, by omega, by omega⟩
    · omega
  · omega
theorem mul_bd6 {a b : Int} (h1 : -1000000 ≤ a) (h2 : a ≤ 1000000) (h3 : -1000000 ≤ b) (h4 : b ≤ 1000000) : -1000000000000 ≤ a * b ∧ a * b ≤ 1000000000000 := by
  have h : a.natAbs * b.natAbs ≤ 1000000 * 1000000 := Nat.mul_le_mul (by omega) (by omega)
  rw [← Int.natAbs_mul] at h
  omega
theorem mul_pos6 {a b : Int} (h1 : 1 ≤ a) (h3 : 1 ≤ b) : 1 ≤ a * b := by
  have := Int.mul_le_mul h1 h3 (by omega) (by omega)
  omega
def sumN (a b c d : Int) : Int := a * d + c * b
def sumD (b d : Int) : Int := b * d
def addRQ (a b c d : Int) : Q2 := if rtwoC a b c d = 0 then rresQ (rlN (sumN a b c d) (sumD b d)) (rlD (sumN a b c d) (sumD b d)) else (0, 0)
def addRC (a b c d : Int) : Int := if rtwoC a b c d = 0 then rlimC (rlN (sumN a b c d) (sumD b d)) (rlD (sumN a b c d) (sumD b d)) else rtwoC a b c d
def mulRQ (a b c d : Int) : Q2 := if rtwoC a b c d = 0 then rresQ (rlN (a * c) (b * d)) (rlD (a * c) (b * d)) else (0, 0)
def mulRC (a b c d : Int) : Int := if rtwoC a b c d = 0 then rlimC (rlN (a * c) (b * d)) (rlD (a * c) (b * d)) else rtwoC a b c d
theorem sum_bd {a b c d : Int} (h : rtwoC a b c d = 0) : -2000000000000 ≤ sumN a b c d ∧ sumN a b c d ≤ 2000000000000 ∧ 1 ≤ sumD b d ∧ sumD b d ≤ 1000000000000 ∧
    -1000000000000 ≤ a * d ∧ a * d ≤ 1000000000000 ∧ -1000000000000 ≤ c * b ∧ c * b ≤ 1000000000000 ∧ -1000000000000 ≤ a * c ∧ a * c ≤ 1000000000000 ∧ 1 ≤ b * d ∧ b * d ≤ 1000000000000 := by
  obtain ⟨_, _, a0, a1, b0, b1, c0, c1, d0, d1⟩ := rtwo_zero h
  have x1 := mul_bd6 (a := a) (b := d) a0 a1 (by omega) d1
  have x2 := mul_bd6 (a := c) (b := b) c0 c1 (by omega) b1
  have x3 := mul_bd6 (a := a) (b := c) a0 a1 c0 c1
  have x4 := mul_bd6 (a := b) (b := d) (by omega) b1 (by omega) d1
  have x5 := mul_pos6 b0 d0
  unfold sumN sumD
  omega
def makeRC (n d : Int) : Int := if valueB n && valueB d then (if d = 0 then 5 else 0) else 2
def makeRQ (n d : Int) : Q2 := if makeRC n d = 0 then (rlN n d, rlD n d) else (0, 0)
theorem makeR_zero {n d : Int} (h : makeRC n d = 0) : -1000000000000 ≤ n ∧ n ≤ 1000000000000 ∧ -1000000000000 ≤ d ∧ d ≤ 1000000000000 ∧ d ≠ 0 ∧ isRatB (rlN n d) (rlD n d) = true := by
  unfold makeRC at h
  split at h
  · rename_i hv
    simp only [Bool.and_eq_true] at hv
    have h1 := valueB_bd hv.1
    have h2 := valueB_bd hv.2
    split at h
    · omega
    · rename_i h0
      exact ⟨h1.1, h1.2, h2.1, h2.2, h0, isRat_low h0 h1 h2⟩
  · omega
def rvalC (n d p : Int) : Int := if isRatB n d && smallB p then (if n = 0 then 5 else 0) else 1
def rvalV (n d p : Int) : Int := if rvalC n d p = 0 then valCount n p - valCount d p else 0
theorem rval_zero {n d p : Int} (h : rvalC n d p = 0) : isRatB n d = true ∧ smallB p = true ∧ n ≠ 0 := by
  unfold rvalC at h
  split at h
  · rename_i hv
    simp only [Bool.and_eq_true] at hv
    split at h
    · omega
    · exact ⟨hv.1, hv.2, ‹_›⟩
  · omega
theorem val_bd {n p : Int} (hp : 2 ≤ p) (h0 : n ≠ 0) (h1 : -1000000000000 ≤ n) (h2 : n ≤ 1000000000000) : 0 ≤ valCount n p ∧ valCount n p ≤ 39 := by
  obtain ⟨_, _, a, b⟩ := pad_val (n := n) hp h0 (by omega)
  exact ⟨a, b⟩
end Go.Proofs.Ytgckamlibbjgcaa
