/- Plain mathematics of chapter 5's search: the bound, the fraction that is found, and its multiples by powers of the prime. No conditions. -/
import Derived.Test.YtgckamlibbjgcaaRatLow
import Derived.Test.YtgckamlibbjgcaaRatFind
namespace Go.Proofs.Ytgckamlibbjgcaa
open Go.RowKit
set_option linter.unusedVariables false
/-- the greatest number whose doubled square is less than m -/
def bF : Nat → Int → Int → Int
  | 0, m, b => b
  | f + 1, m, b => if 2 * (b + 1) * (b + 1) < m then bF f m (b + 1) else b
def bndB (m : Int) : Int := bF m.toNat m 0
def BndIs (m b : Int) : Prop := 0 ≤ b ∧ 2 * (b * b) < m ∧ m ≤ 2 * ((b + 1) * (b + 1))
theorem sq_ge {b : Int} (h : 0 ≤ b) : b ≤ b * b := by
  rcases (show b = 0 ∨ 1 ≤ b by omega) with rfl | h1
  · omega
  · have := Int.mul_le_mul_of_nonneg_right h1 h
    omega
theorem bF_is {m : Int} : ∀ (f : Nat) (b : Int), 0 ≤ b → 2 * (b * b) < m → m ≤ f + b → BndIs m (bF f m b) := by
  intro f
  induction f with
  | zero =>
    intro b h0 h1 h2
    have := sq_ge h0
    omega
  | succ f ih =>
    intro b h0 h1 h2
    unfold bF
    have e : 2 * (b + 1) * (b + 1) = 2 * ((b + 1) * (b + 1)) := by grind
    split
    · exact ih (b + 1) (by omega) (by omega) (by omega)
    · exact ⟨h0, h1, by omega⟩
theorem bnd_is {m : Int} (hm : 1 ≤ m) : BndIs m (bndB m) := bF_is _ 0 (by omega) (by omega) (by omega)
theorem bnd_unique {m a b : Int} (ha : BndIs m a) (hb : BndIs m b) : a = b := by
  have key : ∀ a b : Int, BndIs m a → BndIs m b → ¬ a < b := by
    intro a b ⟨a0, a1, a2⟩ ⟨b0, b1, b2⟩ hlt
    have : (a + 1) * (a + 1) ≤ b * b := Int.mul_le_mul (by omega) (by omega) (by omega) (by omega)
    omega
  have := key a b ha hb
  have := key b a hb ha
  omega
theorem bnd_le {m b : Int} (h : BndIs m b) (hm : m ≤ 1000000000) : b ≤ 22360 ∧ 0 ≤ b * b ∧ b * b ≤ 500000000 := by
  obtain ⟨h0, h1, h2⟩ := h
  have h3 : 0 ≤ b * b := Int.mul_nonneg h0 h0
  refine ⟨?_, h3, by omega⟩
  refine Classical.byContradiction fun hc => ?_
  have : 22361 * 22361 ≤ b * b := Int.mul_le_mul (by omega) (by omega) (by omega) (by omega)
  omega
/-- the remainder nearest to 0 -/
def symR (u m d : Int) : Int := if m < 2 * (u * d % m) then u * d % m - m else u * d % m
def fitB (m u b d : Int) : Bool := inB (symR u m d) (-b) b && decide (Int.gcd (symR u m d) d = 1)
def ffF (m u b : Int) : Nat → Int → Int
  | 0, d => 0
  | f + 1, d => if fitB m u b d then d else ffF m u b f (d + 1)
def fitD (m u : Int) : Int := ffF m u (bndB m) (bndB m).toNat 1
def fitN (m u : Int) : Int := symR u m (fitD m u)
def fitO (m u : Int) : Bool := decide (1 ≤ fitD m u)
theorem sym_dvd (u m d : Int) : m ∣ symR u m d - u * d := by
  have e := Int.mul_ediv_add_emod (u * d) m
  unfold symR
  split
  · refine ⟨-(u * d / m) - 1, ?_⟩
    rw [Int.mul_sub, Int.mul_neg]; omega
  · refine ⟨-(u * d / m), ?_⟩
    rw [Int.mul_neg]; omega
theorem fits_sym {m u b n d : Int} (hb : 2 * (b * b) < m) (h : Fits m u b n d) : symR u m d = n := by
  obtain ⟨n0, n1, d0, d1, g, hd⟩ := h
  have hs := sym_dvd u m d
  have hbb := sq_ge (show 0 ≤ b by omega)
  have r0 := Int.emod_nonneg (u * d) (show m ≠ 0 by omega)
  have r1 := Int.emod_lt_of_pos (u * d) (show 0 < m by omega)
  have hx : m ∣ symR u m d - n := by
    have e : symR u m d - n = (symR u m d - u * d) - (n - u * d) := by omega
    rw [e]; exact Int.dvd_sub hs hd
  have hr : -m < 2 * symR u m d ∧ 2 * symR u m d ≤ m := by unfold symR; split <;> omega
  obtain ⟨k, hk⟩ := hx
  have hk0 : k = 0 := by
    refine Classical.byContradiction fun hne => ?_
    rcases Int.lt_or_gt_of_ne hne with h | h
    · have : m * k ≤ m * (-1) := Int.mul_le_mul_of_nonneg_left (by omega) (by omega)
      omega
    · have : m * 1 ≤ m * k := Int.mul_le_mul_of_nonneg_left (by omega) (by omega)
      omega
  rw [hk0, Int.mul_zero] at hk
  omega
theorem fit_iff {m u b d : Int} (h0 : 1 ≤ d) (h1 : d ≤ b) (h : fitB m u b d = true) : Fits m u b (symR u m d) d := by
  simp only [fitB, inB, Bool.and_eq_true, decide_eq_true_eq] at h
  exact ⟨h.1.1, h.1.2, h0, h1, h.2, sym_dvd u m d⟩
theorem fit_of {m u b n d : Int} (hb : 2 * (b * b) < m) (h : Fits m u b n d) : fitB m u b d = true := by
  have e := fits_sym hb h
  obtain ⟨n0, n1, d0, d1, g, hd⟩ := h
  unfold fitB
  rw [e]
  simp [inB, n0, n1, g]
theorem ff_is {m u b : Int} : ∀ (f : Nat) (d : Int), 1 ≤ d → (f : Int) = b - d + 1 → (ffF m u b f d = 0 ∧ ∀ j, d ≤ j → j ≤ b → fitB m u b j = false) ∨ (d ≤ ffF m u b f d ∧ ffF m u b f d ≤ b ∧ fitB m u b (ffF m u b f d) = true) := by
  intro f
  induction f with
  | zero => intro d h0 h1; exact .inl ⟨rfl, fun j h2 h3 => by omega⟩
  | succ f ih =>
    intro d h0 h1
    unfold ffF
    by_cases hf : fitB m u b d = true
    · rw [if_pos hf]; exact .inr ⟨by omega, by omega, hf⟩
    · rw [if_neg hf]
      rcases ih (d + 1) (by omega) (by omega) with ⟨e, h⟩ | ⟨h2, h3, h4⟩
      · refine .inl ⟨e, fun j h2 h3 => ?_⟩
        rcases (show j = d ∨ d + 1 ≤ j by omega) with rfl | h5
        · simpa using hf
        · exact h j h5 h3
      · exact .inr ⟨by omega, h3, h4⟩
theorem fitD_is {m u : Int} (hm : 1 ≤ m) : (fitD m u = 0 ∧ ∀ n d, ¬ Fits m u (bndB m) n d) ∨ (1 ≤ fitD m u ∧ Fits m u (bndB m) (fitN m u) (fitD m u)) := by
  have hb := bnd_is hm
  rcases ff_is (m := m) (u := u) (b := bndB m) (bndB m).toNat 1 (by omega) (by have := hb.1; omega) with ⟨e, h⟩ | ⟨h1, h2, h3⟩
  · refine .inl ⟨e, fun n d hf => ?_⟩
    have := fit_of hb.2.1 hf
    have h0 := h d hf.2.2.1 hf.2.2.2.1
    rw [h0] at this; cases this
  · exact .inr ⟨h1, fit_iff h1 h2 h3⟩
/-- a fraction that fits is the one that is found -/
theorem fit_found {m u n d : Int} (hm : 1 ≤ m) (h : Fits m u (bndB m) n d) : fitD m u = d ∧ fitN m u = n ∧ fitO m u = true := by
  rcases fitD_is (u := u) hm with ⟨_, h0⟩ | ⟨h1, h2⟩
  · exact absurd h (h0 n d)
  · obtain ⟨e1, e2⟩ := fits_unique (bnd_is hm).2.1 h2 h
    exact ⟨e2, e1, decide_eq_true h1⟩
theorem fit_none {m u : Int} (hm : 1 ≤ m) (h : ∀ d, 1 ≤ d → d ≤ bndB m → fitB m u (bndB m) d = false) : fitD m u = 0 := by
  rcases fitD_is (u := u) hm with ⟨e, _⟩ | ⟨h1, h2⟩
  · exact e
  · have := fit_of (bnd_is hm).2.1 h2
    rw [h _ h1 h2.2.2.2.1] at this; cases this
theorem fit_at {m u d : Int} (hm : 1 ≤ m) (h0 : 1 ≤ d) (h1 : d ≤ bndB m) (h : fitB m u (bndB m) d = true) : fitD m u = d ∧ fitN m u = symR u m d ∧ fitO m u = true :=
  fit_found hm (fit_iff h0 h1 h)
theorem fitO_iff {m u : Int} (hm : 1 ≤ m) : (fitO m u = true → Fits m u (bndB m) (fitN m u) (fitD m u)) ∧ (fitO m u = false → fitD m u = 0 ∧ ∀ n d, ¬ Fits m u (bndB m) n d) := by
  unfold fitO
  rcases fitD_is (u := u) hm with ⟨e, h⟩ | ⟨h1, h2⟩
  · exact ⟨fun hc => by rw [e] at hc; simp at hc, fun _ => ⟨e, h⟩⟩
  · exact ⟨fun _ => h2, fun hc => by simp at hc; omega⟩
/-- the end of the search by division: what is found -/
theorem search_end {m u l lf r f : Int} (hm : 2 ≤ m) (h : EI m u (bndB m) l lf r f) (hr : r ≤ bndB m) :
    (decide (-bndB m ≤ f) && (decide (f ≤ bndB m) && decide ((Int.gcd r f : Int) = 1))) = fitO m u ∧ (fitO m u = true → rlN r f = fitN m u ∧ rlD r f = fitD m u) := by
  have hb := bnd_is (m := m) (by omega)
  obtain ⟨s, hs, sf, h1, h2⟩ := ei_end hb.2.1 hb.1 h hr
  by_cases ho : fitO m u = true
  · obtain ⟨g, f0, f1, e1, e2⟩ := h2 _ _ ((fitO_iff (u := u) (by omega : 1 ≤ m)).1 ho)
    refine ⟨by rw [ho]; simp [f0, f1, g], fun _ => ?_⟩
    have hf : f ≠ 0 := by rintro rfl; simp at sf
    refine low_unique hf (by omega) ?_ ?_
    · rw [e1, e2]
      rcases hs with rfl | rfl
      · rw [Int.one_mul, Int.one_mul]; exact g
      · rw [show -1 * r = -r by omega, show -1 * f = -f by omega, Int.gcd_neg, Int.neg_gcd]; exact g
    · rw [e1, e2]; grind
  · have ho' : fitO m u = false := by simpa using ho
    refine ⟨?_, fun hc => absurd hc ho⟩
    rw [ho']
    have hn := ((fitO_iff (u := u) (by omega : 1 ≤ m)).2 ho').2
    cases ha : decide (-bndB m ≤ f)
    · rfl
    cases hb : decide (f ≤ bndB m)
    · rfl
    cases hc : decide ((Int.gcd r f : Int) = 1)
    · rfl
    · exact absurd (h1 (by have := of_decide_eq_true hc; omega) (of_decide_eq_true ha) (of_decide_eq_true hb)) (hn _ _)
/-- multiplied by a power of p, as long as it is a value -/
def mF : Nat → Int → Int → Int
  | 0, n, p => n
  | k + 1, n, p => if valueB n then mF k (n * p) p else n
theorem mF_no {n p : Int} (h : valueB n = false) (k : Nat) : mF k n p = n := by cases k <;> simp [mF, h]
theorem mF_step {n p : Int} {k : Nat} (h : valueB n = true) : mF (k + 1) n p = mF k (n * p) p := by simp [mF, h]
theorem mF_pow {p : Int} : ∀ (k : Nat) (n : Int), valueB (mF k n p) = true → mF k n p = n * p ^ k := by
  intro k
  induction k with
  | zero => intro n _; simp [mF]
  | succ k ih =>
    intro n h
    by_cases hv : valueB n = true
    · rw [mF_step hv] at h ⊢
      rw [ih _ h, Int.pow_succ]; grind
    · have hv' : valueB n = false := by simpa using hv
      rw [mF_no hv'] at h
      rw [hv'] at h; cases h
theorem val97 {n p : Int} (hp : 2 ≤ p) (hq : p ≤ 97) (h : valueB n = true) : -97000000000000 ≤ n * p ∧ n * p ≤ 97000000000000 := by
  have hb := valueB_bd h
  have : n.natAbs * p.natAbs ≤ 1000000000000 * 97 := Nat.mul_le_mul (by omega) (by omega)
  rw [← Int.natAbs_mul] at this
  omega
end Go.Proofs.Ytgckamlibbjgcaa
