/- Plain mathematics of chapter 11: steps of Newton, lifts and that there is only one. -/
import Derived.Test.YtckpeoadglkbgaaModDer
import Derived.Test.YtckpeoadglkbgaaModFrob
import Derived.Test.YtckpeoadglkbgaaBezPos
namespace Go.Proofs.Ytckpeoadglkbgaa
set_option linter.unusedVariables false
set_option linter.unusedSimpArgs false
/-- the value by a modulus -/
def vM (m : Int) (f : List Int) (x : Int) : Int := evM m f x f.length
theorem vM_dvd (m : Int) (f : List Int) (x : Int) : m ∣ vM m f x - pval f x := by
  have h := evM_dvd m f x f.length
  have e : evalD f x f.length = pval f x := by
    rw [evalD_pv f x f.length (Nat.le_refl _)]
    unfold pval
    exact pv_congr fun i _ => by rw [Nat.sub_self, Nat.zero_add]
  rw [e] at h
  exact h
theorem vM_range {m : Int} (hm : 0 < m) (f : List Int) (x : Int) : 0 ≤ vM m f x ∧ vM m f x < m := by
  unfold vM
  cases hl : f.length with
  | zero => simp [evM]; exact hm
  | succ j => exact ⟨Int.emod_nonneg _ (by omega), Int.emod_lt_of_pos _ hm⟩
theorem vM_is {m : Int} (hm : 0 < m) (f : List Int) (x : Int) : vM m f x = pval f x % m := by
  obtain ⟨a, b⟩ := vM_range hm f x
  obtain ⟨c, hc⟩ := vM_dvd m f x
  rw [show pval f x = vM m f x + m * (-c) by grind, Int.add_mul_emod_self_left, Int.emod_eq_of_lt a b]
theorem vM_zero {m : Int} (hm : 0 < m) (f : List Int) (x : Int) : vM m f x = 0 ↔ m ∣ pval f x := by
  rw [vM_is hm]
  exact ⟨Int.dvd_of_emod_eq_zero, Int.emod_eq_zero_of_dvd⟩
/-- values of what is congruent are congruent -/
theorem pval_cong {m x y : Int} (h : m ∣ y - x) (f : List Int) : m ∣ pval f y - pval f x := by
  obtain ⟨R, hR⟩ := taylor x (y - x) f
  obtain ⟨c, hc⟩ := h
  rw [show x + (y - x) = y by omega] at hR
  rw [hR, hc]
  exact ⟨c * pval (derL f) x + c * (m * c) * R, by grind⟩
theorem vM_cong {m x y : Int} (hm : 0 < m) (h : m ∣ y - x) (f : List Int) : vM m f y = vM m f x := by
  rw [vM_is hm, vM_is hm]
  have := pval_cong h f
  exact Int.emod_eq_emod_iff_emod_sub_eq_zero.2 (Int.emod_eq_zero_of_dvd this)
/-- a power of a prime that divides a product one factor of which it is prime to -/
theorem pow_cancel {p c : Int} (hp : PrimeP p) (hc : ¬ p ∣ c) : ∀ (n : Nat) (e : Int), p ^ n ∣ e * c → p ^ n ∣ e
  | 0, e, _ => by rw [Int.pow_zero]; exact Int.one_dvd e
  | n + 1, e, h => by
    have hpe : p ∣ e * c := Int.dvd_trans ⟨p ^ n, by rw [Int.pow_succ, Int.mul_comm]⟩ h
    rcases hp.2 _ _ hpe with h1 | h1
    · obtain ⟨d, rfl⟩ := h1
      have h2 : p ^ n ∣ d * c := by
        obtain ⟨k, hk⟩ := h
        refine ⟨k, ?_⟩
        rw [Int.pow_succ] at hk
        have : p * (d * c) = p * (p ^ n * k) := by grind
        exact Int.eq_of_mul_eq_mul_left (by have := hp.1; omega) this
      obtain ⟨k, hk⟩ := pow_cancel hp hc n d h2
      exact ⟨k, by rw [hk, Int.pow_succ]; grind⟩
    · exact absurd h1 hc
/-- Hensel: only one root with that remainder -/
theorem hensel_one {p x y : Int} {n : Nat} {f : List Int} (hp : PrimeP p) (hxy : p ∣ y - x) (hd : ¬ p ∣ pval (derL f) x) (hx : p ^ n ∣ pval f x) (hy : p ^ n ∣ pval f y) : p ^ n ∣ y - x := by
  obtain ⟨R, hR⟩ := taylor x (y - x) f
  rw [show x + (y - x) = y by omega] at hR
  refine pow_cancel hp (c := pval (derL f) x + (y - x) * R) ?_ n (y - x) ?_
  · intro h
    obtain ⟨a, ha⟩ := h
    obtain ⟨b, hb⟩ := hxy
    exact hd ⟨a - b * R, by rw [hb] at ha; grind⟩
  · obtain ⟨a, ha⟩ := hx
    obtain ⟨b, hb⟩ := hy
    exact ⟨b - a, by rw [ha, hb] at hR; grind⟩
/-- a step of Newton -/
theorem newton_step {f : List Int} {x x' u M D q : Int} (hu : M ∣ u * pval (derL f) x - 1) (hq : q ∣ pval f x) (h1 : D ∣ M) (h2 : D ∣ q * q) (hx : M ∣ x' - (x - pval f x * u)) : D ∣ pval f x' := by
  obtain ⟨R, hR⟩ := taylor x (x' - x) f
  rw [show x + (x' - x) = x' by omega] at hR
  obtain ⟨a, ha⟩ := hu
  obtain ⟨b, hb⟩ := hq
  obtain ⟨c, hc⟩ := h1
  obtain ⟨d, hd⟩ := h2
  obtain ⟨t, ht⟩ := hx
  have e1 : x' - x = M * t - pval f x * u := by omega
  rw [hR, e1]
  have e2 : pval f x + (M * t - pval f x * u) * pval (derL f) x = M * (t * pval (derL f) x - pval f x * a) := by
    have : u * pval (derL f) x = 1 + M * a := by omega
    grind
  have e3 : (M * t - pval f x * u) * (M * t - pval f x * u) = M * (M * t * t - 2 * t * (pval f x * u)) + (q * q) * (b * b * (u * u)) := by rw [hb]; grind
  rw [e2, e3, hd, hc]
  exact ⟨c * (t * pval (derL f) x - pval f x * a) + (c * (D * c * t * t - 2 * t * (pval f x * u)) + d * (b * b * (u * u))) * R, by grind⟩
theorem newton_near {f : List Int} {x x' u M q : Int} (hq : q ∣ pval f x) (h1 : q ∣ M) (hx : M ∣ x' - (x - pval f x * u)) : q ∣ x' - x := by
  obtain ⟨b, hb⟩ := hq
  obtain ⟨c, hc⟩ := h1
  obtain ⟨t, ht⟩ := hx
  exact ⟨c * t - b * u, by rw [hc, hb] at ht; grind⟩
/-- the derivative stays prime to p -/
theorem der_stays {p x y : Int} {f : List Int} (h : p ∣ y - x) (hd : ¬ p ∣ pval (derL f) x) : ¬ p ∣ pval (derL f) y := by
  intro h2
  obtain ⟨a, ha⟩ := pval_cong h (derL f)
  obtain ⟨b, hb⟩ := h2
  exact hd ⟨b - a, by grind⟩
/-! lifts -/
def SimpleR (p : Int) (f : List Int) (a : Int) : Prop := p ∣ pval f a ∧ ¬ p ∣ pval (derL f) a
def LiftOf (p : Int) (n : Nat) (f : List Int) (a x : Int) : Prop := 0 ≤ x ∧ x < p ^ n ∧ p ∣ x - a ∧ p ^ n ∣ pval f x
theorem same_residue {m x y : Int} (hx : 0 ≤ x) (hx1 : x < m) (hy : 0 ≤ y) (hy1 : y < m) (h : m ∣ y - x) : x = y := by
  have e := Int.emod_eq_emod_iff_emod_sub_eq_zero.2 (Int.emod_eq_zero_of_dvd h)
  rw [Int.emod_eq_of_lt hx hx1, Int.emod_eq_of_lt hy hy1] at e
  exact e.symm
theorem lift_one {p a x y : Int} {n : Nat} {f : List Int} (hp : PrimeP p) (hs : SimpleR p f a) (hx : LiftOf p n f a x) (hy : LiftOf p n f a y) : x = y := by
  have hxy : p ∣ y - x := by
    obtain ⟨b, hb⟩ := hx.2.2.1
    obtain ⟨c, hc⟩ := hy.2.2.1
    exact ⟨c - b, by grind⟩
  exact same_residue hx.1 hx.2.1 hy.1 hy.2.1 (hensel_one hp hxy (der_stays hx.2.2.1 hs.2) hx.2.2.2 hy.2.2.2)
/-- a root that is a lift stays where it is -/
theorem lift_stays {p x u : Int} {n : Nat} {f : List Int} (h0 : 0 ≤ x) (h1 : x < p ^ n) (h : p ^ n ∣ pval f x) : (x - vM (p ^ n) f x * u) % p ^ n = x := by
  have hm : 0 < p ^ n := by omega
  rw [(vM_zero hm f x).2 h, Int.zero_mul, Int.sub_zero, Int.emod_eq_of_lt h0 h1]
/-- what holds on the way to a lift: p^k divides the value -/
def OnWay (p : Int) (n : Nat) (f : List Int) (a : Int) (k : Nat) (x : Int) : Prop := 0 ≤ x ∧ x < p ^ n ∧ p ∣ x - a ∧ p ^ k ∣ pval f x
theorem onway_start {p a : Int} {n : Nat} {f : List Int} (hp : 2 ≤ p) (hn : 1 ≤ n) (h0 : 0 ≤ a) (h1 : a < p) (hs : SimpleR p f a) : OnWay p n f a 1 a := by
  refine ⟨h0, ?_, by rw [Int.sub_self]; exact Int.dvd_zero p, by simpa [Int.pow_succ] using hs.1⟩
  obtain ⟨m, rfl⟩ : ∃ m, n = m + 1 := ⟨n - 1, by omega⟩
  have hq : ∀ m : Nat, 1 ≤ p ^ m := fun m => by
    induction m with
    | zero => simp
    | succ m ih => rw [Int.pow_succ]; have := Int.mul_le_mul_of_nonneg_left (show (1 : Int) ≤ p by omega) (show 0 ≤ p ^ m by omega); omega
  have := Int.mul_le_mul_of_nonneg_right (hq m) (show 0 ≤ p by omega)
  rw [Int.pow_succ]; omega
theorem pow_div {p : Int} {a b : Nat} (h : a ≤ b) : p ^ a ∣ p ^ b := ⟨p ^ (b - a), by rw [← Int.pow_add]; congr 1; omega⟩
/-- one step doubles what is right -/
theorem onway_step {p a x u : Int} {n k : Nat} {f : List Int} (hp : 2 ≤ p) (hk : 1 ≤ k) (hkn : k ≤ n) (h : OnWay p n f a k x) (hu : p ^ n ∣ u * vM (p ^ n) (derL f) x - 1) (hm : 0 < p ^ n) :
    OnWay p n f a (min (2 * k) n) ((x - vM (p ^ n) f x * u) % p ^ n) := by
  have hu2 : p ^ n ∣ u * pval (derL f) x - 1 := by
    obtain ⟨c, hc⟩ := hu
    obtain ⟨d, hd⟩ := vM_dvd (p ^ n) (derL f) x
    exact ⟨c - u * d, by grind⟩
  have hx : p ^ n ∣ (x - vM (p ^ n) f x * u) % p ^ n - (x - pval f x * u) := by
    obtain ⟨d, hd⟩ := vM_dvd (p ^ n) f x
    have e := Int.emod_add_mul_ediv (x - vM (p ^ n) f x * u) (p ^ n)
    exact ⟨-((x - vM (p ^ n) f x * u) / p ^ n) - d * u, by grind⟩
  refine ⟨Int.emod_nonneg _ (by omega), Int.emod_lt_of_pos _ hm, ?_, ?_⟩
  · have hn := newton_near h.2.2.2 (pow_div hkn) hx
    have hp1 : p ∣ p ^ k := by have := pow_div (p := p) hk; simpa [Int.pow_succ] using this
    obtain ⟨c, hc⟩ := Int.dvd_trans hp1 hn
    obtain ⟨d, hd⟩ := h.2.2.1
    exact ⟨c + d, by grind⟩
  · refine newton_step hu2 h.2.2.2 (pow_div (Nat.min_le_right _ _)) ?_ hx
    rw [← Int.pow_add]
    exact pow_div (by omega)
theorem onway_lift {p a x : Int} {n : Nat} {f : List Int} (h : OnWay p n f a n x) : LiftOf p n f a x := h
end Go.Proofs.Ytckpeoadglkbgaa
