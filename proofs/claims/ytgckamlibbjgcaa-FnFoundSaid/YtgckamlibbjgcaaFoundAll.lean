/- The walk of the law FnFound: true for every code; below the old memory nothing has turned. (joined of several texts) -/
import Derived.Test.YtgckamlibbjgcaaPadExp3
import Derived.Test.YtgckamlibbjgcaaRatVal
import Derived.Test.YtgckamlibbjgcaaRatImpl4
import Derived.Deep.DeepCutAuto
import Derived.Test.YtgckamlibbjgcaaPadSpec3
import Derived.Test.YtgckamlibbjgcaaRatDraw2
import Derived.Test.YtgckamlibbjgcaaPadSpec
import Derived.Test.YtgckamlibbjgcaaCommonLaw
import Derived.OpenShut
namespace Go.Proofs.Ytgckamlibbjgcaa
open Go.RowKit
set_option linter.unusedVariables false
theorem lim_zero {p v u n : Int} (h : limC p v u n = 0) : padB p v u n = true := by
  unfold limC at h; split at h
  · assumption
  · omega
theorem lim_or (p v u n : Int) : limC p v u n = 0 ∨ limC p v u n = 3 := by unfold limC; split <;> simp
theorem self_mod {p v u n : Int} (h : POk p v u n) : u % pw p n = u := by
  obtain ⟨_, _, _, _, _, _, h1, h2, _⟩ := pok_bd h
  exact Int.emod_eq_of_lt h1 h2
theorem sum_neg {p v u n : Int} (h : POk p v u n) :
    sumC p v u n p v (negU p u n) n = 0 ∧ sumQ p v u n p v (negU p u n) n = (p, v + n, 0, 0) ∨ sumC p v u n p v (negU p u n) n = 3 := by
  have ht := twoC_ok h (neg_ok h)
  have hn := (pok_bd h).2.2.1
  have ha := add_neg (k := n) h hn (Int.le_refl _) (Or.inl rfl)
  rw [self_mod h] at ha
  have hc : sumC p v u n p v (negU p u n) n = limC p (v + n) 0 0 := by simp [sumC, ht, ha]
  have hq : sumQ p v u n p v (negU p u n) n = resQ p (v + n) 0 0 := by simp [sumQ, ht, ha]
  rcases lim_or p (v + n) 0 0 with h0 | h3
  · exact .inl ⟨by rw [hc, h0], by rw [hq]; simp [resQ, lim_zero h0]⟩
  · exact .inr (by rw [hc, h3])
theorem sum_ok {p v u n q v' u' n' : Int} (h : sumC p v u n q v' u' n' = 0) :
    p = q ∧ POk p v u n ∧ POk q v' u' n' ∧ padB (sumQ p v u n q v' u' n').1 (sumQ p v u n q v' u' n').2.1 (sumQ p v u n q v' u' n').2.2.1 (sumQ p v u n q v' u' n').2.2.2 = true ∧
    sumQ q v' u' n' p v u n = sumQ p v u n q v' u' n' ∧ sumC q v' u' n' p v u n = 0 ∧ (sumQ p v u n q v' u' n').2.1 + (sumQ p v u n q v' u' n').2.2.2 = min (v + n) (v' + n') := by
  by_cases ht : twoC p v u n q v' u' n' = 0
  · obtain ⟨hx, hy, rfl⟩ := twoC_zero ht
    have hs : sumC p v u n p v' u' n' = limC p (addT p v u n v' u' n').1 (addT p v u n v' u' n').2.1 (addT p v u n v' u' n').2.2 := by simp [sumC, ht]
    rw [hs] at h
    have hb := lim_zero h
    have hq : sumQ p v u n p v' u' n' = (p, (addT p v u n v' u' n').1, (addT p v u n v' u' n').2.1, (addT p v u n v' u' n').2.2) := by simp [sumQ, ht, resQ, hb]
    have ht' := twoC_ok hy hx
    have hc := add_comm_pad hx hy
    have hq' : sumQ p v' u' n' p v u n = sumQ p v u n p v' u' n' := by rw [hq]; simp [sumQ, ht', resQ, ← hc, hb]
    have hs' : sumC p v' u' n' p v u n = 0 := by simp [sumC, ht', ← hc, h]
    refine ⟨rfl, hx, hy, by rw [hq]; exact hb, hq', hs', ?_⟩
    rw [hq]
    exact add_end p v u n v' u' n'
  · simp [sumC, ht] at h
theorem end_of {p v u n : Int} (h : padB p v u n = true) : endV p v u n = v + n ∧ negC p v u n = 0 := by simp [endV, negC, h]
theorem dvd_pw {p k : Int} (hk : 1 ≤ k) : p ∣ pw p k := by
  have e := pw_add (p := p) (a := k - 1) (b := 1) (by omega) (by omega)
  rw [show k - 1 + 1 = k by omega, pw_one] at e
  exact ⟨pw p (k - 1), by rw [e, Int.mul_comm]⟩
theorem cut_ok {p v u n k : Int} (h : cutC p v u n k = 0) :
    POk p v u n ∧ 1 ≤ k ∧ k ≤ n ∧ cutQ p v u n k = (p, v, u % pw p k, k) ∧ POk p v (u % pw p k) k ∧
    (eqC p v u n p v (u % pw p k) k = 0 ∧ eqV p v u n p v (u % pw p k) k = v + k ∨ eqC p v u n p v (u % pw p k) k = 3) := by
  unfold cutC at h
  split at h
  · rename_i hb
    have hx := padB_ok hb
    split at h
    · rename_i hk
      obtain ⟨hp2, hp97, hn0, hn1, hm0, hm1, hu0, hu1, hu2⟩ := pok_bd hx
      have hpart := pw_part (p := p) (n := n) (e := k) hp2 hm1 hk.2
      have hn : n ≠ 0 := by omega
      obtain ⟨_, _, _, _, _, hup⟩ := pok_ring hx hn
      have hd : u % pw p k % p = u % p := Int.emod_emod_of_dvd _ (dvd_pw hk.1)
      have r0 := Int.emod_nonneg u (show pw p k ≠ 0 by omega)
      have r1 := Int.emod_lt_of_pos u (show 0 < pw p k by omega)
      have r2 : u % pw p k ≠ 0 := by
        intro hz; rw [hz] at hd; apply hup; rw [← hd]; rfl
      have hD : POk p v (u % pw p k) k := ⟨hx.1, hx.2.1, hx.2.2.1, by omega, hpart.2, .inr ⟨hk.1, by omega, r1, by rw [hd]; exact hup⟩⟩
      have ht := twoC_ok hx hD
      have ha : difT p v u n v (u % pw p k) k = (v + k, 0, 0) := add_neg hx (by omega) hk.2 (Or.inr hk.1)
      have hc : eqC p v u n p v (u % pw p k) k = limC p (v + k) 0 0 := by simp [eqC, ht, ha]
      have hv : eqV p v u n p v (u % pw p k) k = (resQ p (v + k) 0 0).2.1 := by simp [eqV, ht, ha]
      refine ⟨hx, hk.1, hk.2, by simp [cutQ, hb, hk], hD, ?_⟩
      rcases lim_or p (v + k) 0 0 with h0 | h3
      · exact .inl ⟨by rw [hc, h0], by rw [hv]; simp [resQ, lim_zero h0]⟩
      · exact .inr (by rw [hc, h3])
    · omega
  · omega
theorem inv_ok {p v u n : Int} (h : invC p v u n = 0) :
    POk p v u n ∧ invQ p v u n = (p, -v, invV p n u, n) ∧ proC p v u n p (-v) (invV p n u) n = 0 ∧ proQ p v u n p (-v) (invV p n u) n = (p, 0, 1, n) := by
  unfold invC at h
  split at h
  · rename_i hb
    have hx := padB_ok hb
    split at h
    · omega
    · rename_i hn
      obtain ⟨e1, e2, e3, e4, e5, e6⟩ := pok_ring hx hn
      obtain ⟨hp2, hp97, _, _, hm1, hm2, _⟩ := ringM_bd e2
      have hi : invV p n u = bezX u (ringM p n) % ringM p n := by
        have : unitC p n u = 0 := by simp [unitC, resC, e2, show 0 ≤ u by omega, e5, e6]
        simp [invV, this]
      have i0 := Int.emod_nonneg (bezX u (ringM p n)) e2
      have i1 := Int.emod_lt_of_pos (bezX u (ringM p n)) (show 0 < ringM p n by omega)
      rw [← hi] at i0 i1
      have hm := bez_inverse (a := u) (m := ringM p n) (by omega) e5 hm1 hm2 (coprime_ring e2 e6)
      rw [← hi] at hm
      have hQ : invQ p v u n = (p, -v, invV p n u, n) := by simp [invQ, hb, hn]
      generalize invV p n u = g at *
      have hg : g % p ≠ 0 := by
        intro hz
        have h1 : u * g % p = 0 := by rw [Int.mul_emod, hz, Int.mul_zero]; rfl
        have h2 : u * g % ringM p n % p = u * g % p := emod_ringM e2
        rw [hm, h1, Int.emod_eq_of_lt (by omega) (by omega)] at h2
        omega
      have hg1 : 1 ≤ g := by
        apply Classical.byContradiction; intro hc
        have : g = 0 := by omega
        apply hg; rw [this]; rfl
      have hI : POk p (-v) g n := ⟨hx.1, by have := hx.2.2.1; omega, by have := hx.2.1; omega, hx.2.2.2.1, hx.2.2.2.2.1, .inr ⟨e3, hg1, by omega, hg⟩⟩
      have ht := twoC_ok hx hI
      have hN : mulN n n = n := by unfold mulN; omega
      have hU : mulU p u n g n = 1 := by unfold mulU; rw [hN, ← e1]; exact hm
      have h1 : padB p 0 1 n = true := ok_padB ⟨hx.1, by omega, by omega, hx.2.2.2.1, hx.2.2.2.2.1, .inr ⟨e3, by omega, by omega, by rw [Int.emod_eq_of_lt (by omega) (by omega)]; omega⟩⟩
      have hz : v + -v = 0 := by omega
      refine ⟨hx, hQ, by simp [proC, ht, hN, hU, hz, limC, h1], by simp [proQ, ht, hN, hU, hz, resQ, h1]⟩
  · omega
theorem pro_ok {p v u n q v' u' n' : Int} (h : proC p v u n q v' u' n' = 0) :
    POk p v u n ∧ POk q v' u' n' ∧ (proQ p v u n q v' u' n').2.1 = v + v' ∧ (proQ p v u n q v' u' n').2.2.2 = min n n' := by
  by_cases ht : twoC p v u n q v' u' n' = 0
  · obtain ⟨hx, hy, rfl⟩ := twoC_zero ht
    have hs : proC p v u n p v' u' n' = limC p (v + v') (mulU p u n u' n') (mulN n n') := by simp [proC, ht]
    rw [hs] at h
    have hb := lim_zero h
    have hq : proQ p v u n p v' u' n' = (p, v + v', mulU p u n u' n', mulN n n') := by simp [proQ, ht, resQ, hb]
    exact ⟨hx, hy, by rw [hq], by rw [hq]; rfl⟩
  · simp [proC, ht] at h
theorem dig_ok {p v u n k : Int} (h : digC p v u n k = 0) : 0 ≤ digV p v u n k ∧ digV p v u n k < p := by
  unfold digC at h
  split at h
  · rename_i hb
    obtain ⟨hp2, _⟩ := pok_bd (padB_ok hb)
    split at h
    · omega
    · rename_i he
      by_cases hl : k < v
      · have : digV p v u n k = 0 := by simp [digV, hl]
        omega
      · have : digV p v u n k = u / pw p (k - v) % p := by simp [digV, hb, he, hl]
        rw [this]
        exact ⟨Int.emod_nonneg _ (by omega), Int.emod_lt_of_pos _ (by omega)⟩
  · omega
theorem made_ok {p m k : Int} (h : madeC p m k = 0) :
    2 ≤ p ∧ p ≤ 97 ∧ -1000000000000 ≤ m ∧ m ≤ 1000000000000 ∧ padB (madeQ p m k).1 (madeQ p m k).2.1 (madeQ p m k).2.2.1 (madeQ p m k).2.2.2 = true ∧
    digC (madeQ p m k).1 (madeQ p m k).2.1 (madeQ p m k).2.2.1 (madeQ p m k).2.2.2 0 = 0 ∧ digV (madeQ p m k).1 (madeQ p m k).2.1 (madeQ p m k).2.2.1 (madeQ p m k).2.2.2 0 = m % p := by
  unfold madeC at h
  split at h
  · omega
  · rename_i h0
    split at h
    · rename_i hv
      have hb : valueB m = true ∧ m ≠ 0 := by simpa using hv
      have hvb := valueB_bd hb.1
      obtain ⟨hp2, hp97, hk1, hk2, hm1, hm2, _⟩ := ringM_bd h0
      have hs := (ringM_in h0).1
      obtain ⟨a, b, c0, c1⟩ := pad_val hp2 hb.2 (by omega)
      have hq : madeQ p m k = (p, valCount m p, valRest m p % ringM p k, k) := by simp [madeQ, h0, hb.1, hb.2]
      have hM := pw_ringM h0
      have hd : valRest m p % ringM p k % p = valRest m p % p := emod_ringM h0
      have hne : valRest m p % p ≠ 0 := by
        intro hz; apply b
        exact Int.tmod_eq_zero_of_dvd (Int.dvd_of_emod_eq_zero hz)
      have r0 := Int.emod_nonneg (valRest m p) h0
      have r1 := Int.emod_lt_of_pos (valRest m p) (show 0 < ringM p k by omega)
      have r2 : valRest m p % ringM p k ≠ 0 := by
        intro hz; rw [hz] at hd; apply hne; rw [← hd]; rfl
      have hok : POk p (valCount m p) (valRest m p % ringM p k) k := ⟨hs, by omega, by omega, by omega, by omega, .inr ⟨hk1, by omega, by omega, by rw [hd]; exact hne⟩⟩
      have hpb := ok_padB hok
      have he : ¬ valCount m p + k ≤ 0 := by omega
      rw [hq]
      refine ⟨hp2, hp97, hvb.1, hvb.2, hpb, by simp [digC, hpb, he], ?_⟩
      show digV p (valCount m p) (valRest m p % ringM p k) k 0 = m % p
      by_cases hc : 0 < valCount m p
      · have e1 : digV p (valCount m p) (valRest m p % ringM p k) k 0 = 0 := by simp [digV, hc]
        rw [e1]
        have hdv : p ∣ m := by
          obtain ⟨x, hx⟩ := dvd_pw (p := p) (k := valCount m p) (by omega)
          exact ⟨valRest m p * x, by rw [← a]; rw [hx]; grind⟩
        exact (Int.emod_eq_zero_of_dvd hdv).symm
      · have hz : valCount m p = 0 := by omega
        rw [hz, pw_zero, Int.mul_one] at a
        have e1 : digV p (valCount m p) (valRest m p % ringM p k) k 0 = valRest m p % ringM p k / pw p (0 - valCount m p) % p := by simp only [digV, hpb, he, hc, if_true, if_false]
        rw [e1, hz, show (0 : Int) - 0 = 0 by omega, pw_zero, Int.ediv_one, hd, a]
    · omega
end Go.Proofs.Ytgckamlibbjgcaa
namespace Go.Proofs.Ytgckamlibbjgcaa
open Go.RowKit
set_option linter.unusedVariables false
/-- the unit of the p-adic number of a rational number -/
def pofU (n d p k : Int) : Int := valRest n p % ringM p k * invV p k (valRest d p % ringM p k) % ringM p k
def pofT (n d p k : Int) : Q4 := (p, valCount n p - valCount d p, pofU n d p k, k)
def pofC (n d p k : Int) : Int := if isRatB n d && ringB p k then (if n = 0 then 5 else 0) else 1
def pofQ (n d p k : Int) : Q4 := if pofC n d p k = 0 then pofT n d p k else (0, 0, 0, 0)
theorem pof_zero {n d p k : Int} (h : pofC n d p k = 0) : isRatB n d = true ∧ ringM p k ≠ 0 ∧ n ≠ 0 ∧ pofQ n d p k = pofT n d p k := by
  have hq : pofQ n d p k = pofT n d p k := by unfold pofQ; rw [if_pos h]
  unfold pofC at h
  split at h
  · rename_i hv
    simp only [Bool.and_eq_true] at hv
    split at h
    · omega
    · refine ⟨hv.1, ?_, ‹_›, hq⟩
      intro hz; rw [ringB_f hz] at hv; cases hv.2
  · omega
theorem inv_unit {p k a : Int} (h : ringM p k ≠ 0) (h0 : 0 ≤ a) (h1 : a < ringM p k) (hu : a % p ≠ 0) :
    unitC p k a = 0 ∧ 1 ≤ invV p k a ∧ invV p k a < ringM p k ∧ a * invV p k a % ringM p k = 1 ∧ invV p k a % p ≠ 0 := by
  obtain ⟨hp2, hp97, _, _, hm1, hm2, _⟩ := ringM_bd h
  have hc : unitC p k a = 0 := by simp [unitC, resC, h, h0, h1, hu]
  have hi : invV p k a = bezX a (ringM p k) % ringM p k := by simp [invV, hc]
  have i0 := Int.emod_nonneg (bezX a (ringM p k)) h
  have i1 := Int.emod_lt_of_pos (bezX a (ringM p k)) (show 0 < ringM p k by omega)
  rw [← hi] at i0 i1
  have hm := bez_inverse (a := a) (m := ringM p k) (by omega) h1 hm1 hm2 (coprime_ring h hu)
  rw [← hi] at hm
  generalize invV p k a = g at *
  have hg : g % p ≠ 0 := by
    intro hz
    have x1 : a * g % p = 0 := by rw [Int.mul_emod, hz, Int.mul_zero]; rfl
    have x2 : a * g % ringM p k % p = a * g % p := emod_ringM h
    rw [hm, x1, Int.emod_eq_of_lt (by omega) (by omega)] at x2
    omega
  refine ⟨hc, ?_, i1, hm, hg⟩
  have : g ≠ 0 := by rintro rfl; simp at hg
  omega
theorem emod_dvd_sub (a m : Int) : m ∣ a - a % m := by
  have e := Int.mul_ediv_add_emod a m
  exact ⟨a / m, by omega⟩
/-- the unit of the number: it is one, and the numerator is it times the denominator -/
theorem pof_unit {n d p k : Int} (h : ringM p k ≠ 0) (hn : valRest n p % p ≠ 0) (hd : valRest d p % p ≠ 0) :
    1 ≤ pofU n d p k ∧ pofU n d p k < ringM p k ∧ pofU n d p k % p ≠ 0 ∧ ringM p k ∣ valRest n p - pofU n d p k * valRest d p := by
  have hs := (ringM_in h).1
  obtain ⟨hp2, hp97, _, _, hm1, hm2, _⟩ := ringM_bd h
  have d0 := Int.emod_nonneg (valRest d p) h
  have d1 := Int.emod_lt_of_pos (valRest d p) (show 0 < ringM p k by omega)
  have du : valRest d p % ringM p k % p ≠ 0 := by rw [emod_ringM h]; exact hd
  have nu : valRest n p % ringM p k % p ≠ 0 := by rw [emod_ringM h]; exact hn
  obtain ⟨_, g1, g2, g3, g4⟩ := inv_unit h d0 d1 du
  have hU : pofU n d p k = valRest n p % ringM p k * invV p k (valRest d p % ringM p k) % ringM p k := rfl
  generalize invV p k (valRest d p % ringM p k) = g at *
  have u0 := Int.emod_nonneg (valRest n p % ringM p k * g) h
  have u1 := Int.emod_lt_of_pos (valRest n p % ringM p k * g) (show 0 < ringM p k by omega)
  have uu : pofU n d p k % p ≠ 0 := by rw [hU, emod_ringM h]; exact prime_mul hs nu g4
  rw [← hU] at u0 u1
  have un : pofU n d p k ≠ 0 := by intro hz; rw [hz] at uu; simp at uu
  refine ⟨by omega, u1, uu, ?_⟩
  have x1 := emod_dvd_sub (valRest n p % ringM p k * g) (ringM p k)
  rw [← hU] at x1
  have x2 := emod_dvd_sub (valRest n p) (ringM p k)
  have x3 := emod_dvd_sub (valRest d p) (ringM p k)
  have x4 := emod_dvd_sub (valRest d p % ringM p k * g) (ringM p k)
  rw [g3] at x4
  obtain ⟨c1, e1⟩ := x1
  obtain ⟨c2, e2⟩ := x2
  obtain ⟨c3, e3⟩ := x3
  obtain ⟨c4, e4⟩ := x4
  generalize valRest n p % ringM p k = n' at *
  generalize valRest d p % ringM p k = d' at *
  generalize ringM p k = M at *
  generalize valRest n p = rn at *
  generalize valRest d p = rd at *
  generalize pofU n d p k = U at *
  refine ⟨c2 + c1 * rd - n' * g * c3 - n' * c4, ?_⟩
  have a1 : U = n' * g - M * c1 := by omega
  have a2 : rn = n' + M * c2 := by omega
  have a3 : rd = d' + M * c3 := by omega
  have a4 : d' * g = 1 + M * c4 := by omega
  rw [a1, a2]
  have b1 : (n' * g - M * c1) * rd = n' * (g * rd) - M * (c1 * rd) := by grind
  have b2 : g * rd = 1 + M * c4 + M * (c3 * g) := by rw [a3, ← a4]; grind
  rw [b1, b2]
  grind
theorem pof_valid {n d p k : Int} (h : pofC n d p k = 0) : POk p (valCount n p - valCount d p) (pofU n d p k) k ∧ k ≠ 0 := by
  obtain ⟨hr, hm, hn, hq⟩ := pof_zero h
  obtain ⟨n0, n1, d0, d1, g⟩ := isRat_of hr
  have hs := (ringM_in hm).1
  have hp := (smallB_bd hs).1
  obtain ⟨_, _, k1, _, _, m2, _⟩ := ringM_bd hm
  obtain ⟨_, a2, a3, a4⟩ := val_parts hp hn n0 n1
  obtain ⟨_, b2, b3, b4⟩ := val_parts (n := d) hp (by omega) (by omega) d1
  obtain ⟨u1, u2, u3, _⟩ := pof_unit hm a2 b2
  have e := pw_ringM hm
  exact ⟨⟨hs, by omega, by omega, by omega, by omega, .inr ⟨k1, u1, by omega, u3⟩⟩, by omega⟩
/-- the number of a rational number that is told by its parts -/
theorem pof_of {n d p k r s u : Int} {i j : Nat} (hm : ringM p k ≠ 0) (hr : isRatB n d = true) (e1 : n = r * p ^ i) (e2 : d = s * p ^ j) (h1 : r % p ≠ 0) (h2 : s % p ≠ 0)
    (u0 : 0 ≤ u) (u1 : u < ringM p k) (hu : ringM p k ∣ r - u * s) : pofC n d p k = 0 ∧ pofQ n d p k = (p, (i : Int) - j, u, k) := by
  have hs := (ringM_in hm).1
  have hp := (smallB_bd hs).1
  obtain ⟨n0, n1, d0, d1, g⟩ := isRat_of hr
  obtain ⟨a1, a2⟩ := val_of hp n0 n1 h1 e1
  obtain ⟨b1, b2⟩ := val_of hp (by omega) d1 h2 e2
  have hn : n ≠ 0 := by
    intro hz
    rw [hz] at e1
    rcases Int.mul_eq_zero.1 e1.symm with h | h
    · rw [h] at h1; simp at h1
    · exact absurd h (pow_ne hp i)
  have hc : pofC n d p k = 0 := by simp [pofC, hr, ringB_t hm, hn]
  refine ⟨hc, ?_⟩
  obtain ⟨w1, w2, w3, w4⟩ := pof_unit (n := n) (d := d) hm (by rw [a2]; exact h1) (by rw [b2]; exact h2)
  rw [a2, b2] at w4
  have hU : pofU n d p k = u := by
    have hx : ringM p k ∣ s * (pofU n d p k - u) := by
      have e : s * (pofU n d p k - u) = (r - u * s) - (r - pofU n d p k * s) := by grind
      rw [e]; exact Int.dvd_sub hu w4
    have hg := coprime_ring hm h2
    obtain ⟨c, hc⟩ := dvd_left hx hg
    have hc0 : c = 0 := by
      refine Classical.byContradiction fun hne => ?_
      rcases Int.lt_or_gt_of_ne hne with h | h
      · have : ringM p k * c ≤ ringM p k * (-1) := Int.mul_le_mul_of_nonneg_left (by omega) (by omega)
        omega
      · have : ringM p k * 1 ≤ ringM p k * c := Int.mul_le_mul_of_nonneg_left (by omega) (by omega)
        omega
    rw [hc0, Int.mul_zero] at hc
    omega
  rw [(pof_zero hc).2.2.2]
  unfold pofT
  rw [hU, a1, b1]
/-- what is found gives back the number -/
theorem find_back {p v u k : Int} (h : findC p v u k = 0) :
    pofC (findQ p v u k).1 (findQ p v u k).2 p k = 0 ∧ pofQ (findQ p v u k).1 (findQ p v u k).2 p k = (p, v, u, k) ∧ padB p v u k = true ∧ k ≠ 0 := by
  unfold findC at h
  split at h
  · rename_i hb
    have hx := padB_ok hb
    split at h
    · omega
    · rename_i hk
      split at h
      · rename_i ho
        obtain ⟨e0, hm, k1, u1, u2, hu⟩ := pok_ring hx hk
        have hs := hx.1
        have hp := (smallB_bd hs).1
        obtain ⟨_, _, _, _, m1, m2, _⟩ := ringM_bd hm
        have hf := (fitO_iff (u := u) (by omega : 1 ≤ ringM p k)).1 ho
        obtain ⟨hn, hd, _⟩ := fit_unit hs (dvd_ringM hm) hu hf
        have hq : findQ p v u k = rresQ (mF v.toNat (fitN (ringM p k) u) p) (mF (-v).toNat (fitD (ringM p k) u) p) := by simp [findQ, hb, hk, ho]
        have hv : isRatB (mF v.toNat (fitN (ringM p k) u) p) (mF (-v).toNat (fitD (ringM p k) u) p) = true := by
          unfold rlimC at h; split at h
          · assumption
          · omega
        have hq2 : findQ p v u k = (mF v.toNat (fitN (ringM p k) u) p, mF (-v).toNat (fitD (ringM p k) u) p) := by rw [hq]; simp [rresQ, hv]
        obtain ⟨n0, n1, d0, d1, g⟩ := isRat_of hv
        have x1 := mF_pow _ _ (valueB_t n0 n1)
        have x2 := mF_pow _ _ (valueB_t (show -1000000000000 ≤ _ by omega) d1)
        rw [hq2]
        obtain ⟨y1, y2⟩ := pof_of hm hv x1 x2 hn hd (by omega) u2 hf.2.2.2.2.2
        refine ⟨y1, ?_, hb, hk⟩
        rw [y2, show (v.toNat : Int) - ((-v).toNat : Int) = v by omega]
      · omega
  · omega
/-- agreement -/
def agreeC (n d p v u k : Int) : Int := if isRatB n d && padB p v u k then 0 else 1
def agreeB (n d p v u k : Int) : Bool := (isRatB n d && padB p v u k) && (if k = 0 then (n == 0 || decide (v ≤ valCount n p - valCount d p)) else (!(n == 0) && (decide (valCount n p - valCount d p = v) && decide (pofU n d p k = u))))
theorem agree_self {n d p k : Int} (h : pofC n d p k = 0) : agreeC n d (pofQ n d p k).1 (pofQ n d p k).2.1 (pofQ n d p k).2.2.1 (pofQ n d p k).2.2.2 = 0 ∧ agreeB n d (pofQ n d p k).1 (pofQ n d p k).2.1 (pofQ n d p k).2.2.1 (pofQ n d p k).2.2.2 = true := by
  obtain ⟨hr, hm, hn, hq⟩ := pof_zero h
  obtain ⟨hv, hk⟩ := pof_valid h
  have hb := ok_padB hv
  rw [hq]
  simp [pofT, agreeC, agreeB, hr, hb, hk, hn]
end Go.Proofs.Ytgckamlibbjgcaa
namespace Go.Proofs.Ytgckamlibbjgcaa
open Go.RowKit
set_option linter.unusedVariables false
set_option linter.unusedSimpArgs false
set_option maxRecDepth 20000
theorem implMake_yes (p m k : Int) (w : World) (h : ringM p k ≠ 0) (h0 : m ≠ 0) (h1 : -1000000000000 ≤ m) (h2 : m ≤ 1000000000000) :
    Calls Try.prog 129 #[.int .i64 p, .int .i64 m, .int .i64 k] w fun e w' => e = .returned (.tuple #[.agg (P4 p (valCount m p) (valRest m p % ringM p k) k), .int .i64 0]) ∧ Below w.heap.size w w' := by
  have hq : madeQ p m k = (p, valCount m p, valRest m p % ringM p k, k) := by simp [madeQ, h, valueB_t h1 h2, h0]
  have hc : madeC p m k = 0 := by simp [madeC, h, valueB_t h1 h2, h0]
  have := implMake_any p m k w
  rw [hq, hc] at this
  exact this
theorem implInvert_yes (p v u k : Int) (w : World) (h : POk p v u k) (hk : k ≠ 0) :
    Calls Try.prog 28 #[.agg (P4 p v u k)] w fun e w' => e = .returned (.tuple #[.agg (P4 p (-v) (invV p k u) k), .int .i64 0]) ∧ Below w.heap.size w w' := by
  have hq : invQ p v u k = (p, -v, invV p k u, k) := by simp [invQ, ok_padB h, hk]
  have hc : invC p v u k = 0 := by simp [invC, ok_padB h, hk]
  have := implInvert_any p v u k w
  rw [hq, hc] at this
  exact this
set_option maxHeartbeats 1000000 in
theorem padicIn_core (n d p k vn un vd ud g U : Int) (w : World)
    (HM : Hid (∀ w, Calls Try.prog 129 #[.int .i64 p, .int .i64 n, .int .i64 k] w fun e w' => e = .returned (.tuple #[.agg (P4 p vn un k), .int .i64 0]) ∧ Below w.heap.size w w'))
    (HD : Hid (∀ w, Calls Try.prog 129 #[.int .i64 p, .int .i64 d, .int .i64 k] w fun e w' => e = .returned (.tuple #[.agg (P4 p vd ud k), .int .i64 0]) ∧ Below w.heap.size w w'))
    (HI : Hid (∀ w, Calls Try.prog 28 #[.agg (P4 p vd ud k)] w fun e w' => e = .returned (.tuple #[.agg (P4 p (-vd) g k), .int .i64 0]) ∧ Below w.heap.size w w'))
    (HT : Hid (∀ w, Calls Try.prog 74 #[.agg (P4 p vn un k), .agg (P4 p (-vd) g k)] w fun e w' => e = .returned (.agg (P4 p (vn - vd) U k)) ∧ Below w.heap.size w w')) :
    Calls Try.prog 97 #[.agg (P2 n d), .agg (P2 p k)] w fun e w' => e = .returned (.agg (P4 p (vn - vd) U k)) ∧ Below w.heap.size w w' := by
  go_enter Try.func97, Try.ntmps97
  go_upto_region 2 with (go_at_call 129; refine (HM.out _).mono ?_; rintro e w1 ⟨rfl, hb⟩; have K := k3_first hb)
  replace K := k3_next K (below_a1 w1 (.cells (P4 p vn un k) 34))
  have L1 := lies_new w1 (P4 p vn un k) 34
  clear hb
  generalize w1.alloc (.cells (P4 p vn un k) 34) = V1 at K L1 ⊢
  obtain ⟨q, hq⟩ : ∃ b, w1.heap.size = b := ⟨_, rfl⟩
  rw [hq] at L1 ⊢
  clear hq
  obtain ⟨c0, c1⟩ := lies_pair K.2.1
  obtain ⟨d0, d1⟩ := lies_pair K.2.2.1
  go_upto_region 3 with (go_at_call 129; refine (HD.out _).mono ?_; rintro e w2 ⟨rfl, hb⟩; replace K := k3_next K hb; replace L1 := lies_next L1 hb)
  replace L1 := lies_alloc L1 (.cells (P4 p vd ud k) 34)
  replace K := k3_next K (below_a1 w2 (.cells (P4 p vd ud k) 34))
  have L2 := lies_new w2 (P4 p vd ud k) 34
  clear hb
  generalize w2.alloc (.cells (P4 p vd ud k) 34) = V2 at K L1 L2 ⊢
  obtain ⟨q, hq⟩ : ∃ b, w2.heap.size = b := ⟨_, rfl⟩
  rw [hq] at L2 ⊢
  clear hq
  clear c0 c1 d0 d1
  obtain ⟨g0, g1, g2, g3⟩ := lies_four L2
  go_upto_region 4 with (go_at_call 28; refine (HI.out _).mono ?_; rintro e w3 ⟨rfl, hb⟩; replace K := k3_next K hb; replace L1 := lies_next L1 hb; clear L2)
  replace L1 := lies_alloc L1 (.cells (P4 p (-vd) g k) 34)
  clear g0 g1 g2 g3
  replace K := k3_next K (below_a1 w3 (.cells (P4 p (-vd) g k) 34))
  have L3 := lies_new w3 (P4 p (-vd) g k) 34
  clear hb
  generalize w3.alloc (.cells (P4 p (-vd) g k) 34) = V3 at K L1 L3 ⊢
  obtain ⟨q, hq⟩ : ∃ b, w3.heap.size = b := ⟨_, rfl⟩
  rw [hq] at L3 ⊢
  clear hq
  obtain ⟨f0, f1, f2, f3⟩ := lies_four L1
  obtain ⟨g0, g1, g2, g3⟩ := lies_four L3
  go_wp2_with (go_at_call 74; refine (HT.out _).mono ?_; rintro e w4 ⟨rfl, hb⟩; replace K := k3_next K hb; obtain ⟨e0, e1, e2, e3⟩ := lies_four K.2.2.2; obtain ⟨ef0, ef1, ef2, ef3⟩ := lies_ice K.2.2.2)
  refine bodyPost_ret (v := .agg (P4 p (vn - vd) U k)) (by simp [results, Try.results97, go_sem, e0, e1, e2, e3]) rfl ?_
  exact ⟨rfl, below_set4 K.1 (by omega)⟩
theorem padicIn_any (n d p k : Int) (w : World) (hr : isRatB n d = true) (hn : n ≠ 0) (hm : ringM p k ≠ 0) :
    Calls Try.prog 97 #[.agg (P2 n d), .agg (P2 p k)] w fun e w' => e = .returned (.agg (A4 (pofT n d p k))) ∧ Below w.heap.size w w' := by
  obtain ⟨n0, n1, d0, d1, g⟩ := isRat_of hr
  have hs := (ringM_in hm).1
  have hp := (smallB_bd hs).1
  obtain ⟨_, _, k1, _, m1, m2, _⟩ := ringM_bd hm
  have hd : d ≠ 0 := by omega
  obtain ⟨_, a2, a3, a4⟩ := val_parts hp hn n0 n1
  obtain ⟨_, b2, b3, b4⟩ := val_parts (n := d) hp hd (by omega) d1
  have e := pw_ringM hm
  have ok : ∀ v r : Int, -60 ≤ v → v ≤ 60 → r % p ≠ 0 → 0 ≤ r % ringM p k → POk p v (r % ringM p k) k := by
    intro v r h1 h2 h3 h4
    have h5 := Int.emod_lt_of_pos r (show 0 < ringM p k by omega)
    have h6 : r % ringM p k % p ≠ 0 := by rw [emod_ringM hm]; exact h3
    have h7 : r % ringM p k ≠ 0 := by intro hz; rw [hz] at h6; simp at h6
    exact ⟨hs, h1, h2, by omega, by omega, .inr ⟨k1, by omega, by omega, h6⟩⟩
  have h1 := ok (valCount n p) _ (by omega) (by omega) a2 (Int.emod_nonneg _ hm)
  have h2 := ok (valCount d p) _ (by omega) (by omega) b2 (Int.emod_nonneg _ hm)
  have du : valRest d p % ringM p k % p ≠ 0 := by rw [emod_ringM hm]; exact b2
  obtain ⟨_, g1, g2, g3, g4⟩ := inv_unit hm (Int.emod_nonneg (valRest d p) hm) (Int.emod_lt_of_pos (valRest d p) (show 0 < ringM p k by omega)) du
  have h3 : POk p (-valCount d p) (invV p k (valRest d p % ringM p k)) k := ⟨hs, by omega, by omega, by omega, by omega, .inr ⟨k1, g1, by omega, g4⟩⟩
  have hU : mulU p (valRest n p % ringM p k) k (invV p k (valRest d p % ringM p k)) k = pofU n d p k := by
    unfold mulU pofU mulN
    rw [show min k k = k by omega, e]
  have HT : ∀ w, Calls Try.prog 74 #[.agg (P4 p (valCount n p) (valRest n p % ringM p k) k), .agg (P4 p (-valCount d p) (invV p k (valRest d p % ringM p k)) k)] w fun e w' => e = .returned (.agg (P4 p (valCount n p - valCount d p) (pofU n d p k) k)) ∧ Below w.heap.size w w' := by
    intro w
    have := times_any p _ _ k _ _ k w h1 h3
    rw [hU, show mulN k k = k by unfold mulN; omega, show valCount n p + -valCount d p = valCount n p - valCount d p by omega] at this
    exact this
  exact padicIn_core n d p k _ _ _ _ _ _ w (Lib.hid fun w => implMake_yes p n k w hm hn n0 n1) (Lib.hid fun w => implMake_yes p d k w hm hd (by omega) d1) (Lib.hid fun w => implInvert_yes p _ _ k w h2 (by omega)) (Lib.hid HT)
theorem implPof_any (n d p k : Int) (w : World) :
    Calls Try.prog 41 #[.agg (P2 n d), .agg (P2 p k)] w fun e w' => e = .returned (.tuple #[.agg (A4 (pofQ n d p k)), .int .i64 (pofC n d p k)]) ∧ Below w.heap.size w w' := by
  cases hx : isRatB n d
  · have hc : pofC n d p k = 1 := by simp [pofC, hx]
    rw [show pofQ n d p k = (0, 0, 0, 0) by unfold pofQ; rw [if_neg (by omega)], hc]
    clear hc
    go_enter Try.func41, Try.ntmps41
    go_wp2_with (first | (go_at_call 95; refine (ratValid_any _ _ _).mono ?_; rintro e wn ⟨rfl, hb⟩; (first | have K := k3_first hb | have K := k3_next K hb); obtain ⟨c0, c1⟩ := lies_pair K.2.1; obtain ⟨d0, d1⟩ := lies_pair K.2.2.1; obtain ⟨e0, e1, e2, e3⟩ := lies_four K.2.2.2; obtain ⟨ef0, ef1, ef2, ef3⟩ := lies_ice K.2.2.2) | (go_at_call 21; refine (implIsRing_any _ _ _).mono ?_; rintro e wn ⟨rfl, hb⟩; (first | have K := k3_first hb | have K := k3_next K hb); obtain ⟨c0, c1⟩ := lies_pair K.2.1; obtain ⟨d0, d1⟩ := lies_pair K.2.2.1; obtain ⟨e0, e1, e2, e3⟩ := lies_four K.2.2.2; obtain ⟨ef0, ef1, ef2, ef3⟩ := lies_ice K.2.2.2) | (go_at_call 96; refine (ratZero_any _ _ _).mono ?_; rintro e wn ⟨rfl, hb⟩; (first | have K := k3_first hb | have K := k3_next K hb); obtain ⟨c0, c1⟩ := lies_pair K.2.1; obtain ⟨d0, d1⟩ := lies_pair K.2.2.1; obtain ⟨e0, e1, e2, e3⟩ := lies_four K.2.2.2; obtain ⟨ef0, ef1, ef2, ef3⟩ := lies_ice K.2.2.2))
    refine bodyPost_ret (v := .tuple #[.agg (P4 0 0 0 0), .int .i64 1]) (by simp [results, Try.results41, go_sem, e0, e1, e2, e3]) rfl ?_
    exact ⟨rfl, below_set4 K.1 (by omega)⟩

  · cases hr : ringB p k
    · have hc : pofC n d p k = 1 := by simp [pofC, hr]
      rw [show pofQ n d p k = (0, 0, 0, 0) by unfold pofQ; rw [if_neg (by omega)], hc]
      clear hc
      go_enter Try.func41, Try.ntmps41
      go_wp2_with (first | (go_at_call 95; refine (ratValid_any _ _ _).mono ?_; rintro e wn ⟨rfl, hb⟩; (first | have K := k3_first hb | have K := k3_next K hb); obtain ⟨c0, c1⟩ := lies_pair K.2.1; obtain ⟨d0, d1⟩ := lies_pair K.2.2.1; obtain ⟨e0, e1, e2, e3⟩ := lies_four K.2.2.2; obtain ⟨ef0, ef1, ef2, ef3⟩ := lies_ice K.2.2.2) | (go_at_call 21; refine (implIsRing_any _ _ _).mono ?_; rintro e wn ⟨rfl, hb⟩; (first | have K := k3_first hb | have K := k3_next K hb); obtain ⟨c0, c1⟩ := lies_pair K.2.1; obtain ⟨d0, d1⟩ := lies_pair K.2.2.1; obtain ⟨e0, e1, e2, e3⟩ := lies_four K.2.2.2; obtain ⟨ef0, ef1, ef2, ef3⟩ := lies_ice K.2.2.2) | (go_at_call 96; refine (ratZero_any _ _ _).mono ?_; rintro e wn ⟨rfl, hb⟩; (first | have K := k3_first hb | have K := k3_next K hb); obtain ⟨c0, c1⟩ := lies_pair K.2.1; obtain ⟨d0, d1⟩ := lies_pair K.2.2.1; obtain ⟨e0, e1, e2, e3⟩ := lies_four K.2.2.2; obtain ⟨ef0, ef1, ef2, ef3⟩ := lies_ice K.2.2.2))
      refine bodyPost_ret (v := .tuple #[.agg (P4 0 0 0 0), .int .i64 1]) (by simp [results, Try.results41, go_sem, e0, e1, e2, e3]) rfl ?_
      exact ⟨rfl, below_set4 K.1 (by omega)⟩

    · by_cases h0 : n = 0
      · have hc : pofC n d p k = 5 := by unfold pofC; rw [if_pos (by rw [hx, hr]; rfl), if_pos h0]
        have hz : (n == 0) = true := by simp [h0]
        rw [show pofQ n d p k = (0, 0, 0, 0) by unfold pofQ; rw [if_neg (by omega)], hc]
        clear hc h0
        go_enter Try.func41, Try.ntmps41
        go_wp2_with (first | (go_at_call 95; refine (ratValid_any _ _ _).mono ?_; rintro e wn ⟨rfl, hb⟩; (first | have K := k3_first hb | have K := k3_next K hb); obtain ⟨c0, c1⟩ := lies_pair K.2.1; obtain ⟨d0, d1⟩ := lies_pair K.2.2.1; obtain ⟨e0, e1, e2, e3⟩ := lies_four K.2.2.2; obtain ⟨ef0, ef1, ef2, ef3⟩ := lies_ice K.2.2.2) | (go_at_call 21; refine (implIsRing_any _ _ _).mono ?_; rintro e wn ⟨rfl, hb⟩; (first | have K := k3_first hb | have K := k3_next K hb); obtain ⟨c0, c1⟩ := lies_pair K.2.1; obtain ⟨d0, d1⟩ := lies_pair K.2.2.1; obtain ⟨e0, e1, e2, e3⟩ := lies_four K.2.2.2; obtain ⟨ef0, ef1, ef2, ef3⟩ := lies_ice K.2.2.2) | (go_at_call 96; refine (ratZero_any _ _ _).mono ?_; rintro e wn ⟨rfl, hb⟩; (first | have K := k3_first hb | have K := k3_next K hb); obtain ⟨c0, c1⟩ := lies_pair K.2.1; obtain ⟨d0, d1⟩ := lies_pair K.2.2.1; obtain ⟨e0, e1, e2, e3⟩ := lies_four K.2.2.2; obtain ⟨ef0, ef1, ef2, ef3⟩ := lies_ice K.2.2.2))
        refine bodyPost_ret (v := .tuple #[.agg (P4 0 0 0 0), .int .i64 5]) (by simp [results, Try.results41, go_sem, e0, e1, e2, e3]) rfl ?_
        exact ⟨rfl, below_set4 K.1 (by omega)⟩

      · have hc : pofC n d p k = 0 := by unfold pofC; rw [if_pos (by rw [hx, hr]; rfl), if_neg h0]
        have hz : (n == 0) = false := by simpa using h0
        obtain ⟨_, hm, _, hq⟩ := pof_zero hc
        rw [hq, hc]
        have HN := Lib.hid h0
        have HM := Lib.hid hm
        have HX := Lib.hid hx
        clear hc hm hq h0
        go_enter Try.func41, Try.ntmps41
        go_wp2_with (first | (go_at_call 95; refine (ratValid_any _ _ _).mono ?_; rintro e wn ⟨rfl, hb⟩; (first | have K := k3_first hb | have K := k3_next K hb); obtain ⟨c0, c1⟩ := lies_pair K.2.1; obtain ⟨d0, d1⟩ := lies_pair K.2.2.1; obtain ⟨e0, e1, e2, e3⟩ := lies_four K.2.2.2; obtain ⟨ef0, ef1, ef2, ef3⟩ := lies_ice K.2.2.2) | (go_at_call 21; refine (implIsRing_any _ _ _).mono ?_; rintro e wn ⟨rfl, hb⟩; (first | have K := k3_first hb | have K := k3_next K hb); obtain ⟨c0, c1⟩ := lies_pair K.2.1; obtain ⟨d0, d1⟩ := lies_pair K.2.2.1; obtain ⟨e0, e1, e2, e3⟩ := lies_four K.2.2.2; obtain ⟨ef0, ef1, ef2, ef3⟩ := lies_ice K.2.2.2) | (go_at_call 96; refine (ratZero_any _ _ _).mono ?_; rintro e wn ⟨rfl, hb⟩; (first | have K := k3_first hb | have K := k3_next K hb); obtain ⟨c0, c1⟩ := lies_pair K.2.1; obtain ⟨d0, d1⟩ := lies_pair K.2.2.1; obtain ⟨e0, e1, e2, e3⟩ := lies_four K.2.2.2; obtain ⟨ef0, ef1, ef2, ef3⟩ := lies_ice K.2.2.2) | (go_at_call 97; refine (padicIn_any _ _ _ _ _ HX.out HN.out HM.out).mono ?_; rintro e wn ⟨rfl, hb⟩; (first | have K := k3_first hb | have K := k3_next K hb); obtain ⟨c0, c1⟩ := lies_pair K.2.1; obtain ⟨d0, d1⟩ := lies_pair K.2.2.1; obtain ⟨e0, e1, e2, e3⟩ := lies_four K.2.2.2; obtain ⟨ef0, ef1, ef2, ef3⟩ := lies_ice K.2.2.2))
        refine bodyPost_ret (v := .tuple #[.agg (A4 (pofT n d p k)), .int .i64 0]) (by simp [results, Try.results41, go_sem, e0, e1, e2, e3]) rfl ?_
        exact ⟨rfl, below_set4 K.1 (by omega)⟩

end Go.Proofs.Ytgckamlibbjgcaa
namespace Go.Proofs.Ytgckamlibbjgcaa
open Go.RowKit
set_option linter.unusedVariables false
set_option linter.unusedSimpArgs false
set_option maxRecDepth 20000
set_option maxHeartbeats 1000000 in
theorem l05Padic_core (n d p k M un ud g U : Int) (w : World) (hp2 : 2 ≤ p) (hp97 : p ≤ 97) (hM1 : 2 ≤ M) (hM2 : M ≤ 1000000000) (u0 : 0 ≤ un) (u1 : un < M) (g0 : 0 ≤ g) (g1 : g < M)
    (HS : Hid (VRel n p n 0)) (HT : Hid (VRel d p d 0)) (HU : Hid (un * g % M = U)) (hv0 : 0 ≤ valCount n p) (hv1 : valCount n p ≤ 39)
    (HM : Hid (∀ w, Calls Try.prog 64 #[.int .i64 p, .int .i64 k] w fun e w' => e = .returned (.int .i64 M) ∧ w = w'))
    (HA : Hid (∀ w, Calls Try.prog 114 #[.int .i64 (valRest n p), .int .i64 M] w fun e w' => e = .returned (.int .i64 un) ∧ w = w'))
    (HB : Hid (∀ w, Calls Try.prog 114 #[.int .i64 (valRest d p), .int .i64 M] w fun e w' => e = .returned (.int .i64 ud) ∧ w = w'))
    (HI : Hid (∀ w, Calls Try.prog 63 #[.int .i64 ud, .int .i64 M] w fun e w' => e = .returned (.int .i64 g) ∧ w = w')) :
    Calls Try.prog 105 #[.agg (P2 n d), .agg (P2 p k)] w fun e w' => e = .returned (.agg (P4 p (valCount n p - valCount d p) U k)) ∧ Below w.heap.size w w' := by
  have hpr := prod_lt (m := M) hM2 u0 u1 g0 g1
  obtain ⟨x1, x2, x3, x4⟩ := rem_facts (a := un * g) hpr.1 (show 1 ≤ M by omega) hM2
  have x5 : IntKind.i64.wrap (un * g) = un * g := IntWalk.i64_in _ (by omega)
  have HX := Lib.hid (And.intro x1 (And.intro x2 (And.intro x3 (And.intro x4 x5))))
  have b4 : (p == 0) = false := by simp; omega
  clear hpr x1 x2 x3 x4 x5 u0 u1 g0 g1
  go_enter Try.func105, Try.ntmps105
  go_wp2
  go_quiet (fail)
  have K := k3_drewN (k3_new w (P2 n d) (P2 p k) (P4 0 0 0 0) 49 25 34) nq
  generalize World.drewN _ nq = W1 at K ⊢
  obtain ⟨d0, d1⟩ := lies_pair K.2.2.1
  go_wp2
  go_loop [5, 7] (fun a c => ∃ m j : Int, a = .int .i64 m ∧ c = .int .i64 j ∧ VRel n p m j) (fun a _ => (intOf a).natAbs)
  case atStart => exact ⟨n, 0, rfl, rfl, HS.out⟩
  case round =>
    obtain ⟨m, j, rfl, rfl, hr⟩ := hrel
    have HR := Lib.hid hr
    have b0 := hr.2.1
    have b2 := hr.2.2.2.1
    have b3 : j ≤ 4000000000000000000 := by
      obtain ⟨_, _, h, _, _, _⟩ := hr
      have : (n).natAbs ≤ 1000000000000 := HS.out.2.2.2.1
      omega
    clear hr
    by_cases hm : m.tmod p = 0
    · have H := Lib.hid (vRel_step hp2 HR.out hm)
      have hm' : (m.tmod p == 0) = true := by simp [hm]
      clear hm
      go_wp2
      exact ⟨⟨_, _, rfl, rfl, H.out.1⟩, by simpa only [intOf] using H.out.2⟩
    · obtain ⟨e1, e2⟩ := vRel_end HR.out hm
      have hm' : (m.tmod p == 0) = false := by simp [hm]
      subst e1 e2
      clear hm HR b0 b2 b3
      go_wp2
      clear hm'
      go_loop [6, 7] (fun a c => ∃ m j : Int, a = .int .i64 m ∧ c = .int .i64 (valCount n p - j) ∧ VRel d p m j) (fun a _ => (intOf a).natAbs)
      case atStart => exact ⟨d, 0, rfl, by simp, HT.out⟩
      case round =>
        obtain ⟨m, j, rfl, rfl, hr⟩ := hrel
        have HR := Lib.hid hr
        have b0 := hr.2.1
        have b2 := hr.2.2.2.1
        have b3 : j ≤ 4000000000000000000 := by
          obtain ⟨_, _, h, _, _, _⟩ := hr
          have : (d).natAbs ≤ 1000000000000 := HT.out.2.2.2.1
          omega
        clear hr
        by_cases hm : m.tmod p = 0
        · have H := Lib.hid (vRel_step hp2 HR.out hm)
          have hm' : (m.tmod p == 0) = true := by simp [hm]
          clear hm
          go_wp2
          exact ⟨⟨_, _, rfl, by congr 1; omega, H.out.1⟩, by simpa only [intOf] using H.out.2⟩
        · obtain ⟨e1, e2⟩ := vRel_end HR.out hm
          have hm' : (m.tmod p == 0) = false := by simp [hm]
          subst e1 e2
          clear hm HR b0 b2 b3
          go_wp2_with (go_at_call 64; refine (HM.out _).mono ?_; rintro e w' ⟨rfl, rfl⟩)
          clear hm' b4
          obtain ⟨x1, x2, x3, x4, x5⟩ := HX.out
          refine wp_region_still_tail 17 (by kernel_rfl) (by kernel_rfl) ?_
          simp only [List.take_succ_cons, List.take_zero, List.drop_succ_cons, List.drop_zero]
          repeat still_step
          still_call ((HA.out _).mono fun e w' h => ⟨h.1, h.2.symm⟩)
          repeat still_step
          still_call ((HB.out _).mono fun e w' h => ⟨h.1, h.2.symm⟩)
          repeat still_step
          still_call ((HI.out _).mono fun e w' h => ⟨h.1, h.2.symm⟩)
          repeat still_step
          refine wpStill_nil ?_
          have KW := k3_drew K
          change wpList _ _ _ _ _ W1.drew
          clear d0 d1 K x1 x2 x3 x4 x5 HX
          generalize W1.drew = W2 at KW ⊢
          obtain ⟨e0, e1, e2, e3⟩ := lies_four KW.2.2.2
          obtain ⟨ef0, ef1, ef2, ef3⟩ := lies_ice KW.2.2.2
          rw [HU.out]
          go_wp2
          refine bodyPost_ret (v := .agg (P4 p (valCount n p - valCount d p) U k)) (by simp [results, Try.results105, go_sem, e0, e1, e2, e3]) rfl ?_
          exact ⟨rfl, below_set4 KW.1 (by omega)⟩
theorem l05Padic_any (n d p k : Int) (w : World) (hr : isRatB n d = true) (hn : n ≠ 0) (hm : ringM p k ≠ 0) :
    Calls Try.prog 105 #[.agg (P2 n d), .agg (P2 p k)] w fun e w' => e = .returned (.agg (A4 (pofT n d p k))) ∧ Below w.heap.size w w' := by
  obtain ⟨n0, n1, d0, d1, g⟩ := isRat_of hr
  have hs := (ringM_in hm).1
  obtain ⟨hp, hq⟩ := smallB_bd hs
  obtain ⟨_, _, k1, k2, m1, m2, _⟩ := ringM_bd hm
  have hd : d ≠ 0 := by omega
  obtain ⟨_, b2, b3, b4⟩ := val_parts (n := d) hp hd (by omega) d1
  obtain ⟨_, a2, a3, a4⟩ := val_parts hp hn n0 n1
  have du : valRest d p % ringM p k % p ≠ 0 := by rw [emod_ringM hm]; exact b2
  have r0 := Int.emod_nonneg (valRest d p) hm
  have r1 := Int.emod_lt_of_pos (valRest d p) (show 0 < ringM p k by omega)
  have s0 := Int.emod_nonneg (valRest n p) hm
  have s1 := Int.emod_lt_of_pos (valRest n p) (show 0 < ringM p k by omega)
  obtain ⟨g0, g1, g2, g3, g4⟩ := inv_unit hm r0 r1 du
  have HI : ∀ w, Calls Try.prog 63 #[.int .i64 (valRest d p % ringM p k), .int .i64 (ringM p k)] w fun e w' => e = .returned (.int .i64 (invV p k (valRest d p % ringM p k))) ∧ w = w' := by
    intro w
    rw [show invV p k (valRest d p % ringM p k) = bezX (valRest d p % ringM p k) (ringM p k) % ringM p k by simp [invV, g0]]
    exact l02Inverse_any _ _ w r0 r1 m1 m2
  exact l05Padic_core n d p k (ringM p k) _ _ _ (pofU n d p k) w hp hq m1 m2 s0 s1 (by omega) g2 (Lib.hid (vRel_start hn (by omega))) (Lib.hid (vRel_start hd (by omega))) (Lib.hid rfl) a3 a4
    (Lib.hid fun w => l02Modulus_any p k w hs k1 (by omega)) (Lib.hid fun w => l01Mod_any _ _ w m1 m2) (Lib.hid fun w => l01Mod_any _ _ w m1 m2) (Lib.hid HI)
theorem specPof_any (n d p k : Int) (w : World) :
    Calls Try.prog 47 #[.agg (P2 n d), .agg (P2 p k)] w fun e w' => e = .returned (.tuple #[.agg (A4 (pofQ n d p k)), .int .i64 (pofC n d p k)]) ∧ Below w.heap.size w w' := by
  cases hx : isRatB n d
  · have hc : pofC n d p k = 1 := by simp [pofC, hx]
    rw [show pofQ n d p k = (0, 0, 0, 0) by unfold pofQ; rw [if_neg (by omega)], hc]
    clear hc
    go_enter Try.func47, Try.ntmps47
    go_wp2_with (first | (go_at_call 104; refine (specIsRational_any _ _ _).mono ?_; rintro e wn ⟨rfl, hb⟩; (first | have K := k3_first hb | have K := k3_next K hb); obtain ⟨c0, c1⟩ := lies_pair K.2.1; obtain ⟨d0, d1⟩ := lies_pair K.2.2.1; obtain ⟨e0, e1, e2, e3⟩ := lies_four K.2.2.2; obtain ⟨ef0, ef1, ef2, ef3⟩ := lies_ice K.2.2.2) | (go_at_call 22; refine (specIsRing_any _ _ _).mono ?_; rintro e wn ⟨rfl, hb⟩; (first | have K := k3_first hb | have K := k3_next K hb); obtain ⟨c0, c1⟩ := lies_pair K.2.1; obtain ⟨d0, d1⟩ := lies_pair K.2.2.1; obtain ⟨e0, e1, e2, e3⟩ := lies_four K.2.2.2; obtain ⟨ef0, ef1, ef2, ef3⟩ := lies_ice K.2.2.2))
    refine bodyPost_ret (v := .tuple #[.agg (P4 0 0 0 0), .int .i64 1]) (by simp [results, Try.results47, go_sem, e0, e1, e2, e3]) rfl ?_
    exact ⟨rfl, below_set4 K.1 (by omega)⟩

  · cases hr : ringB p k
    · have hc : pofC n d p k = 1 := by simp [pofC, hr]
      rw [show pofQ n d p k = (0, 0, 0, 0) by unfold pofQ; rw [if_neg (by omega)], hc]
      clear hc
      go_enter Try.func47, Try.ntmps47
      go_wp2_with (first | (go_at_call 104; refine (specIsRational_any _ _ _).mono ?_; rintro e wn ⟨rfl, hb⟩; (first | have K := k3_first hb | have K := k3_next K hb); obtain ⟨c0, c1⟩ := lies_pair K.2.1; obtain ⟨d0, d1⟩ := lies_pair K.2.2.1; obtain ⟨e0, e1, e2, e3⟩ := lies_four K.2.2.2; obtain ⟨ef0, ef1, ef2, ef3⟩ := lies_ice K.2.2.2) | (go_at_call 22; refine (specIsRing_any _ _ _).mono ?_; rintro e wn ⟨rfl, hb⟩; (first | have K := k3_first hb | have K := k3_next K hb); obtain ⟨c0, c1⟩ := lies_pair K.2.1; obtain ⟨d0, d1⟩ := lies_pair K.2.2.1; obtain ⟨e0, e1, e2, e3⟩ := lies_four K.2.2.2; obtain ⟨ef0, ef1, ef2, ef3⟩ := lies_ice K.2.2.2))
      refine bodyPost_ret (v := .tuple #[.agg (P4 0 0 0 0), .int .i64 1]) (by simp [results, Try.results47, go_sem, e0, e1, e2, e3]) rfl ?_
      exact ⟨rfl, below_set4 K.1 (by omega)⟩

    · by_cases h0 : n = 0
      · have hc : pofC n d p k = 5 := by unfold pofC; rw [if_pos (by rw [hx, hr]; rfl), if_pos h0]
        have hz : (n == 0) = true := by simp [h0]
        rw [show pofQ n d p k = (0, 0, 0, 0) by unfold pofQ; rw [if_neg (by omega)], hc]
        clear hc h0
        go_enter Try.func47, Try.ntmps47
        go_wp2_with (first | (go_at_call 104; refine (specIsRational_any _ _ _).mono ?_; rintro e wn ⟨rfl, hb⟩; (first | have K := k3_first hb | have K := k3_next K hb); obtain ⟨c0, c1⟩ := lies_pair K.2.1; obtain ⟨d0, d1⟩ := lies_pair K.2.2.1; obtain ⟨e0, e1, e2, e3⟩ := lies_four K.2.2.2; obtain ⟨ef0, ef1, ef2, ef3⟩ := lies_ice K.2.2.2) | (go_at_call 22; refine (specIsRing_any _ _ _).mono ?_; rintro e wn ⟨rfl, hb⟩; (first | have K := k3_first hb | have K := k3_next K hb); obtain ⟨c0, c1⟩ := lies_pair K.2.1; obtain ⟨d0, d1⟩ := lies_pair K.2.2.1; obtain ⟨e0, e1, e2, e3⟩ := lies_four K.2.2.2; obtain ⟨ef0, ef1, ef2, ef3⟩ := lies_ice K.2.2.2))
        refine bodyPost_ret (v := .tuple #[.agg (P4 0 0 0 0), .int .i64 5]) (by simp [results, Try.results47, go_sem, e0, e1, e2, e3]) rfl ?_
        exact ⟨rfl, below_set4 K.1 (by omega)⟩

      · have hc : pofC n d p k = 0 := by unfold pofC; rw [if_pos (by rw [hx, hr]; rfl), if_neg h0]
        have hz : (n == 0) = false := by simpa using h0
        obtain ⟨_, hm, _, hq⟩ := pof_zero hc
        rw [hq, hc]
        have HN := Lib.hid h0
        have HM := Lib.hid hm
        have HX := Lib.hid hx
        clear hc hm hq h0
        go_enter Try.func47, Try.ntmps47
        go_wp2_with (first | (go_at_call 104; refine (specIsRational_any _ _ _).mono ?_; rintro e wn ⟨rfl, hb⟩; (first | have K := k3_first hb | have K := k3_next K hb); obtain ⟨c0, c1⟩ := lies_pair K.2.1; obtain ⟨d0, d1⟩ := lies_pair K.2.2.1; obtain ⟨e0, e1, e2, e3⟩ := lies_four K.2.2.2; obtain ⟨ef0, ef1, ef2, ef3⟩ := lies_ice K.2.2.2) | (go_at_call 22; refine (specIsRing_any _ _ _).mono ?_; rintro e wn ⟨rfl, hb⟩; (first | have K := k3_first hb | have K := k3_next K hb); obtain ⟨c0, c1⟩ := lies_pair K.2.1; obtain ⟨d0, d1⟩ := lies_pair K.2.2.1; obtain ⟨e0, e1, e2, e3⟩ := lies_four K.2.2.2; obtain ⟨ef0, ef1, ef2, ef3⟩ := lies_ice K.2.2.2) | (go_at_call 105; refine (l05Padic_any _ _ _ _ _ HX.out HN.out HM.out).mono ?_; rintro e wn ⟨rfl, hb⟩; (first | have K := k3_first hb | have K := k3_next K hb); obtain ⟨c0, c1⟩ := lies_pair K.2.1; obtain ⟨d0, d1⟩ := lies_pair K.2.2.1; obtain ⟨e0, e1, e2, e3⟩ := lies_four K.2.2.2; obtain ⟨ef0, ef1, ef2, ef3⟩ := lies_ice K.2.2.2))
        refine bodyPost_ret (v := .tuple #[.agg (A4 (pofT n d p k)), .int .i64 0]) (by simp [results, Try.results47, go_sem, e0, e1, e2, e3]) rfl ?_
        exact ⟨rfl, below_set4 K.1 (by omega)⟩

end Go.Proofs.Ytgckamlibbjgcaa
namespace Go.Proofs.Ytgckamlibbjgcaa
open Go.RowKit
set_option linter.unusedVariables false
set_option linter.unusedSimpArgs false
set_option maxRecDepth 20000
set_option maxHeartbeats 1000000 in
theorem drawAgree_any (o : Option Addr) (len cap : Nat) (w : World) (hl : len ≤ 4096) (hc : CodeIn w o len) :
    Calls Try.prog 48 #[.slice o len cap] w (RatPad w) := by
  have HC := Lib.hid (codeIn_below (B := w.heap.size) hc (show Below w.heap.size w ((w.alloc (.cells (P2 0 0) 49)).alloc (.cells (P4 0 0 0 0) 34)) from below_a2 w _ _))
  clear hc
  go_enter Try.func48, Try.ntmps48
  go_wp2_with fail
  refine (from_any _ _ _ _ hl HC.out).mono ?_
  rintro e w1 ⟨q, rfl, hq, hs1, hb1⟩
  have K := k2_next (k2_new w (P2 0 0) (P4 0 0 0 0) 49 34) hb1
  have D : DD o len cap q 2 w w1 := ⟨hs1, K.1, by simpa using hq⟩
  replace HC := Lib.hid (codeIn_below (B := 0) HC.out hb1)
  clear hs1 hb1 hq
  go_wp2_with fail
  refine (drawPof_any _ _ _ _ hl HC.out).mono ?_
  rintro e w2 ⟨a, b, c, d, rfl, hb2⟩
  clear HC
  replace K := k2_next K hb2
  replace D := dd_below D hb2
  clear hb2
  go_upto_region 3 with fail
  have Lx := lies_new w2 (P2 a b) 49
  have hlx : q < w2.heap.size := src_lt D.1
  replace D := dd_alloc D (.cells (P2 a b) 49)
  replace K := k2_next K (below_a1 w2 (.cells (P2 a b) 49))
  have Lr := lies_new (w2.alloc (.cells (P2 a b) 49)) (P2 c d) 25
  rw [size1] at Lr
  replace Lx := lies_alloc Lx (.cells (P2 c d) 25)
  replace D := dd_alloc D (.cells (P2 c d) 25)
  replace K := k2_next K (below_a1 (w2.alloc (.cells (P2 a b) 49)) (.cells (P2 c d) 25))
  generalize (w2.alloc (.cells (P2 a b) 49)).alloc (.cells (P2 c d) 25) = Wx at Lx Lr D K ⊢
  obtain ⟨bx, hbx⟩ : ∃ b, w2.heap.size = b := ⟨_, rfl⟩
  rw [hbx] at Lx Lr hlx ⊢
  clear hbx
  obtain ⟨x0, x1⟩ := lies_pair Lx
  obtain ⟨r0, r1⟩ := lies_pair Lr
  have A1 := fun w => specPof_any a b c d w
  obtain ⟨Z, hZ⟩ : ∃ X0, pofQ a b c d = X0 := ⟨_, rfl⟩
  obtain ⟨zc, hC⟩ : ∃ X0, pofC a b c d = X0 := ⟨_, rfl⟩
  rw [hZ, hC] at A1
  obtain ⟨zp, zv, zu, zn⟩ := Z
  dsimp only [A4] at A1
  replace A1 := Lib.hid A1
  clear hZ hC
  go_upto_region 4 with (go_at_call 47; refine (A1.out _).mono ?_; rintro e w3 ⟨rfl, hb3⟩; replace Lx := lies_next Lx hb3; replace K := k2_next K hb3; replace D := dd_below D hb3)
  clear A1 x0 x1 r0 r1 Lr hb3
  have Ly := lies_new w3 (P4 zp zv zu zn) 34
  have hly : q < w3.heap.size := src_lt D.1
  replace Lx := lies_alloc Lx (.cells (P4 zp zv zu zn) 34)
  replace D := dd_alloc D (.cells (P4 zp zv zu zn) 34)
  replace K := k2_next K (below_a1 w3 (.cells (P4 zp zv zu zn) 34))
  generalize w3.alloc (.cells (P4 zp zv zu zn) 34) = Wy at Lx Ly D K ⊢
  obtain ⟨byy, hby⟩ : ∃ b, w3.heap.size = b := ⟨_, rfl⟩
  rw [hby] at Ly hly ⊢
  clear hby
  by_cases hz : zc = 0
  · have hz' : (zc != 0) = false := by simp [hz]
    clear hz
    go_wp2_with fail
    refine (next_any _ _ _ _ _ _ (by omega) D.1).mono ?_
    rintro e w4 ⟨x, rfl, _, _, hs1, hg1, hz⟩
    replace K := k2_grown K hg1 D.2.2
    replace Lx := lies_grown Lx hg1 (by omega)
    replace Ly := lies_grown Ly hg1 (by omega)
    replace D := dd_next D hs1 hg1
    clear hs1 hg1 hz
    by_cases hx : x = 0
    · have hx' : (x == 0) = true := by simp [hx]
      clear hx
      go_upto_region 5 with fail
      refine wp_region_held_drew (S := (fun w' => Lies w' bx (P2 a b) ∧ Lies w' byy (P4 zp zv zu zn))) (by kernel_rfl) ⟨Lx, Ly⟩ (fun hHeld => ?_)
      replace D := dd_drew D
      replace K := k2_drew K
      clear Lx Ly
      generalize World.drew w4 = W1 at D K hHeld ⊢
      refine take_at (i := 0) (d := 30) (v := .agg (P2 a b)) rfl rfl (by kernel_rfl) (by kernel_rfl) (by kernel_rfl) (fun _ _ _ h => h) (Or.inl ⟨by rfl, ?_⟩) hHeld ?_
      · intro w' hS
        obtain ⟨k0, k1⟩ := lies_pair hS.1
        obtain ⟨m0, m1, m2, m3⟩ := lies_four hS.2
        go_simp
      try simp only [Act.put, List.setIfInBounds_toArray, List.set_cons_zero, List.set_cons_succ]
      refine take_at (i := 1) (d := 31) (v := .pointer (some ⟨q, 0, none⟩)) rfl rfl (by kernel_rfl) (by kernel_rfl) (by kernel_rfl) (fun _ _ _ h => h) (Or.inl ⟨by rfl, ?_⟩) hHeld ?_
      · intro w' hS; go_simp
      try simp only [Act.put, List.setIfInBounds_toArray, List.set_cons_zero, List.set_cons_succ]
      refine wpAnyH_ready (rs := [2]) (by kernel_rfl) (by simp) ?_
      refine AllReadyH.cons rfl (fun K' hK => ?_) AllReadyH.nil
      go_simp
      refine (padDraw_any o len cap q _ D.1).mono ?_
      rintro e w4 ⟨p, v, u, n, rfl, _, _, _, _, _, _, _, _, hs4, hg4⟩
      go_simp
      refine hK.out _ _ (⟨lies_grown hHeld.1 hg4 (by omega), lies_grown hHeld.2 hg4 (by omega)⟩) (fun hHeld => ?_)
      clear hK K'
      try simp only [Act.put, List.setIfInBounds_toArray, List.set_cons_zero, List.set_cons_succ]
      have K4 := k2_grown K hg4 D.2.2
      clear hs4 hg4 K
      obtain ⟨c0, c1⟩ := lies_pair K4.2.1
      have cf0 := lies_frozen K4.2.1 0
      have cf1 := lies_frozen K4.2.1 1
      obtain ⟨d0, d1, d2, d3⟩ := lies_four K4.2.2
      obtain ⟨df0, df1, df2, df3⟩ := lies_ice K4.2.2
      have n1 : ¬ w.heap.size = bx := by have := D.2.2; omega
      have n2 : ¬ w.heap.size = byy := by have := D.2.2; omega
      have n3 : ¬ w.heap.size + 1 = bx := by have := D.2.2; omega
      have n4 : ¬ w.heap.size + 1 = byy := by have := D.2.2; omega
      clear D
      refine wpAnyH_ready (rs := [3]) (by kernel_rfl) (by simp) ?_
      refine AllReadyH.cons rfl (fun K' hK => ?_) AllReadyH.nil
      go_simp
      refine hK.out _ _ (⟨liesR_other2 hHeld.1 n1, liesR_other2 hHeld.2 n2⟩) (fun hHeld => ?_)
      clear hK K'
      try simp only [Act.put, List.setIfInBounds_toArray, List.set_cons_zero, List.set_cons_succ]
      refine wpAnyH_ready (rs := [4]) (by kernel_rfl) (by simp) ?_
      refine AllReadyH.cons rfl (fun K' hK => ?_) AllReadyH.nil
      go_simp
      refine hK.out _ _ (⟨lies_other4 hHeld.1 n3, lies_other4 hHeld.2 n4⟩) (fun hHeld => ?_)
      clear hK K'
      try simp only [Act.put, List.setIfInBounds_toArray, List.set_cons_zero, List.set_cons_succ]
      refine wpAnyH_done (by kernel_rfl) ?_ _
      go_wp2
      refine bodyPost_ret (v := .tuple #[.agg (P2 a b), .agg (P4 p v u n)]) (by simp [results, Try.results48, go_sem, c0, c1, d0, d1, d2, d3]) rfl ?_
      exact ⟨_, _, _, _, _, _, rfl, below_set4 (below_set2 K4.1 (by omega)) (by omega)⟩
    · have hx' : (x == 0) = false := by simpa using hx
      clear hx
      go_upto_region 6 with fail
      go_wp2_with fail
      refine (next_any _ _ _ _ _ _ (by omega) D.1).mono ?_
      rintro e w5 ⟨y, rfl, _, _, hs1, hg1, hz⟩
      replace K := k2_grown K hg1 D.2.2
      replace Lx := lies_grown Lx hg1 (by omega)
      replace Ly := lies_grown Ly hg1 (by omega)
      replace D := dd_next D hs1 hg1
      clear hs1 hg1 hz
      by_cases hy : y = 0
      · have hy' : (y == 0) = true := by simp [hy]
        clear hy
        go_upto_region 7 with fail
        refine wp_region_held_drew (S := (fun w' => Lies w' bx (P2 a b) ∧ Lies w' byy (P4 zp zv zu zn))) (by kernel_rfl) ⟨Lx, Ly⟩ (fun hHeld => ?_)
        replace D := dd_drew D
        replace K := k2_drew K
        clear Lx Ly
        generalize World.drew w5 = W1 at D K hHeld ⊢
        refine take_at (i := 0) (d := 37) (v := .agg (P2 a b)) rfl rfl (by kernel_rfl) (by kernel_rfl) (by kernel_rfl) (fun _ _ _ h => h) (Or.inl ⟨by rfl, ?_⟩) hHeld ?_
        · intro w' hS
          obtain ⟨k0, k1⟩ := lies_pair hS.1
          obtain ⟨m0, m1, m2, m3⟩ := lies_four hS.2
          go_simp
        try simp only [Act.put, List.setIfInBounds_toArray, List.set_cons_zero, List.set_cons_succ]
        refine take_at (i := 1) (d := 38) (v := .pointer (some ⟨byy, 0, none⟩)) rfl rfl (by kernel_rfl) (by kernel_rfl) (by kernel_rfl) (fun _ _ _ h => h) (Or.inl ⟨by rfl, ?_⟩) hHeld ?_
        · intro w' hS; go_simp
        try simp only [Act.put, List.setIfInBounds_toArray, List.set_cons_zero, List.set_cons_succ]
        refine take_at (i := 2) (d := 39) (v := .int .i64 zp) rfl rfl (by kernel_rfl) (by kernel_rfl) (by kernel_rfl) (fun _ _ _ h => h) (Or.inl ⟨by rfl, ?_⟩) hHeld ?_
        · intro w' hS
          obtain ⟨k0, k1⟩ := lies_pair hS.1
          obtain ⟨m0, m1, m2, m3⟩ := lies_four hS.2
          go_simp
        try simp only [Act.put, List.setIfInBounds_toArray, List.set_cons_zero, List.set_cons_succ]
        refine take_at (i := 3) (d := 40) (v := .pointer (some ⟨byy, 1, none⟩)) rfl rfl (by kernel_rfl) (by kernel_rfl) (by kernel_rfl) (fun _ _ _ h => h) (Or.inl ⟨by rfl, ?_⟩) hHeld ?_
        · intro w' hS; go_simp
        try simp only [Act.put, List.setIfInBounds_toArray, List.set_cons_zero, List.set_cons_succ]
        refine take_at (i := 4) (d := 41) (v := .int .i64 zv) rfl rfl (by kernel_rfl) (by kernel_rfl) (by kernel_rfl) (fun _ _ _ h => h) (Or.inl ⟨by rfl, ?_⟩) hHeld ?_
        · intro w' hS
          obtain ⟨k0, k1⟩ := lies_pair hS.1
          obtain ⟨m0, m1, m2, m3⟩ := lies_four hS.2
          go_simp
        try simp only [Act.put, List.setIfInBounds_toArray, List.set_cons_zero, List.set_cons_succ]
        refine take_at (i := 5) (d := 42) (v := .pointer (some ⟨q, 0, none⟩)) rfl rfl (by kernel_rfl) (by kernel_rfl) (by kernel_rfl) (fun _ _ _ h => h) (Or.inl ⟨by rfl, ?_⟩) hHeld ?_
        · intro w' hS; go_simp
        try simp only [Act.put, List.setIfInBounds_toArray, List.set_cons_zero, List.set_cons_succ]
        refine wpAnyH_ready (rs := [6]) (by kernel_rfl) (by simp) ?_
        refine AllReadyH.cons rfl (fun K' hK => ?_) AllReadyH.nil
        go_simp
        refine (next_any _ _ _ _ _ _ (by omega) D.1).mono ?_
        rintro e w6 ⟨z, rfl, _, _, hs4, hg4, hz⟩
        go_simp
        refine hK.out _ _ (⟨lies_grown hHeld.1 hg4 (by omega), lies_grown hHeld.2 hg4 (by omega)⟩) (fun hHeld => ?_)
        clear hK K'
        try simp only [Act.put, List.setIfInBounds_toArray, List.set_cons_zero, List.set_cons_succ]
        have K4 := k2_grown K hg4 D.2.2
        clear hs4 hg4 hz K
        refine take_at (i := 7) (d := 44) (v := .int .i64 (IntKind.i64.wrap (zv + z))) rfl rfl (by kernel_rfl) (by kernel_rfl) (by kernel_rfl) (fun _ _ _ h => h) (Or.inl ⟨by rfl, ?_⟩) hHeld ?_
        · intro w' hS; go_simp
        try simp only [Act.put, List.setIfInBounds_toArray, List.set_cons_zero, List.set_cons_succ]
        refine take_at (i := 8) (d := 45) (v := .int .i64 (IntKind.i64.wrap (IntKind.i64.wrap (zv + z) - 1))) rfl rfl (by kernel_rfl) (by kernel_rfl) (by kernel_rfl) (fun _ _ _ h => h) (Or.inl ⟨by rfl, ?_⟩) hHeld ?_
        · intro w' hS; go_simp
        try simp only [Act.put, List.setIfInBounds_toArray, List.set_cons_zero, List.set_cons_succ]
        refine take_at (i := 9) (d := 46) (v := .agg (P4 zp (IntKind.i64.wrap (IntKind.i64.wrap (zv + z) - 1)) 0 0)) rfl rfl (by kernel_rfl) (by kernel_rfl) (by kernel_rfl) (fun _ _ _ h => h) (Or.inl ⟨by rfl, ?_⟩) hHeld ?_
        · intro w' hS; go_simp
        try simp only [Act.put, List.setIfInBounds_toArray, List.set_cons_zero, List.set_cons_succ]
        obtain ⟨c0, c1⟩ := lies_pair K4.2.1
        have cf0 := lies_frozen K4.2.1 0
        have cf1 := lies_frozen K4.2.1 1
        obtain ⟨d0, d1, d2, d3⟩ := lies_four K4.2.2
        obtain ⟨df0, df1, df2, df3⟩ := lies_ice K4.2.2
        have n1 : ¬ w.heap.size = bx := by have := D.2.2; omega
        have n2 : ¬ w.heap.size = byy := by have := D.2.2; omega
        have n3 : ¬ w.heap.size + 1 = bx := by have := D.2.2; omega
        have n4 : ¬ w.heap.size + 1 = byy := by have := D.2.2; omega
        clear D
        refine wpAnyH_ready (rs := [10]) (by kernel_rfl) (by simp) ?_
        refine AllReadyH.cons rfl (fun K' hK => ?_) AllReadyH.nil
        go_simp
        refine hK.out _ _ (⟨liesR_other2 hHeld.1 n1, liesR_other2 hHeld.2 n2⟩) (fun hHeld => ?_)
        clear hK K'
        try simp only [Act.put, List.setIfInBounds_toArray, List.set_cons_zero, List.set_cons_succ]
        refine wpAnyH_ready (rs := [11]) (by kernel_rfl) (by simp) ?_
        refine AllReadyH.cons rfl (fun K' hK => ?_) AllReadyH.nil
        go_simp
        refine hK.out _ _ (⟨lies_other4 hHeld.1 n3, lies_other4 hHeld.2 n4⟩) (fun hHeld => ?_)
        clear hK K'
        try simp only [Act.put, List.setIfInBounds_toArray, List.set_cons_zero, List.set_cons_succ]
        refine wpAnyH_done (by kernel_rfl) ?_ _
        go_wp2
        refine bodyPost_ret (v := .tuple #[.agg (P2 a b), .agg (P4 zp (IntKind.i64.wrap (IntKind.i64.wrap (zv + z) - 1)) 0 0)]) (by simp [results, Try.results48, go_sem, c0, c1, d0, d1, d2, d3]) rfl ?_
        exact ⟨_, _, _, _, _, _, rfl, below_set4 (below_set2 K4.1 (by omega)) (by omega)⟩
      · have hy' : (y == 0) = false := by simpa using hy
        clear hy
        go_upto_region 8 with fail
        refine wp_region_held_drew (S := (fun w' => Lies w' bx (P2 a b) ∧ Lies w' byy (P4 zp zv zu zn))) (by kernel_rfl) ⟨Lx, Ly⟩ (fun hHeld => ?_)
        replace D := dd_drew D
        replace K := k2_drew K
        clear Lx Ly
        generalize World.drew w5 = W1 at D K hHeld ⊢
        refine take_at (i := 0) (d := 47) (v := .agg (P2 a b)) rfl rfl (by kernel_rfl) (by kernel_rfl) (by kernel_rfl) (fun _ _ _ h => h) (Or.inl ⟨by rfl, ?_⟩) hHeld ?_
        · intro w' hS
          obtain ⟨k0, k1⟩ := lies_pair hS.1
          obtain ⟨m0, m1, m2, m3⟩ := lies_four hS.2
          go_simp
        try simp only [Act.put, List.setIfInBounds_toArray, List.set_cons_zero, List.set_cons_succ]
        refine take_at (i := 1) (d := 48) (v := .agg (P4 zp zv zu zn)) rfl rfl (by kernel_rfl) (by kernel_rfl) (by kernel_rfl) (fun _ _ _ h => h) (Or.inl ⟨by rfl, ?_⟩) hHeld ?_
        · intro w' hS
          obtain ⟨k0, k1⟩ := lies_pair hS.1
          obtain ⟨m0, m1, m2, m3⟩ := lies_four hS.2
          go_simp
        try simp only [Act.put, List.setIfInBounds_toArray, List.set_cons_zero, List.set_cons_succ]
        obtain ⟨c0, c1⟩ := lies_pair K.2.1
        have cf0 := lies_frozen K.2.1 0
        have cf1 := lies_frozen K.2.1 1
        obtain ⟨d0, d1, d2, d3⟩ := lies_four K.2.2
        obtain ⟨df0, df1, df2, df3⟩ := lies_ice K.2.2
        have n1 : ¬ w.heap.size = bx := by have := D.2.2; omega
        have n2 : ¬ w.heap.size = byy := by have := D.2.2; omega
        have n3 : ¬ w.heap.size + 1 = bx := by have := D.2.2; omega
        have n4 : ¬ w.heap.size + 1 = byy := by have := D.2.2; omega
        clear D
        refine wpAnyH_ready (rs := [2]) (by kernel_rfl) (by simp) ?_
        refine AllReadyH.cons rfl (fun K' hK => ?_) AllReadyH.nil
        go_simp
        refine hK.out _ _ (⟨liesR_other2 hHeld.1 n1, liesR_other2 hHeld.2 n2⟩) (fun hHeld => ?_)
        clear hK K'
        try simp only [Act.put, List.setIfInBounds_toArray, List.set_cons_zero, List.set_cons_succ]
        refine wpAnyH_ready (rs := [3]) (by kernel_rfl) (by simp) ?_
        refine AllReadyH.cons rfl (fun K' hK => ?_) AllReadyH.nil
        go_simp
        refine hK.out _ _ (⟨lies_other4 hHeld.1 n3, lies_other4 hHeld.2 n4⟩) (fun hHeld => ?_)
        clear hK K'
        try simp only [Act.put, List.setIfInBounds_toArray, List.set_cons_zero, List.set_cons_succ]
        refine wpAnyH_done (by kernel_rfl) ?_ _
        go_wp2
        refine bodyPost_ret (v := .tuple #[.agg (P2 a b), .agg (P4 zp zv zu zn)]) (by simp [results, Try.results48, go_sem, c0, c1, d0, d1, d2, d3]) rfl ?_
        exact ⟨_, _, _, _, _, _, rfl, below_set4 (below_set2 K.1 (by omega)) (by omega)⟩
  · have hz' : (zc != 0) = true := by simp [hz]
    clear hz
    go_upto_region 5 with fail
    refine wp_region_held_drew (S := (fun w' => Lies w' bx (P2 a b) ∧ Lies w' byy (P4 zp zv zu zn))) (by kernel_rfl) ⟨Lx, Ly⟩ (fun hHeld => ?_)
    replace D := dd_drew D
    replace K := k2_drew K
    clear Lx Ly
    generalize World.drew Wy = W1 at D K hHeld ⊢
    refine take_at (i := 0) (d := 30) (v := .agg (P2 a b)) rfl rfl (by kernel_rfl) (by kernel_rfl) (by kernel_rfl) (fun _ _ _ h => h) (Or.inl ⟨by rfl, ?_⟩) hHeld ?_
    · intro w' hS
      obtain ⟨k0, k1⟩ := lies_pair hS.1
      obtain ⟨m0, m1, m2, m3⟩ := lies_four hS.2
      go_simp
    try simp only [Act.put, List.setIfInBounds_toArray, List.set_cons_zero, List.set_cons_succ]
    refine take_at (i := 1) (d := 31) (v := .pointer (some ⟨q, 0, none⟩)) rfl rfl (by kernel_rfl) (by kernel_rfl) (by kernel_rfl) (fun _ _ _ h => h) (Or.inl ⟨by rfl, ?_⟩) hHeld ?_
    · intro w' hS; go_simp
    try simp only [Act.put, List.setIfInBounds_toArray, List.set_cons_zero, List.set_cons_succ]
    refine wpAnyH_ready (rs := [2]) (by kernel_rfl) (by simp) ?_
    refine AllReadyH.cons rfl (fun K' hK => ?_) AllReadyH.nil
    go_simp
    refine (padDraw_any o len cap q _ D.1).mono ?_
    rintro e w4 ⟨p, v, u, n, rfl, _, _, _, _, _, _, _, _, hs4, hg4⟩
    go_simp
    refine hK.out _ _ (⟨lies_grown hHeld.1 hg4 (by omega), lies_grown hHeld.2 hg4 (by omega)⟩) (fun hHeld => ?_)
    clear hK K'
    try simp only [Act.put, List.setIfInBounds_toArray, List.set_cons_zero, List.set_cons_succ]
    have K4 := k2_grown K hg4 D.2.2
    clear hs4 hg4 K
    obtain ⟨c0, c1⟩ := lies_pair K4.2.1
    have cf0 := lies_frozen K4.2.1 0
    have cf1 := lies_frozen K4.2.1 1
    obtain ⟨d0, d1, d2, d3⟩ := lies_four K4.2.2
    obtain ⟨df0, df1, df2, df3⟩ := lies_ice K4.2.2
    have n1 : ¬ w.heap.size = bx := by have := D.2.2; omega
    have n2 : ¬ w.heap.size = byy := by have := D.2.2; omega
    have n3 : ¬ w.heap.size + 1 = bx := by have := D.2.2; omega
    have n4 : ¬ w.heap.size + 1 = byy := by have := D.2.2; omega
    clear D
    refine wpAnyH_ready (rs := [3]) (by kernel_rfl) (by simp) ?_
    refine AllReadyH.cons rfl (fun K' hK => ?_) AllReadyH.nil
    go_simp
    refine hK.out _ _ (⟨liesR_other2 hHeld.1 n1, liesR_other2 hHeld.2 n2⟩) (fun hHeld => ?_)
    clear hK K'
    try simp only [Act.put, List.setIfInBounds_toArray, List.set_cons_zero, List.set_cons_succ]
    refine wpAnyH_ready (rs := [4]) (by kernel_rfl) (by simp) ?_
    refine AllReadyH.cons rfl (fun K' hK => ?_) AllReadyH.nil
    go_simp
    refine hK.out _ _ (⟨lies_other4 hHeld.1 n3, lies_other4 hHeld.2 n4⟩) (fun hHeld => ?_)
    clear hK K'
    try simp only [Act.put, List.setIfInBounds_toArray, List.set_cons_zero, List.set_cons_succ]
    refine wpAnyH_done (by kernel_rfl) ?_ _
    go_wp2
    refine bodyPost_ret (v := .tuple #[.agg (P2 a b), .agg (P4 p v u n)]) (by simp [results, Try.results48, go_sem, c0, c1, d0, d1, d2, d3]) rfl ?_
    exact ⟨_, _, _, _, _, _, rfl, below_set4 (below_set2 K4.1 (by omega)) (by omega)⟩
set_option maxHeartbeats 1000000 in
theorem drawFind_any (o : Option Addr) (len cap : Nat) (w : World) (hl : len ≤ 4096) (hc : CodeIn w o len) :
    Calls Try.prog 43 #[.slice o len cap] w (OnePad w) := by
  have HC := Lib.hid (codeIn_below (B := w.heap.size) hc (show Below w.heap.size w (w.alloc (.cells (P4 0 0 0 0) 34)) from below_a1 w _))
  clear hc
  go_enter Try.func43, Try.ntmps43
  go_wp2_with fail
  refine (from_any _ _ _ _ hl HC.out).mono ?_
  rintro e w1 ⟨q, rfl, hq, hs1, hb1⟩
  have K := k1_next (k1_new w (P4 0 0 0 0) 34) hb1
  have D : DD o len cap q 1 w w1 := ⟨hs1, K.1, by simpa using hq⟩
  replace HC := Lib.hid (codeIn_below (B := 0) HC.out hb1)
  clear hs1 hb1 hq
  go_wp2_with fail
  refine (drawAgree_any _ _ _ _ hl HC.out).mono ?_
  rintro e w2 ⟨a, b, p, v, u, n, rfl, hb2⟩
  clear HC
  replace K := k1_next K hb2
  replace D := dd_below D hb2
  clear hb2
  go_upto_region 3 with fail
  have Ly := lies_new (w2.alloc (.cells (P2 a b) 49)) (P4 p v u n) 34
  have hly : q < w2.heap.size := src_lt D.1
  rw [size1] at Ly
  replace D := dd_alloc (dd_alloc D (.cells (P2 a b) 49)) (.cells (P4 p v u n) 34)
  replace K := k1_next (k1_next K (below_a1 w2 (.cells (P2 a b) 49))) (below_a1 (w2.alloc (.cells (P2 a b) 49)) (.cells (P4 p v u n) 34))
  generalize (w2.alloc (.cells (P2 a b) 49)).alloc (.cells (P4 p v u n) 34) = Wx at Ly D K ⊢
  obtain ⟨by0, hby⟩ : ∃ b, w2.heap.size + 1 = b := ⟨_, rfl⟩
  rw [hby] at Ly ⊢
  replace hly : q < by0 := by omega
  clear hby
  obtain ⟨y0, y1, y2, y3⟩ := lies_four Ly
  have A1 := fun w => specIsPadic_any p v u n w
  cases hp : padB p v u n
  · rw [hp] at A1
    replace A1 := Lib.hid A1
    go_upto_region 5 with (go_at_call 83; refine (A1.out _).mono ?_; rintro e w3 ⟨rfl, hb3⟩; replace Ly := lies_next Ly hb3; replace K := k1_next K hb3)
    clear A1 y0 y1 y2 y3 hb3 D
    obtain ⟨y0, y1, y2, y3⟩ := lies_four Ly
    obtain ⟨c0, c1, c2, c3⟩ := lies_four K.2
    obtain ⟨cf0, cf1, cf2, cf3⟩ := lies_ice K.2
    go_wp2
    refine bodyPost_ret (v := .agg (P4 p v u n)) (by simp [results, Try.results43, go_sem, c0, c1, c2, c3]) rfl ?_
    exact ⟨_, _, _, _, rfl, below_set4 K.1 (by omega)⟩
  · rw [hp] at A1
    replace A1 := Lib.hid A1
    go_wp2_with (go_at_call 83; refine (A1.out _).mono ?_; rintro e w3 ⟨rfl, hb3⟩; replace Ly := lies_next Ly hb3; replace K := k1_next K hb3; replace D := dd_below D hb3)
    clear A1 y0 y1 y2 y3 hb3
    refine (next_any _ _ _ _ _ _ (by omega) D.1).mono ?_
    rintro e w4 ⟨x, rfl, _, _, hs1, hg1, hz⟩
    replace K := k1_grown K hg1 D.2.2
    replace Ly := lies_grown Ly hg1 (by omega)
    replace D := dd_next D hs1 hg1
    clear hs1 hg1 hz
    by_cases hx : x = 0
    · have hx' : (x == 0) = true := by simp [hx]
      clear hx
      go_wp2_with fail
      refine (pick_new [40, -40, 12] 2 3 o len cap q w4 D.1 (by simp) (by simp)).mono ?_
      rintro e w5 ⟨r, rfl, _, hs1, hg1⟩
      replace K := k1_grown K hg1 D.2.2
      replace Ly := lies_grown Ly hg1 (by omega)
      have hne : ¬ w.heap.size = by0 := by have := D.2.2; omega
      have hge : w.heap.size ≤ by0 := by have := D.2.2; omega
      clear hs1 hg1 D
      obtain ⟨y0, y1, y2, y3⟩ := lies_four Ly
      obtain ⟨yf0, yf1, yf2, yf3⟩ := lies_ice Ly
      obtain ⟨c0, c1, c2, c3⟩ := lies_four K.2
      obtain ⟨cf0, cf1, cf2, cf3⟩ := lies_ice K.2
      go_wp2
      refine bodyPost_ret (v := .agg (P4 p r u n)) (by simp [results, Try.results43, go_sem, c0, c1, c2, c3, hne]) rfl ?_
      exact ⟨_, _, _, _, rfl, below_set4 (K.1.setCell hge _) (by omega)⟩
    · have hx' : (x == 0) = false := by simpa using hx
      clear hx
      go_upto_region 5 with fail
      clear D
      obtain ⟨y0, y1, y2, y3⟩ := lies_four Ly
      obtain ⟨c0, c1, c2, c3⟩ := lies_four K.2
      obtain ⟨cf0, cf1, cf2, cf3⟩ := lies_ice K.2
      go_wp2
      refine bodyPost_ret (v := .agg (P4 p v u n)) (by simp [results, Try.results43, go_sem, c0, c1, c2, c3]) rfl ?_
      exact ⟨_, _, _, _, rfl, below_set4 K.1 (by omega)⟩
end Go.Proofs.Ytgckamlibbjgcaa
namespace Go.Proofs.Ytgckamlibbjgcaa
open Go.RowKit
set_option linter.unusedVariables false
set_option linter.unusedSimpArgs false
set_option maxRecDepth 20000
/-- a rational number and a p-adic number, each in its block, and what they read -/
abbrev SA (w : World) (n d p v u k : Int) (w1 : World) : Prop :=
  K2 w (P2 n d) (P4 p v u k) w1 ∧ w1.cell? ⟨w.heap.size, 0, none⟩ = some (.int .i64 n) ∧ w1.cell? ⟨w.heap.size, 1, none⟩ = some (.int .i64 d) ∧
    w1.cell? ⟨w.heap.size + 1, 0, none⟩ = some (.int .i64 p) ∧ w1.cell? ⟨w.heap.size + 1, 1, none⟩ = some (.int .i64 v) ∧ w1.cell? ⟨w.heap.size + 1, 2, none⟩ = some (.int .i64 u) ∧ w1.cell? ⟨w.heap.size + 1, 3, none⟩ = some (.int .i64 k)
theorem sa_of {w : World} {n d p v u k : Int} {w1 : World} (K : K2 w (P2 n d) (P4 p v u k) w1) : SA w n d p v u k w1 := by
  obtain ⟨c0, c1⟩ := lies_pair K.2.1
  obtain ⟨d0, d1, d2, d3⟩ := lies_four K.2.2
  exact ⟨K, c0, c1, d0, d1, d2, d3⟩
theorem sa_next {w : World} {n d p v u k : Int} {w1 w2 : World} (h : SA w n d p v u k w1) (hb : Below w1.heap.size w1 w2) : SA w n d p v u k w2 := sa_of (k2_next h.1 hb)
theorem ret_bi {a b : Bool} {c d : Int} (h : a = b) (h' : c = d) : Ending.returned (.tuple #[.bool a, .int .i64 c]) = .returned (.tuple #[.bool b, .int .i64 d]) := by rw [h, h']
set_option maxHeartbeats 1000000 in
theorem agree_yes (n d p v u k : Int) (w : World) (hx : isRatB n d = true) (hy : padB p v u k = true) (HZ : Hid ((u == 0 && k == 0) = false)) (HN : Hid ((n == 0) = false))
    (HPI : Hid (∀ w, Calls Try.prog 97 #[.agg (P2 n d), .agg (P2 p k)] w fun e w' => e = .returned (.agg (P4 p v u k)) ∧ Below w.heap.size w w')) :
    Calls Try.prog 49 #[.agg (P2 n d), .agg (P4 p v u k)] w fun e w' => e = .returned (.tuple #[.bool true, .int .i64 0]) ∧ Below w.heap.size w w' := by
  go_enter Try.func49, Try.ntmps49
  go_wp2_with (first | (go_at_call 95; refine (ratValid_any _ _ _).mono ?_; rintro e wn ⟨rfl, hb⟩; (first | have K := k2_first hb | have K := k2_next K hb); obtain ⟨c0, c1⟩ := lies_pair K.2.1; obtain ⟨d0, d1, d2, d3⟩ := lies_four K.2.2) | (go_at_call 80; refine (isValid_any _ _ _ _ _).mono ?_; rintro e wn ⟨rfl, hb⟩; (first | have K := k2_first hb | have K := k2_next K hb); obtain ⟨c0, c1⟩ := lies_pair K.2.1; obtain ⟨d0, d1, d2, d3⟩ := lies_four K.2.2) | (go_at_call 81; refine (isZero_any _ _ _ _ _).mono ?_; rw [HZ.out]; rintro e wn ⟨rfl, hb⟩; (first | have K := k2_first hb | have K := k2_next K hb); obtain ⟨c0, c1⟩ := lies_pair K.2.1; obtain ⟨d0, d1, d2, d3⟩ := lies_four K.2.2))
  go_region_held3 (fun w' => K2 w (P2 n d) (P4 p v u k) w' ∧ w'.cell? ⟨w.heap.size, 0, none⟩ = some (.int .i64 n) ∧ w'.cell? ⟨w.heap.size, 1, none⟩ = some (.int .i64 d) ∧ w'.cell? ⟨w.heap.size + 1, 0, none⟩ = some (.int .i64 p) ∧ w'.cell? ⟨w.heap.size + 1, 1, none⟩ = some (.int .i64 v) ∧ w'.cell? ⟨w.heap.size + 1, 2, none⟩ = some (.int .i64 u) ∧ w'.cell? ⟨w.heap.size + 1, 3, none⟩ = some (.int .i64 k))
    (first | with_reducible assumption | exact sa_of (k2_drew K) | exact sa_next ‹_› hb)
    (first | (go_at_call 96; refine (ratZero_any _ _ _).mono ?_; rw [HN.out]; rintro e1 wn ⟨rfl, hb⟩) | (go_at_call 82; refine (pring_any _ _ _ _ _).mono ?_; rintro e1 wn ⟨rfl, hb⟩) | (go_at_call 97; refine (HPI.out _).mono ?_; rintro e1 wn ⟨rfl, hb⟩))
  all_goals go_wp2_with fail
  all_goals go_ret2
  all_goals exact ⟨rfl, (‹K2 w _ _ _ ∧ _›).1.1⟩
set_option maxHeartbeats 1000000 in
theorem agree_val (n d p v u k V U : Int) (w : World) (hx : isRatB n d = true) (hy : padB p v u k = true) (HZ : Hid ((u == 0 && k == 0) = false)) (HN : Hid ((n == 0) = false)) (hV : (v == V) = false)
    (HPI : Hid (∀ w, Calls Try.prog 97 #[.agg (P2 n d), .agg (P2 p k)] w fun e w' => e = .returned (.agg (P4 p V U k)) ∧ Below w.heap.size w w')) :
    Calls Try.prog 49 #[.agg (P2 n d), .agg (P4 p v u k)] w fun e w' => e = .returned (.tuple #[.bool false, .int .i64 0]) ∧ Below w.heap.size w w' := by
  go_enter Try.func49, Try.ntmps49
  go_wp2_with (first | (go_at_call 95; refine (ratValid_any _ _ _).mono ?_; rintro e wn ⟨rfl, hb⟩; (first | have K := k2_first hb | have K := k2_next K hb); obtain ⟨c0, c1⟩ := lies_pair K.2.1; obtain ⟨d0, d1, d2, d3⟩ := lies_four K.2.2) | (go_at_call 80; refine (isValid_any _ _ _ _ _).mono ?_; rintro e wn ⟨rfl, hb⟩; (first | have K := k2_first hb | have K := k2_next K hb); obtain ⟨c0, c1⟩ := lies_pair K.2.1; obtain ⟨d0, d1, d2, d3⟩ := lies_four K.2.2) | (go_at_call 81; refine (isZero_any _ _ _ _ _).mono ?_; rw [HZ.out]; rintro e wn ⟨rfl, hb⟩; (first | have K := k2_first hb | have K := k2_next K hb); obtain ⟨c0, c1⟩ := lies_pair K.2.1; obtain ⟨d0, d1, d2, d3⟩ := lies_four K.2.2))
  go_region_held3 (fun w' => K2 w (P2 n d) (P4 p v u k) w' ∧ w'.cell? ⟨w.heap.size, 0, none⟩ = some (.int .i64 n) ∧ w'.cell? ⟨w.heap.size, 1, none⟩ = some (.int .i64 d) ∧ w'.cell? ⟨w.heap.size + 1, 0, none⟩ = some (.int .i64 p) ∧ w'.cell? ⟨w.heap.size + 1, 1, none⟩ = some (.int .i64 v) ∧ w'.cell? ⟨w.heap.size + 1, 2, none⟩ = some (.int .i64 u) ∧ w'.cell? ⟨w.heap.size + 1, 3, none⟩ = some (.int .i64 k))
    (first | with_reducible assumption | exact sa_of (k2_drew K) | exact sa_next ‹_› hb)
    (first | (go_at_call 96; refine (ratZero_any _ _ _).mono ?_; rw [HN.out]; rintro e1 wn ⟨rfl, hb⟩) | (go_at_call 82; refine (pring_any _ _ _ _ _).mono ?_; rintro e1 wn ⟨rfl, hb⟩) | (go_at_call 97; refine (HPI.out _).mono ?_; rintro e1 wn ⟨rfl, hb⟩))
  all_goals go_wp2_with fail
  all_goals go_ret2
  all_goals exact ⟨rfl, (‹K2 w _ _ _ ∧ _›).1.1⟩
set_option maxHeartbeats 1000000 in
theorem agree_unit (n d p v u k U : Int) (w : World) (hx : isRatB n d = true) (hy : padB p v u k = true) (HZ : Hid ((u == 0 && k == 0) = false)) (HN : Hid ((n == 0) = false)) (hU : (u == U) = false)
    (HPI : Hid (∀ w, Calls Try.prog 97 #[.agg (P2 n d), .agg (P2 p k)] w fun e w' => e = .returned (.agg (P4 p v U k)) ∧ Below w.heap.size w w')) :
    Calls Try.prog 49 #[.agg (P2 n d), .agg (P4 p v u k)] w fun e w' => e = .returned (.tuple #[.bool false, .int .i64 0]) ∧ Below w.heap.size w w' := by
  go_enter Try.func49, Try.ntmps49
  go_wp2_with (first | (go_at_call 95; refine (ratValid_any _ _ _).mono ?_; rintro e wn ⟨rfl, hb⟩; (first | have K := k2_first hb | have K := k2_next K hb); obtain ⟨c0, c1⟩ := lies_pair K.2.1; obtain ⟨d0, d1, d2, d3⟩ := lies_four K.2.2) | (go_at_call 80; refine (isValid_any _ _ _ _ _).mono ?_; rintro e wn ⟨rfl, hb⟩; (first | have K := k2_first hb | have K := k2_next K hb); obtain ⟨c0, c1⟩ := lies_pair K.2.1; obtain ⟨d0, d1, d2, d3⟩ := lies_four K.2.2) | (go_at_call 81; refine (isZero_any _ _ _ _ _).mono ?_; rw [HZ.out]; rintro e wn ⟨rfl, hb⟩; (first | have K := k2_first hb | have K := k2_next K hb); obtain ⟨c0, c1⟩ := lies_pair K.2.1; obtain ⟨d0, d1, d2, d3⟩ := lies_four K.2.2))
  go_region_held3 (fun w' => K2 w (P2 n d) (P4 p v u k) w' ∧ w'.cell? ⟨w.heap.size, 0, none⟩ = some (.int .i64 n) ∧ w'.cell? ⟨w.heap.size, 1, none⟩ = some (.int .i64 d) ∧ w'.cell? ⟨w.heap.size + 1, 0, none⟩ = some (.int .i64 p) ∧ w'.cell? ⟨w.heap.size + 1, 1, none⟩ = some (.int .i64 v) ∧ w'.cell? ⟨w.heap.size + 1, 2, none⟩ = some (.int .i64 u) ∧ w'.cell? ⟨w.heap.size + 1, 3, none⟩ = some (.int .i64 k))
    (first | with_reducible assumption | exact sa_of (k2_drew K) | exact sa_next ‹_› hb)
    (first | (go_at_call 96; refine (ratZero_any _ _ _).mono ?_; rw [HN.out]; rintro e1 wn ⟨rfl, hb⟩) | (go_at_call 82; refine (pring_any _ _ _ _ _).mono ?_; rintro e1 wn ⟨rfl, hb⟩) | (go_at_call 97; refine (HPI.out _).mono ?_; rintro e1 wn ⟨rfl, hb⟩))
  all_goals go_wp2_with fail
  all_goals go_ret2
  all_goals exact ⟨rfl, (‹K2 w _ _ _ ∧ _›).1.1⟩
set_option maxHeartbeats 1000000 in
theorem implAgree_any (n d p v u k : Int) (w : World) :
    Calls Try.prog 49 #[.agg (P2 n d), .agg (P4 p v u k)] w fun e w' => e = .returned (.tuple #[.bool (agreeB n d p v u k), .int .i64 (agreeC n d p v u k)]) ∧ Below w.heap.size w w' := by
  cases hx : isRatB n d
  · have HE := Lib.hid (show agreeB n d p v u k = false ∧ agreeC n d p v u k = 1 by simp [agreeB, agreeC, hx])
    go_enter Try.func49, Try.ntmps49
    go_wp2_with (first | (go_at_call 95; refine (ratValid_any _ _ _).mono ?_; rintro e wn ⟨rfl, hb⟩; (first | have K := k2_first hb | have K := k2_next K hb); obtain ⟨c0, c1⟩ := lies_pair K.2.1; obtain ⟨d0, d1, d2, d3⟩ := lies_four K.2.2))
    go_ret2
    exact ⟨ret_bi HE.out.1.symm HE.out.2.symm, K.1⟩
  · cases hy : padB p v u k
    · have HE := Lib.hid (show agreeB n d p v u k = false ∧ agreeC n d p v u k = 1 by simp [agreeB, agreeC, hy])
      go_enter Try.func49, Try.ntmps49
      go_wp2_with (first | (go_at_call 95; refine (ratValid_any _ _ _).mono ?_; rintro e wn ⟨rfl, hb⟩; (first | have K := k2_first hb | have K := k2_next K hb); obtain ⟨c0, c1⟩ := lies_pair K.2.1; obtain ⟨d0, d1, d2, d3⟩ := lies_four K.2.2) | (go_at_call 80; refine (isValid_any _ _ _ _ _).mono ?_; rintro e wn ⟨rfl, hb⟩; (first | have K := k2_first hb | have K := k2_next K hb); obtain ⟨c0, c1⟩ := lies_pair K.2.1; obtain ⟨d0, d1, d2, d3⟩ := lies_four K.2.2))
      go_ret2
      exact ⟨ret_bi HE.out.1.symm HE.out.2.symm, K.1⟩
    · have ok := padB_ok hy
      have hC : agreeC n d p v u k = 0 := by simp [agreeC, hx, hy]
      rw [hC]
      obtain ⟨n0, n1, d0, d1, _⟩ := isRat_of hx
      obtain ⟨hp2, hp97⟩ := smallB_bd ok.1
      have HX := Lib.hid hx
      by_cases hk : k = 0
      · have HZ := Lib.hid (show (u == 0 && k == 0) = true by simp [hk, pok_zero ok hk])
        by_cases hn : n = 0
        · have HN := Lib.hid (show (n == 0) = true by simp [hn])
          have HE := Lib.hid (show agreeB n d p v u k = true by unfold agreeB; rw [hx, hy, if_pos hk, HN.out]; rfl)
          clear hC hk hn
          go_enter Try.func49, Try.ntmps49
          go_wp2_with (first | (go_at_call 95; refine (ratValid_any _ _ _).mono ?_; rintro e wn ⟨rfl, hb⟩; (first | have K := k2_first hb | have K := k2_next K hb); obtain ⟨c0, c1⟩ := lies_pair K.2.1; obtain ⟨d0, d1, d2, d3⟩ := lies_four K.2.2) | (go_at_call 80; refine (isValid_any _ _ _ _ _).mono ?_; rintro e wn ⟨rfl, hb⟩; (first | have K := k2_first hb | have K := k2_next K hb); obtain ⟨c0, c1⟩ := lies_pair K.2.1; obtain ⟨d0, d1, d2, d3⟩ := lies_four K.2.2) | (go_at_call 81; refine (isZero_any _ _ _ _ _).mono ?_; rw [HZ.out]; rintro e wn ⟨rfl, hb⟩; (first | have K := k2_first hb | have K := k2_next K hb); obtain ⟨c0, c1⟩ := lies_pair K.2.1; obtain ⟨d0, d1, d2, d3⟩ := lies_four K.2.2))
          refine wp_region_held_drew (S := SA w n d p v u k) (by kernel_rfl) (sa_of (k2_drew K)) (fun hHeld => ?_)
          refine take_at (i := 0) (d := 16) (v := .agg (P2 n d)) rfl rfl (by kernel_rfl) (by kernel_rfl) (by kernel_rfl) (fun _ _ _ h => h) (Or.inl ⟨by rfl, ?_⟩) hHeld ?_
          · intro w' hS
            obtain ⟨_, k0, k1, l0, l1, l2, l3⟩ := hS
            go_simp
          try simp only [Act.put, List.setIfInBounds_toArray, List.set_cons_zero, List.set_cons_succ]
          refine wpAnyH_ready (rs := [1]) (by kernel_rfl) (by simp) ?_
          refine AllReadyH.cons rfl (fun K hK => ?_) AllReadyH.nil
          go_simp
          go_at_call 96; refine (ratZero_any _ _ _).mono ?_; rw [HN.out]; rintro e1 wn ⟨rfl, hb⟩
          go_simp
          refine hK.out _ _ (sa_next hHeld hb) (fun hHeld => ?_)
          clear hK
          try simp only [Act.put, List.setIfInBounds_toArray, List.set_cons_zero, List.set_cons_succ]
          refine take_at (i := 2) (d := 18) (v := .bool true) rfl rfl (by kernel_rfl) (by kernel_rfl) (by kernel_rfl) (fun _ _ _ h => h) (Or.inl ⟨by rfl, ?_⟩) hHeld ?_
          · intro w' hS; go_simp
          try simp only [Act.put, List.setIfInBounds_toArray, List.set_cons_zero, List.set_cons_succ]
          refine take_at (i := 3) (d := 19) (v := undef) rfl rfl (by kernel_rfl) (by kernel_rfl) (by kernel_rfl) (fun _ _ _ h => h) (Or.inr ⟨by kernel_rfl, rfl⟩) hHeld ?_
          try simp only [Act.put, List.setIfInBounds_toArray, List.set_cons_zero, List.set_cons_succ]
          refine take_at (i := 4) (d := 20) (v := undef) rfl rfl (by kernel_rfl) (by kernel_rfl) (by kernel_rfl) (fun _ _ _ h => h) (Or.inr ⟨by kernel_rfl, rfl⟩) hHeld ?_
          try simp only [Act.put, List.setIfInBounds_toArray, List.set_cons_zero, List.set_cons_succ]
          refine take_at (i := 5) (d := 21) (v := undef) rfl rfl (by kernel_rfl) (by kernel_rfl) (by kernel_rfl) (fun _ _ _ h => h) (Or.inr ⟨by kernel_rfl, rfl⟩) hHeld ?_
          try simp only [Act.put, List.setIfInBounds_toArray, List.set_cons_zero, List.set_cons_succ]
          refine take_at (i := 6) (d := 22) (v := undef) rfl rfl (by kernel_rfl) (by kernel_rfl) (by kernel_rfl) (fun _ _ _ h => h) (Or.inr ⟨by kernel_rfl, rfl⟩) hHeld ?_
          try simp only [Act.put, List.setIfInBounds_toArray, List.set_cons_zero, List.set_cons_succ]
          refine take_at (i := 7) (d := 23) (v := undef) rfl rfl (by kernel_rfl) (by kernel_rfl) (by kernel_rfl) (fun _ _ _ h => h) (Or.inr ⟨by kernel_rfl, rfl⟩) hHeld ?_
          try simp only [Act.put, List.setIfInBounds_toArray, List.set_cons_zero, List.set_cons_succ]
          refine take_at (i := 8) (d := 24) (v := undef) rfl rfl (by kernel_rfl) (by kernel_rfl) (by kernel_rfl) (fun _ _ _ h => h) (Or.inr ⟨by kernel_rfl, rfl⟩) hHeld ?_
          try simp only [Act.put, List.setIfInBounds_toArray, List.set_cons_zero, List.set_cons_succ]
          refine take_at (i := 9) (d := 25) (v := undef) rfl rfl (by kernel_rfl) (by kernel_rfl) (by kernel_rfl) (fun _ _ _ h => h) (Or.inr ⟨by kernel_rfl, rfl⟩) hHeld ?_
          try simp only [Act.put, List.setIfInBounds_toArray, List.set_cons_zero, List.set_cons_succ]
          refine take_at (i := 10) (d := 26) (v := .bool true) rfl rfl (by kernel_rfl) (by kernel_rfl) (by kernel_rfl) (fun _ _ _ h => h) (Or.inl ⟨by rfl, ?_⟩) hHeld ?_
          · intro w' hS; go_simp
          try simp only [Act.put, List.setIfInBounds_toArray, List.set_cons_zero, List.set_cons_succ]
          refine take_at (i := 11) (d := 4) (v := .bool true) rfl rfl (by kernel_rfl) (by kernel_rfl) (by kernel_rfl) (fun _ _ _ h => h) (Or.inl ⟨by rfl, ?_⟩) hHeld ?_
          · intro w' hS; go_simp
          try simp only [Act.put, List.setIfInBounds_toArray, List.set_cons_zero, List.set_cons_succ]
          refine take_at (i := 12) (d := 5) (v := .int .i64 0) rfl rfl (by kernel_rfl) (by kernel_rfl) (by kernel_rfl) (fun _ _ _ h => h) (Or.inl ⟨by rfl, ?_⟩) hHeld ?_
          · intro w' hS; go_simp
          try simp only [Act.put, List.setIfInBounds_toArray, List.set_cons_zero, List.set_cons_succ]
          refine wpAnyH_done (by kernel_rfl) ?_ _
          go_wp2_with fail
          go_ret2
          exact ⟨ret_bi HE.out.symm rfl, hHeld.1.1⟩
        · have HN := Lib.hid (show (n == 0) = false by simp [hn])
          have HE := Lib.hid (show agreeB n d p v u k = decide (v ≤ valCount n p - valCount d p) by unfold agreeB; rw [hx, hy, if_pos hk, HN.out]; rfl)
          have H0 := Lib.hid hn
          have H1 := Lib.hid (show d ≠ 0 by omega)
          clear hC hk hn
          go_enter Try.func49, Try.ntmps49
          go_wp2_with (first | (go_at_call 95; refine (ratValid_any _ _ _).mono ?_; rintro e wn ⟨rfl, hb⟩; (first | have K := k2_first hb | have K := k2_next K hb); obtain ⟨c0, c1⟩ := lies_pair K.2.1; obtain ⟨d0, d1, d2, d3⟩ := lies_four K.2.2) | (go_at_call 80; refine (isValid_any _ _ _ _ _).mono ?_; rintro e wn ⟨rfl, hb⟩; (first | have K := k2_first hb | have K := k2_next K hb); obtain ⟨c0, c1⟩ := lies_pair K.2.1; obtain ⟨d0, d1, d2, d3⟩ := lies_four K.2.2) | (go_at_call 81; refine (isZero_any _ _ _ _ _).mono ?_; rw [HZ.out]; rintro e wn ⟨rfl, hb⟩; (first | have K := k2_first hb | have K := k2_next K hb); obtain ⟨c0, c1⟩ := lies_pair K.2.1; obtain ⟨d0, d1, d2, d3⟩ := lies_four K.2.2))
          go_region_held3 (fun w' => K2 w (P2 n d) (P4 p v u k) w' ∧ w'.cell? ⟨w.heap.size, 0, none⟩ = some (.int .i64 n) ∧ w'.cell? ⟨w.heap.size, 1, none⟩ = some (.int .i64 d) ∧ w'.cell? ⟨w.heap.size + 1, 0, none⟩ = some (.int .i64 p) ∧ w'.cell? ⟨w.heap.size + 1, 1, none⟩ = some (.int .i64 v) ∧ w'.cell? ⟨w.heap.size + 1, 2, none⟩ = some (.int .i64 u) ∧ w'.cell? ⟨w.heap.size + 1, 3, none⟩ = some (.int .i64 k))
            (first | with_reducible assumption | exact sa_of (k2_drew K) | exact sa_next ‹_› hb)
            (first | (go_at_call 96; refine (ratZero_any _ _ _).mono ?_; rw [HN.out]; rintro e1 wn ⟨rfl, hb⟩) | (go_at_call 106; refine (ratVal_any _ _ _ _ hp2 H0.out H1.out (by omega) (by omega) (by omega) (by omega)).mono ?_; rintro e1 wn ⟨rfl, hb⟩))
          all_goals go_wp2_with fail
          all_goals go_ret2
          all_goals exact ⟨ret_bi HE.out.symm rfl, (‹K2 w _ _ _ ∧ _›).1.1⟩
      · have HZ := Lib.hid (show (u == 0 && k == 0) = false by simp [hk])
        by_cases hn : n = 0
        · have HN := Lib.hid (show (n == 0) = true by simp [hn])
          have HE := Lib.hid (show agreeB n d p v u k = false by unfold agreeB; rw [hx, hy, if_neg hk, HN.out]; rfl)
          clear hC hk hn
          go_enter Try.func49, Try.ntmps49
          go_wp2_with (first | (go_at_call 95; refine (ratValid_any _ _ _).mono ?_; rintro e wn ⟨rfl, hb⟩; (first | have K := k2_first hb | have K := k2_next K hb); obtain ⟨c0, c1⟩ := lies_pair K.2.1; obtain ⟨d0, d1, d2, d3⟩ := lies_four K.2.2) | (go_at_call 80; refine (isValid_any _ _ _ _ _).mono ?_; rintro e wn ⟨rfl, hb⟩; (first | have K := k2_first hb | have K := k2_next K hb); obtain ⟨c0, c1⟩ := lies_pair K.2.1; obtain ⟨d0, d1, d2, d3⟩ := lies_four K.2.2) | (go_at_call 81; refine (isZero_any _ _ _ _ _).mono ?_; rw [HZ.out]; rintro e wn ⟨rfl, hb⟩; (first | have K := k2_first hb | have K := k2_next K hb); obtain ⟨c0, c1⟩ := lies_pair K.2.1; obtain ⟨d0, d1, d2, d3⟩ := lies_four K.2.2))
          refine wp_region_held_drew (S := SA w n d p v u k) (by kernel_rfl) (sa_of (k2_drew K)) (fun hHeld => ?_)
          refine take_at (i := 0) (d := 27) (v := .agg (P2 n d)) rfl rfl (by kernel_rfl) (by kernel_rfl) (by kernel_rfl) (fun _ _ _ h => h) (Or.inl ⟨by rfl, ?_⟩) hHeld ?_
          · intro w' hS
            obtain ⟨_, k0, k1, l0, l1, l2, l3⟩ := hS
            go_simp
          try simp only [Act.put, List.setIfInBounds_toArray, List.set_cons_zero, List.set_cons_succ]
          refine wpAnyH_ready (rs := [1]) (by kernel_rfl) (by simp) ?_
          refine AllReadyH.cons rfl (fun K hK => ?_) AllReadyH.nil
          go_simp
          go_at_call 96; refine (ratZero_any _ _ _).mono ?_; rw [HN.out]; rintro e1 wn ⟨rfl, hb⟩
          go_simp
          refine hK.out _ _ (sa_next hHeld hb) (fun hHeld => ?_)
          clear hK
          try simp only [Act.put, List.setIfInBounds_toArray, List.set_cons_zero, List.set_cons_succ]
          refine take_at (i := 2) (d := 29) (v := .bool false) rfl rfl (by kernel_rfl) (by kernel_rfl) (by kernel_rfl) (fun _ _ _ h => h) (Or.inl ⟨by rfl, ?_⟩) hHeld ?_
          · intro w' hS; go_simp
          try simp only [Act.put, List.setIfInBounds_toArray, List.set_cons_zero, List.set_cons_succ]
          refine take_at (i := 3) (d := 30) (v := .bool false) rfl rfl (by kernel_rfl) (by kernel_rfl) (by kernel_rfl) (fun _ _ _ h => h) (Or.inl ⟨by rfl, ?_⟩) hHeld ?_
          · intro w' hS; go_simp
          try simp only [Act.put, List.setIfInBounds_toArray, List.set_cons_zero, List.set_cons_succ]
          refine take_at (i := 4) (d := 31) (v := undef) rfl rfl (by kernel_rfl) (by kernel_rfl) (by kernel_rfl) (fun _ _ _ h => h) (Or.inr ⟨by kernel_rfl, rfl⟩) hHeld ?_
          try simp only [Act.put, List.setIfInBounds_toArray, List.set_cons_zero, List.set_cons_succ]
          refine take_at (i := 5) (d := 32) (v := undef) rfl rfl (by kernel_rfl) (by kernel_rfl) (by kernel_rfl) (fun _ _ _ h => h) (Or.inr ⟨by kernel_rfl, rfl⟩) hHeld ?_
          try simp only [Act.put, List.setIfInBounds_toArray, List.set_cons_zero, List.set_cons_succ]
          refine take_at (i := 6) (d := 33) (v := undef) rfl rfl (by kernel_rfl) (by kernel_rfl) (by kernel_rfl) (fun _ _ _ h => h) (Or.inr ⟨by kernel_rfl, rfl⟩) hHeld ?_
          try simp only [Act.put, List.setIfInBounds_toArray, List.set_cons_zero, List.set_cons_succ]
          refine take_at (i := 7) (d := 34) (v := undef) rfl rfl (by kernel_rfl) (by kernel_rfl) (by kernel_rfl) (fun _ _ _ h => h) (Or.inr ⟨by kernel_rfl, rfl⟩) hHeld ?_
          try simp only [Act.put, List.setIfInBounds_toArray, List.set_cons_zero, List.set_cons_succ]
          refine take_at (i := 8) (d := 35) (v := undef) rfl rfl (by kernel_rfl) (by kernel_rfl) (by kernel_rfl) (fun _ _ _ h => h) (Or.inr ⟨by kernel_rfl, rfl⟩) hHeld ?_
          try simp only [Act.put, List.setIfInBounds_toArray, List.set_cons_zero, List.set_cons_succ]
          refine take_at (i := 9) (d := 36) (v := undef) rfl rfl (by kernel_rfl) (by kernel_rfl) (by kernel_rfl) (fun _ _ _ h => h) (Or.inr ⟨by kernel_rfl, rfl⟩) hHeld ?_
          try simp only [Act.put, List.setIfInBounds_toArray, List.set_cons_zero, List.set_cons_succ]
          refine take_at (i := 10) (d := 37) (v := .bool false) rfl rfl (by kernel_rfl) (by kernel_rfl) (by kernel_rfl) (fun _ _ _ h => h) (Or.inl ⟨by rfl, ?_⟩) hHeld ?_
          · intro w' hS; go_simp
          try simp only [Act.put, List.setIfInBounds_toArray, List.set_cons_zero, List.set_cons_succ]
          refine take_at (i := 11) (d := 4) (v := .bool false) rfl rfl (by kernel_rfl) (by kernel_rfl) (by kernel_rfl) (fun _ _ _ h => h) (Or.inl ⟨by rfl, ?_⟩) hHeld ?_
          · intro w' hS; go_simp
          try simp only [Act.put, List.setIfInBounds_toArray, List.set_cons_zero, List.set_cons_succ]
          refine take_at (i := 12) (d := 5) (v := .int .i64 0) rfl rfl (by kernel_rfl) (by kernel_rfl) (by kernel_rfl) (fun _ _ _ h => h) (Or.inl ⟨by rfl, ?_⟩) hHeld ?_
          · intro w' hS; go_simp
          try simp only [Act.put, List.setIfInBounds_toArray, List.set_cons_zero, List.set_cons_succ]
          refine wpAnyH_done (by kernel_rfl) ?_ _
          go_wp2_with fail
          go_ret2
          exact ⟨ret_bi HE.out.symm rfl, hHeld.1.1⟩
        · have HN := Lib.hid (show (n == 0) = false by simp [hn])
          have HE := Lib.hid (show agreeB n d p v u k = (decide (valCount n p - valCount d p = v) && decide (pofU n d p k = u)) by unfold agreeB; rw [hx, hy, if_neg hk, HN.out]; rfl)
          have H0 := Lib.hid hn
          have HM := Lib.hid (pok_ring ok hk).2.1
          clear hC hk hn
          have HPI : ∀ w, Calls Try.prog 97 #[.agg (P2 n d), .agg (P2 p k)] w fun e w' => e = .returned (.agg (P4 p (valCount n p - valCount d p) (pofU n d p k) k)) ∧ Below w.heap.size w w' := fun w => padicIn_any n d p k w HX.out H0.out HM.out
          rw [HE.out]
          generalize valCount n p - valCount d p = V at *
          generalize pofU n d p k = U at *
          by_cases hV : V = v
          · subst hV
            by_cases hU : U = u
            · subst hU
              simp only [decide_true, Bool.and_self]
              exact agree_yes n d p V U k w hx hy HZ HN (Lib.hid HPI)
            · rw [decide_eq_false hU, Bool.and_false]
              exact agree_unit n d p V u k U w hx hy HZ HN (by simp; omega) (Lib.hid HPI)
          · rw [decide_eq_false hV, Bool.false_and]
            exact agree_val n d p v u k V U w hx hy HZ HN (by simp; omega) (Lib.hid HPI)
set_option maxHeartbeats 1000000 in
theorem sagree_yes (n d p v u k : Int) (w : World) (hn : (n == 0) = false) (hk : (k == 0) = false)
    (HPI : Hid (∀ w, Calls Try.prog 105 #[.agg (P2 n d), .agg (P2 p k)] w fun e w' => e = .returned (.agg (P4 p v u k)) ∧ Below w.heap.size w w')) :
    Calls Try.prog 107 #[.agg (P2 n d), .agg (P4 p v u k)] w fun e w' => e = .returned (.bool true) ∧ Below w.heap.size w w' := by
  go_enter Try.func107, Try.ntmps107
  go_wp2
  have K := k2_new w (P2 n d) (P4 p v u k) 49 34
  generalize (w.alloc (.cells (P2 n d) 49)).alloc (.cells (P4 p v u k) 34) = W1 at K ⊢
  go_region_held3 (fun w' => K2 w (P2 n d) (P4 p v u k) w' ∧ w'.cell? ⟨w.heap.size, 0, none⟩ = some (.int .i64 n) ∧ w'.cell? ⟨w.heap.size, 1, none⟩ = some (.int .i64 d) ∧ w'.cell? ⟨w.heap.size + 1, 0, none⟩ = some (.int .i64 p) ∧ w'.cell? ⟨w.heap.size + 1, 1, none⟩ = some (.int .i64 v) ∧ w'.cell? ⟨w.heap.size + 1, 2, none⟩ = some (.int .i64 u) ∧ w'.cell? ⟨w.heap.size + 1, 3, none⟩ = some (.int .i64 k))
    (first | with_reducible assumption | exact sa_of (k2_drew K) | exact sa_next ‹_› hb)
    (first | (go_at_call 123; refine (l03Ring_any _ _ _ _ _).mono ?_; rintro e1 wn ⟨rfl, hb⟩) | (go_at_call 105; refine (HPI.out _).mono ?_; rintro e1 wn ⟨rfl, hb⟩))
  all_goals go_wp2_with fail
  all_goals go_ret
  all_goals exact ⟨rfl, (‹K2 w _ _ _ ∧ _›).1.1⟩
set_option maxHeartbeats 1000000 in
theorem sagree_val (n d p v u k V U : Int) (w : World) (hn : (n == 0) = false) (hk : (k == 0) = false) (hV : (V == v) = false)
    (HPI : Hid (∀ w, Calls Try.prog 105 #[.agg (P2 n d), .agg (P2 p k)] w fun e w' => e = .returned (.agg (P4 p V U k)) ∧ Below w.heap.size w w')) :
    Calls Try.prog 107 #[.agg (P2 n d), .agg (P4 p v u k)] w fun e w' => e = .returned (.bool false) ∧ Below w.heap.size w w' := by
  go_enter Try.func107, Try.ntmps107
  go_wp2
  have K := k2_new w (P2 n d) (P4 p v u k) 49 34
  generalize (w.alloc (.cells (P2 n d) 49)).alloc (.cells (P4 p v u k) 34) = W1 at K ⊢
  go_region_held3 (fun w' => K2 w (P2 n d) (P4 p v u k) w' ∧ w'.cell? ⟨w.heap.size, 0, none⟩ = some (.int .i64 n) ∧ w'.cell? ⟨w.heap.size, 1, none⟩ = some (.int .i64 d) ∧ w'.cell? ⟨w.heap.size + 1, 0, none⟩ = some (.int .i64 p) ∧ w'.cell? ⟨w.heap.size + 1, 1, none⟩ = some (.int .i64 v) ∧ w'.cell? ⟨w.heap.size + 1, 2, none⟩ = some (.int .i64 u) ∧ w'.cell? ⟨w.heap.size + 1, 3, none⟩ = some (.int .i64 k))
    (first | with_reducible assumption | exact sa_of (k2_drew K) | exact sa_next ‹_› hb)
    (first | (go_at_call 123; refine (l03Ring_any _ _ _ _ _).mono ?_; rintro e1 wn ⟨rfl, hb⟩) | (go_at_call 105; refine (HPI.out _).mono ?_; rintro e1 wn ⟨rfl, hb⟩))
  all_goals go_wp2_with fail
  all_goals go_ret
  all_goals exact ⟨rfl, (‹K2 w _ _ _ ∧ _›).1.1⟩
set_option maxHeartbeats 1000000 in
theorem sagree_unit (n d p v u k U : Int) (w : World) (hn : (n == 0) = false) (hk : (k == 0) = false) (hU : (U == u) = false)
    (HPI : Hid (∀ w, Calls Try.prog 105 #[.agg (P2 n d), .agg (P2 p k)] w fun e w' => e = .returned (.agg (P4 p v U k)) ∧ Below w.heap.size w w')) :
    Calls Try.prog 107 #[.agg (P2 n d), .agg (P4 p v u k)] w fun e w' => e = .returned (.bool false) ∧ Below w.heap.size w w' := by
  go_enter Try.func107, Try.ntmps107
  go_wp2
  have K := k2_new w (P2 n d) (P4 p v u k) 49 34
  generalize (w.alloc (.cells (P2 n d) 49)).alloc (.cells (P4 p v u k) 34) = W1 at K ⊢
  go_region_held3 (fun w' => K2 w (P2 n d) (P4 p v u k) w' ∧ w'.cell? ⟨w.heap.size, 0, none⟩ = some (.int .i64 n) ∧ w'.cell? ⟨w.heap.size, 1, none⟩ = some (.int .i64 d) ∧ w'.cell? ⟨w.heap.size + 1, 0, none⟩ = some (.int .i64 p) ∧ w'.cell? ⟨w.heap.size + 1, 1, none⟩ = some (.int .i64 v) ∧ w'.cell? ⟨w.heap.size + 1, 2, none⟩ = some (.int .i64 u) ∧ w'.cell? ⟨w.heap.size + 1, 3, none⟩ = some (.int .i64 k))
    (first | with_reducible assumption | exact sa_of (k2_drew K) | exact sa_next ‹_› hb)
    (first | (go_at_call 123; refine (l03Ring_any _ _ _ _ _).mono ?_; rintro e1 wn ⟨rfl, hb⟩) | (go_at_call 105; refine (HPI.out _).mono ?_; rintro e1 wn ⟨rfl, hb⟩))
  all_goals go_wp2_with fail
  all_goals go_ret
  all_goals exact ⟨rfl, (‹K2 w _ _ _ ∧ _›).1.1⟩
set_option maxHeartbeats 1000000 in
theorem l05Agree_any (n d p v u k : Int) (w : World) (hx : isRatB n d = true) (hy : padB p v u k = true) :
    Calls Try.prog 107 #[.agg (P2 n d), .agg (P4 p v u k)] w fun e w' => e = .returned (.bool (agreeB n d p v u k)) ∧ Below w.heap.size w w' := by
  have ok := padB_ok hy
  obtain ⟨n0, n1, d0, d1, _⟩ := isRat_of hx
  obtain ⟨hp2, hp97⟩ := smallB_bd ok.1
  have HX := Lib.hid hx
  by_cases hn : n = 0
  · have hN : (n == 0) = true := by simp [hn]
    have HE := Lib.hid (show agreeB n d p v u k = (k == 0) by
      unfold agreeB
      rw [hx, hy, hN]
      by_cases hk : k = 0
      · rw [if_pos hk]; simp [hk]
      · rw [if_neg hk]; simp [hk])
    clear hn
    go_enter Try.func107, Try.ntmps107
    go_wp2
    go_ret
    exact ⟨ret_bool HE.out.symm, below_a2 w _ _⟩
  · have hN : (n == 0) = false := by simp [hn]
    by_cases hk : k = 0
    · have hK : (k == 0) = true := by simp [hk]
      have HE := Lib.hid (show agreeB n d p v u k = decide (v ≤ valCount n p - valCount d p) by unfold agreeB; rw [hx, hy, if_pos hk, hN]; rfl)
      have H0 := Lib.hid hn
      have H1 := Lib.hid (show d ≠ 0 by omega)
      obtain ⟨a0, a1⟩ := val_bd hp2 hn n0 n1
      obtain ⟨b0, b1⟩ := val_bd (n := d) hp2 H1.out (by omega) d1
      have hw : IntKind.i64.wrap (valCount n p - valCount d p) = valCount n p - valCount d p := IntWalk.i64_in _ (by omega)
      clear hk hn
      go_enter Try.func107, Try.ntmps107
      go_wp2
      go_quiet ((go_at_call 125; exact (l01Val_any _ _ _ hp2 (by first | exact H0.out | exact H1.out) (by omega)).mono fun e w' h => ⟨h.1, _, h.2.symm⟩))
      go_wp2
      go_ret
      exact ⟨ret_bool HE.out.symm, below_drewN (below_a2 w _ _) _⟩
    · have hK : (k == 0) = false := by simp [hk]
      have HE := Lib.hid (show agreeB n d p v u k = (decide (valCount n p - valCount d p = v) && decide (pofU n d p k = u)) by unfold agreeB; rw [hx, hy, if_neg hk, hN]; rfl)
      have HM := Lib.hid (pok_ring ok hk).2.1
      have HPI : ∀ w, Calls Try.prog 105 #[.agg (P2 n d), .agg (P2 p k)] w fun e w' => e = .returned (.agg (P4 p (valCount n p - valCount d p) (pofU n d p k) k)) ∧ Below w.heap.size w w' := fun w => l05Padic_any n d p k w HX.out hn HM.out
      rw [HE.out]
      generalize valCount n p - valCount d p = V at *
      generalize pofU n d p k = U at *
      by_cases hV : V = v
      · subst hV
        by_cases hU : U = u
        · subst hU
          simp only [decide_true, Bool.and_self]
          exact sagree_yes n d p V U k w hN hK (Lib.hid HPI)
        · rw [decide_eq_false hU, Bool.and_false]
          exact sagree_unit n d p V u k U w hN hK (by simp; omega) (Lib.hid HPI)
      · rw [decide_eq_false hV, Bool.false_and]
        exact sagree_val n d p v u k V U w hN hK (by simp; omega) (Lib.hid HPI)
theorem specAgree_any (n d p v u k : Int) (w : World) :
    Calls Try.prog 50 #[.agg (P2 n d), .agg (P4 p v u k)] w fun e w' => e = .returned (.tuple #[.bool (agreeB n d p v u k), .int .i64 (agreeC n d p v u k)]) ∧ Below w.heap.size w w' := by
  cases hx : isRatB n d
  · have HE := Lib.hid (show agreeB n d p v u k = false ∧ agreeC n d p v u k = 1 by simp [agreeB, agreeC, hx])
    go_enter Try.func50, Try.ntmps50
    go_wp2_with (first | (go_at_call 104; refine (specIsRational_any _ _ _).mono ?_; rintro e wn ⟨rfl, hb⟩; (first | have K := k2_first hb | have K := k2_next K hb); obtain ⟨c0, c1⟩ := lies_pair K.2.1; obtain ⟨d0, d1, d2, d3⟩ := lies_four K.2.2))
    go_ret2
    exact ⟨ret_bi HE.out.1.symm HE.out.2.symm, K.1⟩
  · cases hy : padB p v u k
    · have HE := Lib.hid (show agreeB n d p v u k = false ∧ agreeC n d p v u k = 1 by simp [agreeB, agreeC, hy])
      go_enter Try.func50, Try.ntmps50
      go_wp2_with (first | (go_at_call 104; refine (specIsRational_any _ _ _).mono ?_; rintro e wn ⟨rfl, hb⟩; (first | have K := k2_first hb | have K := k2_next K hb); obtain ⟨c0, c1⟩ := lies_pair K.2.1; obtain ⟨d0, d1, d2, d3⟩ := lies_four K.2.2) | (go_at_call 83; refine (specIsPadic_any _ _ _ _ _).mono ?_; rintro e wn ⟨rfl, hb⟩; (first | have K := k2_first hb | have K := k2_next K hb); obtain ⟨c0, c1⟩ := lies_pair K.2.1; obtain ⟨d0, d1, d2, d3⟩ := lies_four K.2.2))
      go_ret2
      exact ⟨ret_bi HE.out.1.symm HE.out.2.symm, K.1⟩
    · have HC := Lib.hid (show agreeC n d p v u k = 0 by simp [agreeC, hx, hy])
      have HX := Lib.hid hx
      have HY := Lib.hid hy
      go_enter Try.func50, Try.ntmps50
      go_wp2_with (first | (go_at_call 104; refine (specIsRational_any _ _ _).mono ?_; rintro e wn ⟨rfl, hb⟩; (first | have K := k2_first hb | have K := k2_next K hb); obtain ⟨c0, c1⟩ := lies_pair K.2.1; obtain ⟨d0, d1, d2, d3⟩ := lies_four K.2.2) | (go_at_call 83; refine (specIsPadic_any _ _ _ _ _).mono ?_; rintro e wn ⟨rfl, hb⟩; (first | have K := k2_first hb | have K := k2_next K hb); obtain ⟨c0, c1⟩ := lies_pair K.2.1; obtain ⟨d0, d1, d2, d3⟩ := lies_four K.2.2) | (go_at_call 107; refine (l05Agree_any _ _ _ _ _ _ _ HX.out HY.out).mono ?_; rintro e wn ⟨rfl, hb⟩; (first | have K := k2_first hb | have K := k2_next K hb); obtain ⟨c0, c1⟩ := lies_pair K.2.1; obtain ⟨d0, d1, d2, d3⟩ := lies_four K.2.2))
      go_ret2
      exact ⟨ret_bi rfl HC.out.symm, K.1⟩
end Go.Proofs.Ytgckamlibbjgcaa
namespace Go.Proofs.Ytgckamlibbjgcaa
open Go.RowKit
set_option linter.unusedVariables false
set_option linter.unusedSimpArgs false
set_option maxRecDepth 20000
theorem bound_next {m b : Int} (h0 : 0 ≤ b) (h1 : 2 * (b * b) < m) (hm : m ≤ 1000000000) :
    b ≤ 22360 ∧ b < m ∧ 0 ≤ 2 * (b + 1) * (b + 1) ∧ 2 * (b + 1) * (b + 1) ≤ 2000000000 ∧ 2 * (b + 1) * (b + 1) = 2 * ((b + 1) * (b + 1)) := by
  have h2 := sq_ge h0
  have h3 : b ≤ 22360 := by
    refine Classical.byContradiction fun hc => ?_
    have : 22361 * 22361 ≤ b * b := Int.mul_le_mul (by omega) (by omega) (by omega) (by omega)
    omega
  have h4 : (b + 1) * (b + 1) ≤ 22361 * 22361 := Int.mul_le_mul (by omega) (by omega) (by omega) (by omega)
  have h5 : 0 ≤ (b + 1) * (b + 1) := Int.mul_nonneg (by omega) (by omega)
  have e : 2 * (b + 1) * (b + 1) = 2 * ((b + 1) * (b + 1)) := Int.mul_assoc _ _ _
  exact ⟨h3, by omega, by omega, by omega, e⟩
set_option maxHeartbeats 400000 in
theorem implBound_any (m : Int) (w : World) (h1 : 1 ≤ m) (h2 : m ≤ 1000000000) :
    Calls Try.prog 130 #[.int .i64 m] w fun e w' => e = .returned (.int .i64 (bndB m)) ∧ w = w' := by
  go_enter Try.func130, Try.ntmps130
  go_wp2
  go_loop [3, 4] (fun s t => ∃ b : Int, s = .int .i64 b ∧ t = .int .i64 (b + 1) ∧ 0 ≤ b ∧ 2 * (b * b) < m) (fun s _ => (m - intOf s).toNat)
  case atStart => exact ⟨0, rfl, rfl, by omega, by omega⟩
  case round =>
    obtain ⟨b, rfl, rfl, b0, b1⟩ := hrel
    obtain ⟨c1, c2, c3, c4, e⟩ := bound_next b0 b1 h2
    have HE := Lib.hid e
    clear e
    by_cases hlt : 2 * (b + 1) * (b + 1) < m
    · have hn : 2 * ((b + 1) * (b + 1)) < m := by rw [← HE.out]; exact hlt
      have HN := Lib.hid hn
      clear hn
      go_wp2
      exact ⟨⟨b + 1, rfl, rfl, by omega, HN.out⟩, by simp only [intOf]; omega⟩
    · have HB := Lib.hid (bnd_unique (bnd_is h1) ⟨b0, b1, by rw [← HE.out]; omega⟩)
      go_wp2
      go_ret
      exact ⟨ret_int HB.out.symm, rfl⟩
theorem specBound_any (m : Int) (w : World) (h1 : 1 ≤ m) (h2 : m ≤ 1000000000) :
    Calls Try.prog 101 #[.int .i64 m] w fun e w' => e = .returned (.int .i64 (bndB m)) ∧ w = w' := by
  go_enter Try.func101, Try.ntmps101
  go_wp2
  go_loop [3] (fun s => ∃ b : Int, s = .int .i64 b ∧ 0 ≤ b ∧ 2 * (b * b) < m) (fun s => (m - intOf s).toNat)
  case atStart => exact ⟨0, rfl, by omega, by omega⟩
  case round =>
    obtain ⟨b, rfl, b0, b1⟩ := hrel
    obtain ⟨c1, c2, c3, c4, e⟩ := bound_next b0 b1 h2
    have HE := Lib.hid e
    clear e
    by_cases hlt : 2 * (b + 1) * (b + 1) < m
    · have hn : 2 * ((b + 1) * (b + 1)) < m := by rw [← HE.out]; exact hlt
      have HN := Lib.hid hn
      clear hn
      go_wp2
      exact ⟨⟨b + 1, rfl, by omega, HN.out⟩, by simp only [intOf]; omega⟩
    · have HB := Lib.hid (bnd_unique (bnd_is h1) ⟨b0, b1, by rw [← HE.out]; omega⟩)
      go_wp2
      go_ret
      exact ⟨ret_int HB.out.symm, rfl⟩
/-- multiplied by a power, as long as it is a value -/
theorem multiplied_any (n p c : Int) (w : World) (hp : 2 ≤ p) (hq : p ≤ 97) (h0 : valueB n = true) (c0 : -1000 ≤ c) (c1 : c ≤ 1000) :
    Calls Try.prog 133 #[.int .i64 n, .int .i64 p, .int .i64 c] w fun e w' => e = .returned (.int .i64 (mF c.toNat n p)) ∧ w = w' := by
  have H0 := Lib.hid h0
  have b0 := valueB_bd h0
  obtain ⟨b1, b2⟩ := b0
  clear h0
  go_enter Try.func133, Try.ntmps133
  go_wp2
  go_loop [0, 7] (fun s t => ∃ (x : Int) (i : Nat), s = .int .i64 x ∧ t = .int .i64 i ∧ -97000000000000 ≤ x ∧ x ≤ 97000000000000 ∧ i ≤ 1000 ∧ (i : Int) ≤ max c 0 ∧ mF (c - i).toNat x p = mF c.toNat n p) (fun _ t => 1000 - (intOf t).toNat)
  case atStart => exact ⟨n, 0, rfl, rfl, by omega, by omega, by omega, by omega, by simp⟩
  case round =>
    obtain ⟨x, i, rfl, rfl, x0, x1, i0, i1, hm⟩ := hrel
    by_cases hlt : (i : Int) < c
    · cases hv : valueB x
      · have HM := Lib.hid (show x = mF c.toNat n p by rw [← hm, mF_no hv])
        clear hm
        go_wp2_with (go_at_call 127; refine (isValue_any _ _).mono ?_; rintro e w' ⟨rfl, rfl⟩)
        go_ret
        exact ⟨ret_int HM.out, rfl⟩
      · have HM := Lib.hid (show mF (c - (i + 1 : Nat)).toNat (x * p) p = mF c.toNat n p by
          rw [← hm, show (c - (i : Int)).toNat = (c - ((i + 1 : Nat) : Int)).toNat + 1 by omega, mF_step hv])
        obtain ⟨y0, y1⟩ := val97 hp hq hv
        clear hm
        go_wp2_with (go_at_call 127; refine (isValue_any _ _).mono ?_; rintro e w' ⟨rfl, rfl⟩)
        exact ⟨⟨_, i + 1, rfl, by go_num, y0, y1, by omega, by omega, HM.out⟩, by simp only [intOf]; omega⟩
    · have HM := Lib.hid (show x = mF c.toNat n p by rw [← hm, show (c - (i : Int)).toNat = 0 by omega]; rfl)
      clear hm
      go_wp2_with fail
      go_ret
      exact ⟨ret_int HM.out, rfl⟩
/-- what the search answers: the fraction that fits, or that there is none -/
def SPost (m u : Int) (w : World) (e : Ending) (w' : World) : Prop :=
  ∃ (a b : Int) (x : Bool), e = .returned (.tuple #[.agg (P2 a b), .bool x]) ∧ x = fitO m u ∧ Below w.heap.size w w' ∧ (fitO m u = true → a = fitN m u ∧ b = fitD m u)
theorem search_q {l r : Int} (h0 : 0 ≤ r) (h1 : 1 ≤ r) (h2 : r < l) : 0 ≤ l / r ∧ 0 ≤ l / r * r ∧ l / r * r ≤ l ∧ l / r ≤ l ∧ l - l / r * r < r := by
  have e := Int.mul_ediv_add_emod l r
  have m0 := Int.emod_nonneg l (show r ≠ 0 by omega)
  have m1 := Int.emod_lt_of_pos l (show 0 < r by omega)
  have q0 : 0 ≤ l / r := Int.ediv_nonneg (by omega) h0
  have q1 : l / r ≤ l := Int.ediv_le_self _ (by omega)
  have q2 := Int.mul_nonneg q0 h0
  rw [Int.mul_comm] at e
  omega
set_option maxHeartbeats 1000000 in
theorem search_any (u m : Int) (b0 b1 : Nat) (w : World) (hm1 : 2 ≤ m) (hm2 : m ≤ 1000000000) (hu0 : 0 ≤ u) (hu1 : u < m) (hc0 : w.cell? ⟨b0, 0, none⟩ = some (.int .i64 m)) (hc1 : w.cell? ⟨b1, 0, none⟩ = some (.int .i64 (bndB m)))
    (hb0 : b0 < w.heap.size) (hb1 : b1 < w.heap.size) :
    Calls Try.prog 131 #[.int .i64 u, .pointer (some ⟨b0, 0, none⟩), .pointer (some ⟨b1, 0, none⟩)] w (SPost m u w) := by
  have hB := bnd_is (m := m) (by omega)
  obtain ⟨B2, B3, B4⟩ := bnd_le hB hm2
  have B0 := hB.1
  have hbm : bndB m < m := by have := sq_ge B0; have := hB.2.1; omega
  have HS := Lib.hid (ei_start (m := m) (u := u) (B := bndB m) hu0 hu1 hbm)
  have HN : Hid (∀ l lf r f, EI m u (bndB m) l lf r f → r ≤ bndB m → (decide (-bndB m ≤ f) && (decide (f ≤ bndB m) && decide ((Int.gcd r f : Int) = 1))) = fitO m u ∧ (fitO m u = true → rlN r f = fitN m u ∧ rlD r f = fitD m u)) := Lib.hid fun l lf r f h hr => search_end hm1 h hr
  clear hB B3 B4
  generalize bndB m = B at *
  go_enter Try.func131, Try.ntmps131
  go_wp2
  have K := k1_new w (P2 0 0) 49
  have x0 : (w.alloc (.cells (P2 0 0) 49)).cell? ⟨b0, 0, none⟩ = some (.int .i64 m) := by rw [(below_a1 w _).cell (p := ⟨b0, 0, none⟩) hb0]; exact hc0
  have x1 : (w.alloc (.cells (P2 0 0) 49)).cell? ⟨b1, 0, none⟩ = some (.int .i64 B) := by rw [(below_a1 w _).cell (p := ⟨b1, 0, none⟩) hb1]; exact hc1
  clear hc0 hc1 hb0 hb1
  generalize w.alloc (.cells (P2 0 0) 49) = W1 at K x0 x1 ⊢
  go_loop [6, 7, 8, 9] (fun s6 s7 s8 s9 => ∃ l lf r f : Int, s6 = .int .i64 l ∧ s7 = .int .i64 lf ∧ s8 = .int .i64 r ∧ s9 = .int .i64 f ∧ EI m u B l lf r f) (fun _ _ s8 _ => (intOf s8).toNat)
  case atStart => exact ⟨m, 0, u, 1, rfl, rfl, rfl, rfl, HS.out⟩
  case round =>
    obtain ⟨l, lf, r, f, rfl, rfl, rfl, rfl, hr⟩ := hrel
    have HR := Lib.hid hr
    obtain ⟨r0, r1, r2, f0, f1, fz, hq⟩ := ei_bd B0 hr
    clear hr x0
    by_cases hlt : B < r
    · obtain ⟨y0, y1, y2, y3⟩ := hq (by omega)
      obtain ⟨q0, q1, q2, q3, q4⟩ := search_q r0 (by omega) r1
      have HE := Lib.hid (ei_step B0 HR.out hlt)
      clear hq HS fz
      go_wp2
      exact ⟨⟨_, _, _, _, rfl, rfl, rfl, rfl, HE.out⟩, by simp only [intOf]; omega⟩
    · obtain ⟨hf, hv⟩ := HN.out l lf r f HR.out (by omega)
      have HF := Lib.hid hv
      have H0 := Lib.hid fz
      clear hq fz hv HS HR
      by_cases g0 : -B ≤ f
      · by_cases g1 : f ≤ B
        · have HO := Lib.hid (show ((Int.gcd r f : Int) == 1) = fitO m u by
            rw [← hf, decide_eq_true g0, decide_eq_true g1]
            cases hg : ((Int.gcd r f : Int) == 1)
            · rw [decide_eq_false (by simp at hg; omega)]; rfl
            · rw [decide_eq_true (by simp at hg; omega)]; rfl)
          clear hf
          go_wp2_with (first | (go_at_call 128; refine (gdW_any _ _ _ (by omega) (by omega) (by omega) (by omega)).mono ?_; rintro e w' ⟨rfl, nd, rfl⟩; replace K : K1 w (P2 0 0) _ := ⟨below_drewN K.1 nd, lies_drewN K.2 nd⟩) | (go_at_call 132; refine (lowest_any _ _ _ H0.out (by omega) (by omega) (by omega) (by omega)).mono ?_; rintro e wn ⟨rfl, hb⟩; replace K := k1_next K hb; obtain ⟨c0, c1⟩ := lies_pair K.2; have cf0 := lies_frozen K.2 0; have cf1 := lies_frozen K.2 1))
          refine bodyPost_ret (v := .tuple #[.agg (P2 (rlN r f) (rlD r f)), .bool (((Int.gcd r f : Int) == 1))]) (by simp [results, Try.results131, go_sem, c0, c1]) rfl ?_
          exact ⟨_, _, _, rfl, by rw [HO.out], below_set2 K.1 (by omega), HF.out⟩
        · have HO := Lib.hid (show false = fitO m u by rw [← hf, decide_eq_true g0, decide_eq_false g1]; rfl)
          clear hf
          go_wp2_with (first | (go_at_call 132; refine (lowest_any _ _ _ H0.out (by omega) (by omega) (by omega) (by omega)).mono ?_; rintro e wn ⟨rfl, hb⟩; replace K := k1_next K hb; obtain ⟨c0, c1⟩ := lies_pair K.2; have cf0 := lies_frozen K.2 0; have cf1 := lies_frozen K.2 1))
          refine bodyPost_ret (v := .tuple #[.agg (P2 (rlN r f) (rlD r f)), .bool false]) (by simp [results, Try.results131, go_sem, c0, c1]) rfl ?_
          exact ⟨_, _, _, rfl, by rw [HO.out], below_set2 K.1 (by omega), HF.out⟩
      · have HO := Lib.hid (show false = fitO m u by rw [← hf, decide_eq_false g0]; rfl)
        clear hf
        go_wp2_with (first | (go_at_call 132; refine (lowest_any _ _ _ H0.out (by omega) (by omega) (by omega) (by omega)).mono ?_; rintro e wn ⟨rfl, hb⟩; replace K := k1_next K hb; obtain ⟨c0, c1⟩ := lies_pair K.2; have cf0 := lies_frozen K.2 0; have cf1 := lies_frozen K.2 1))
        refine bodyPost_ret (v := .tuple #[.agg (P2 (rlN r f) (rlD r f)), .bool false]) (by simp [results, Try.results131, go_sem, c0, c1]) rfl ?_
        exact ⟨_, _, _, rfl, by rw [HO.out], below_set2 K.1 (by omega), HF.out⟩
theorem fractionSearch_any (m : Int) (w : World) (h1 : 1 ≤ m) (h2 : m ≤ 1000000000) :
    Calls Try.prog 98 #[.int .i64 m] w fun e w' => e = .returned (.func (.func 131) #[] #[.pointer (some ⟨w.heap.size, 0, none⟩), .pointer (some ⟨w.heap.size + 1, 0, none⟩)]) ∧ w' = (w.alloc (.cells #[.int .i64 m] 2)).alloc (.cells #[.int .i64 (bndB m)] 2) := by
  have hmf : ∀ (fn : Fn) (first cap : Array Value) (w : World), (Instr.makeFunc fn first cap).run Try.prog w = .ok (.func fn first cap) w := fun _ _ _ _ => rfl
  go_enter Try.func98, Try.ntmps98
  go_wp2_with (go_at_call 130; refine (implBound_any _ _ h1 h2).mono ?_; rintro e w' ⟨rfl, rfl⟩)
  go_ret
  exact ⟨rfl, rfl⟩
theorem timesPower_any (n d p v : Int) (w : World) (hp : 2 ≤ p) (hq : p ≤ 97) (hn : valueB n = true) (hd : valueB d = true) (v0 : -60 ≤ v) (v1 : v ≤ 60) :
    Calls Try.prog 99 #[.agg (P2 n d), .int .i64 p, .int .i64 v] w fun e w' => e = .returned (.agg (P2 (mF v.toNat n p) (mF (-v).toNat d p))) ∧ Below w.heap.size w w' := by
  have HA := Lib.hid fun w => multiplied_any n p v w hp hq hn (by omega) (by omega)
  have HB := Lib.hid fun w => multiplied_any d p (-v) w hp hq hd (by omega) (by omega)
  have hw : IntKind.i64.wrap (-v) = -v := IntWalk.i64_in _ (by omega)
  clear hn hd
  go_enter Try.func99, Try.ntmps99
  go_wp2
  have K := k2_new w (P2 n d) (P2 0 0) 49 49
  generalize (w.alloc (.cells (P2 n d) 49)).alloc (.cells (P2 0 0) 49) = W1 at K ⊢
  obtain ⟨c0, c1⟩ := lies_pair K.2.1
  refine wp_region_still_tail 12 (by kernel_rfl) (by kernel_rfl) ?_
  simp only [List.take_succ_cons, List.take_zero, List.drop_succ_cons, List.drop_zero]
  repeat still_step
  still_call ((HA.out _).mono fun e w' h => ⟨h.1, h.2.symm⟩)
  repeat still_step
  still_call ((HB.out _).mono fun e w' h => ⟨h.1, h.2.symm⟩)
  repeat still_step
  refine wpStill_nil ?_
  have KW := k2_drew K
  change wpList _ _ _ _ _ W1.drew
  clear c0 c1 K hw
  generalize W1.drew = W2 at KW ⊢
  obtain ⟨d0, d1⟩ := lies_pair KW.2.2
  have df0 := lies_frozen KW.2.2 0
  have df1 := lies_frozen KW.2.2 1
  go_wp2
  refine bodyPost_ret (v := .agg (P2 (mF v.toNat n p) (mF (-v).toNat d p))) (by simp [results, Try.results99, go_sem, d0, d1]) rfl ?_
  exact ⟨rfl, below_set2 KW.1 (by omega)⟩
/-- what the tail of FindRational does -/
theorem findTail {p v u k : Int} (hb : padB p v u k = true) (hk : k ≠ 0) (ho : fitO (ringM p k) u = true) :
    findQ p v u k = rresQ (mF v.toNat (fitN (ringM p k) u) p) (mF (-v).toNat (fitD (ringM p k) u) p) ∧ findC p v u k = rlimC (mF v.toNat (fitN (ringM p k) u) p) (mF (-v).toNat (fitD (ringM p k) u) p) := by
  simp [findQ, findC, hb, hk, ho]
set_option maxHeartbeats 1000000 in
theorem implFind_any (p v u k : Int) (w : World) :
    Calls Try.prog 44 #[.agg (P4 p v u k)] w fun e w' => e = .returned (.tuple #[.agg (A2 (findQ p v u k)), .int .i64 (findC p v u k)]) ∧ Below w.heap.size w w' := by
  cases hx : padB p v u k
  · rw [show findQ p v u k = (0, 0) by simp [findQ, hx], show findC p v u k = 1 by simp [findC, hx]]
    go_enter Try.func44, Try.ntmps44
    go_wp2_with (first | (go_at_call 80; refine (isValid_any _ _ _ _ _).mono ?_; rintro e wn ⟨rfl, hb⟩; (first | have K := k2_first hb | have K := k2_next K hb); obtain ⟨c0, c1, c2, c3⟩ := lies_four K.2.1; obtain ⟨d0, d1⟩ := lies_pair K.2.2; have df0 := lies_frozen K.2.2 0; have df1 := lies_frozen K.2.2 1))
    refine bodyPost_ret (v := .tuple #[.agg (P2 0 0), .int .i64 1]) (by simp [results, Try.results44, go_sem, d0, d1]) rfl ?_
    exact ⟨rfl, below_set2 K.1 (by omega)⟩
  · have ok := padB_ok hx
    by_cases hk : k = 0
    · have HZ := Lib.hid (show (u == 0 && k == 0) = true by simp [hk, pok_zero ok hk])
      rw [show findQ p v u k = (0, 0) by simp [findQ, hk], show findC p v u k = 4 by unfold findC; rw [if_pos hx, if_pos hk]]
      clear hk ok
      go_enter Try.func44, Try.ntmps44
      go_wp2_with (first | (go_at_call 80; refine (isValid_any _ _ _ _ _).mono ?_; rintro e wn ⟨rfl, hb⟩; (first | have K := k2_first hb | have K := k2_next K hb); obtain ⟨c0, c1, c2, c3⟩ := lies_four K.2.1; obtain ⟨d0, d1⟩ := lies_pair K.2.2; have df0 := lies_frozen K.2.2 0; have df1 := lies_frozen K.2.2 1) | (go_at_call 81; refine (isZero_any _ _ _ _ _).mono ?_; rw [HZ.out]; rintro e wn ⟨rfl, hb⟩; (first | have K := k2_first hb | have K := k2_next K hb); obtain ⟨c0, c1, c2, c3⟩ := lies_four K.2.1; obtain ⟨d0, d1⟩ := lies_pair K.2.2; have df0 := lies_frozen K.2.2 0; have df1 := lies_frozen K.2.2 1))
      refine bodyPost_ret (v := .tuple #[.agg (P2 0 0), .int .i64 4]) (by simp [results, Try.results44, go_sem, d0, d1]) rfl ?_
      exact ⟨rfl, below_set2 K.1 (by omega)⟩
    · have HZ := Lib.hid (show (u == 0 && k == 0) = false by simp [hk])
      obtain ⟨_, hm, _, u1, u2, hu⟩ := pok_ring ok hk
      obtain ⟨hp2, hp97, _, _, m1, m2, _⟩ := ringM_bd hm
      have hv0 := ok.2.1
      have hv1 := ok.2.2.1
      have hs := ok.1
      have hdv := dvd_ringM hm
      obtain ⟨M, hM⟩ : ∃ M, ringM p k = M := ⟨_, rfl⟩
      have HM := Lib.hid hM
      rw [hM] at m1 m2 u2
      have hfo := fitO_iff (m := M) (u := u) (by omega)
      cases ho : fitO M u
      · have hq : findQ p v u k = (0, 0) := by simp [findQ, hx, hk, hM, ho]
        have hc : findC p v u k = 4 := by simp [findC, hx, hk, hM, ho]
        rw [hq, hc]
        have HO := Lib.hid ho
        clear hq hc hm hM hk hu hfo ok ho hdv hs
        go_enter Try.func44, Try.ntmps44
        go_upto_region 6 with (first | (go_at_call 80; refine (isValid_any _ _ _ _ _).mono ?_; rintro e wn ⟨rfl, hb⟩; (first | have K := k2_first hb | have K := k2_next K hb); obtain ⟨c0, c1, c2, c3⟩ := lies_four K.2.1; obtain ⟨d0, d1⟩ := lies_pair K.2.2; have df0 := lies_frozen K.2.2 0; have df1 := lies_frozen K.2.2 1) | (go_at_call 81; refine (isZero_any _ _ _ _ _).mono ?_; rw [HZ.out]; rintro e wn ⟨rfl, hb⟩; (first | have K := k2_first hb | have K := k2_next K hb); obtain ⟨c0, c1, c2, c3⟩ := lies_four K.2.1; obtain ⟨d0, d1⟩ := lies_pair K.2.2; have df0 := lies_frozen K.2.2 0; have df1 := lies_frozen K.2.2 1) | (go_at_call 82; refine (pring_any _ _ _ _ _).mono ?_; rintro e wn ⟨rfl, hb⟩; (first | have K := k2_first hb | have K := k2_next K hb); obtain ⟨c0, c1, c2, c3⟩ := lies_four K.2.1; obtain ⟨d0, d1⟩ := lies_pair K.2.2; have df0 := lies_frozen K.2.2 0; have df1 := lies_frozen K.2.2 1) | (go_at_call 61; refine (implModulus_any _ _ _).mono ?_; rw [HM.out]; rintro e wn ⟨rfl, hb⟩; (first | have K := k2_first hb | have K := k2_next K hb); obtain ⟨c0, c1, c2, c3⟩ := lies_four K.2.1; obtain ⟨d0, d1⟩ := lies_pair K.2.2; have df0 := lies_frozen K.2.2 0; have df1 := lies_frozen K.2.2 1) | (go_at_call 98; refine (fractionSearch_any _ _ (by omega) m2).mono ?_; rintro e wS ⟨rfl, hS⟩))
        have KS := k2_next K (below_a2 wn (.cells #[.int .i64 M] 2) (.cells #[.int .i64 (bndB M)] 2))
        have La := lies_alloc (lies_new wn #[.int .i64 M] 2) (.cells #[.int .i64 (bndB M)] 2)
        have Lb := lies_two (w := wn) (o := .cells #[.int .i64 M] 2) (vs := #[.int .i64 (bndB M)]) (T := 2)
        subst hS
        generalize (wn.alloc (.cells #[.int .i64 M] 2)).alloc (.cells #[.int .i64 (bndB M)] 2) = wS at KS La Lb ⊢
        clear c0 c1 c2 c3 d0 d1 df0 df1 K hb
        obtain ⟨q, hq⟩ : ∃ q, wn.heap.size = q := ⟨_, rfl⟩
        rw [hq] at La Lb ⊢
        clear hq
        obtain ⟨c0, c1, c2, c3⟩ := lies_four KS.2.1
        go_upto_region 7 with (go_at_call 131; refine (search_any u M q (q + 1) _ m1 m2 (by omega) u2 (lies_cell La 0) (lies_cell Lb 0) (lies_lt La) (lies_lt Lb)).mono ?_; rintro e wF ⟨a, b, x, rfl, hx, hb, hF⟩; rw [HO.out] at hx hF; subst hx)
        have K := k2_next (k2_next KS hb) (below_a1 wF (.cells (P2 a b) 49))
        clear c0 c1 c2 c3 KS La Lb hb
        clear hF
        generalize wF.alloc (.cells (P2 a b) 49) = V at K ⊢
        obtain ⟨d0, d1⟩ := lies_pair K.2.2
        have df0 := lies_frozen K.2.2 0
        have df1 := lies_frozen K.2.2 1
        go_wp2_with fail
        refine bodyPost_ret (v := .tuple #[.agg (P2 0 0), .int .i64 4]) (by simp [results, Try.results44, go_sem, d0, d1]) rfl ?_
        exact ⟨rfl, below_set2 K.1 (by omega)⟩
      · obtain ⟨hq, hc⟩ := findTail hx hk (hM ▸ ho)
        rw [hM] at hq hc
        rw [hq, hc]
        have hf := hfo.1 ho
        obtain ⟨fu1, fu2, fu3⟩ := fit_unit hs (hM ▸ hdv) hu hf
        have hbd := bnd_le (bnd_is (m := M) (by omega)) (by omega)
        have vn : valueB (fitN M u) = true := valueB_t (by have := hf.1; omega) (by have := hf.2.1; omega)
        have vd : valueB (fitD M u) = true := valueB_t (by have := hf.2.2.1; omega) (by have := hf.2.2.2.1; omega)
        have HO := Lib.hid ho
        have HVN := Lib.hid vn
        have HVD := Lib.hid vd
        clear hq hc hm hM hk hu hfo ok ho hdv hs hf fu1 fu2 fu3 hbd vn vd
        go_enter Try.func44, Try.ntmps44
        go_upto_region 6 with (first | (go_at_call 80; refine (isValid_any _ _ _ _ _).mono ?_; rintro e wn ⟨rfl, hb⟩; (first | have K := k2_first hb | have K := k2_next K hb); obtain ⟨c0, c1, c2, c3⟩ := lies_four K.2.1; obtain ⟨d0, d1⟩ := lies_pair K.2.2; have df0 := lies_frozen K.2.2 0; have df1 := lies_frozen K.2.2 1) | (go_at_call 81; refine (isZero_any _ _ _ _ _).mono ?_; rw [HZ.out]; rintro e wn ⟨rfl, hb⟩; (first | have K := k2_first hb | have K := k2_next K hb); obtain ⟨c0, c1, c2, c3⟩ := lies_four K.2.1; obtain ⟨d0, d1⟩ := lies_pair K.2.2; have df0 := lies_frozen K.2.2 0; have df1 := lies_frozen K.2.2 1) | (go_at_call 82; refine (pring_any _ _ _ _ _).mono ?_; rintro e wn ⟨rfl, hb⟩; (first | have K := k2_first hb | have K := k2_next K hb); obtain ⟨c0, c1, c2, c3⟩ := lies_four K.2.1; obtain ⟨d0, d1⟩ := lies_pair K.2.2; have df0 := lies_frozen K.2.2 0; have df1 := lies_frozen K.2.2 1) | (go_at_call 61; refine (implModulus_any _ _ _).mono ?_; rw [HM.out]; rintro e wn ⟨rfl, hb⟩; (first | have K := k2_first hb | have K := k2_next K hb); obtain ⟨c0, c1, c2, c3⟩ := lies_four K.2.1; obtain ⟨d0, d1⟩ := lies_pair K.2.2; have df0 := lies_frozen K.2.2 0; have df1 := lies_frozen K.2.2 1) | (go_at_call 98; refine (fractionSearch_any _ _ (by omega) m2).mono ?_; rintro e wS ⟨rfl, hS⟩))
        have KS := k2_next K (below_a2 wn (.cells #[.int .i64 M] 2) (.cells #[.int .i64 (bndB M)] 2))
        have La := lies_alloc (lies_new wn #[.int .i64 M] 2) (.cells #[.int .i64 (bndB M)] 2)
        have Lb := lies_two (w := wn) (o := .cells #[.int .i64 M] 2) (vs := #[.int .i64 (bndB M)]) (T := 2)
        subst hS
        generalize (wn.alloc (.cells #[.int .i64 M] 2)).alloc (.cells #[.int .i64 (bndB M)] 2) = wS at KS La Lb ⊢
        clear c0 c1 c2 c3 d0 d1 df0 df1 K hb
        obtain ⟨q, hq⟩ : ∃ q, wn.heap.size = q := ⟨_, rfl⟩
        rw [hq] at La Lb ⊢
        clear hq
        obtain ⟨c0, c1, c2, c3⟩ := lies_four KS.2.1
        go_upto_region 7 with (go_at_call 131; refine (search_any u M q (q + 1) _ m1 m2 (by omega) u2 (lies_cell La 0) (lies_cell Lb 0) (lies_lt La) (lies_lt Lb)).mono ?_; rintro e wF ⟨a, b, x, rfl, hx, hb, hF⟩; rw [HO.out] at hx hF; subst hx)
        have K := k2_next (k2_next KS hb) (below_a1 wF (.cells (P2 a b) 49))
        clear c0 c1 c2 c3 KS La Lb hb
        obtain ⟨rfl, rfl⟩ := hF (by simp)
        have L := lies_new wF (P2 (fitN M u) (fitD M u)) 49
        generalize wF.alloc (.cells (P2 (fitN M u) (fitD M u)) 49) = V at K L ⊢
        obtain ⟨q5, hq⟩ : ∃ q, wF.heap.size = q := ⟨_, rfl⟩
        rw [hq] at L ⊢
        clear hq
        obtain ⟨c0, c1, c2, c3⟩ := lies_four K.2.1
        obtain ⟨g0, g1⟩ := lies_pair L
        go_wp2_with (first | (go_at_call 99; refine (timesPower_any _ _ _ _ _ hp2 hp97 HVN.out HVD.out hv0 hv1).mono ?_; rintro e wn ⟨rfl, hb⟩; (first | have K := k2_first hb | have K := k2_next K hb); obtain ⟨d0, d1⟩ := lies_pair K.2.2; have df0 := lies_frozen K.2.2 0; have df1 := lies_frozen K.2.2 1) | (go_at_call 100; refine (ratResult_any _ _ _).mono ?_; rintro e wn ⟨rfl, hb⟩; (first | have K := k2_first hb | have K := k2_next K hb); obtain ⟨d0, d1⟩ := lies_pair K.2.2; have df0 := lies_frozen K.2.2 0; have df1 := lies_frozen K.2.2 1))
        refine bodyPost_ret (v := .tuple #[.agg (A2 (rresQ (mF v.toNat (fitN M u) p) (mF (-v).toNat (fitD M u) p))), .int .i64 (rlimC (mF v.toNat (fitN M u) p) (mF (-v).toNat (fitD M u) p))]) (by simp [results, Try.results44, go_sem, d0, d1]) rfl ?_
        exact ⟨rfl, below_set2 K.1 (by omega)⟩
end Go.Proofs.Ytgckamlibbjgcaa
namespace Go.Proofs.Ytgckamlibbjgcaa
open Go.RowKit
set_option linter.unusedVariables false
set_option linter.unusedSimpArgs false
set_option maxRecDepth 20000
def NoFit (M u d : Int) : Prop := ∀ j, 1 ≤ j → j < d → fitB M u (bndB M) j = false
theorem noFit_next {M u d : Int} (h : NoFit M u d) (hd : fitB M u (bndB M) d = false) : NoFit M u (d + 1) := by
  intro j h1 h2
  rcases (show j < d ∨ j = d by omega) with h3 | rfl
  · exact h j h1 h3
  · exact hd
/-- what FindRational answers, for a number other than a zero -/
theorem find_none {p v u k M : Int} (hx : padB p v u k = true) (hk : k ≠ 0) (hM : ringM p k = M) (hm : 1 ≤ M) (h : NoFit M u (bndB M + 1)) : findQ p v u k = (0, 0) ∧ findC p v u k = 4 := by
  have hf := fit_none (u := u) hm fun d h1 h2 => h d h1 (by omega)
  have ho : fitO M u = false := by unfold fitO; rw [hf]; rfl
  constructor
  · simp [findQ, hx, hk, hM, ho]
  · simp [findC, hx, hk, hM, ho]
theorem find_at {p v u k M d : Int} (hx : padB p v u k = true) (hk : k ≠ 0) (hM : ringM p k = M) (hm : 1 ≤ M) (h0 : 1 ≤ d) (h1 : d ≤ bndB M) (hf : fitB M u (bndB M) d = true) :
    findQ p v u k = rresQ (mF v.toNat (symR u M d) p) (mF (-v).toNat d p) ∧ findC p v u k = rlimC (mF v.toNat (symR u M d) p) (mF (-v).toNat d p) ∧
    (d % p == 0) = false ∧ ((Int.gcd (symR u M d) d : Int) != 1) = false ∧ inB (symR u M d) (-bndB M) (bndB M) = true ∧
    (valueB (mF v.toNat (symR u M d) p) = true → valueB (mF (-v).toNat d p) = true → isRatB (mF v.toNat (symR u M d) p) (mF (-v).toNat d p) = true) := by
  obtain ⟨e1, e2, e3⟩ := fit_at hm h0 h1 hf
  have ok := padB_ok hx
  obtain ⟨_, hr, _, u1, u2, hu⟩ := pok_ring ok hk
  have ht := fit_iff h0 h1 hf
  obtain ⟨n1, n2, n3⟩ := fit_unit ok.1 (hM ▸ dvd_ringM hr) hu ht
  have hin : inB (symR u M d) (-bndB M) (bndB M) = true := by
    unfold fitB at hf; rw [Bool.and_eq_true] at hf; exact hf.1
  refine ⟨?_, ?_, by simpa using n2, ?_, hin, fun v1 v2 => mF_rat ok.1 ht.2.2.2.2.1 n1 n2 h0 v v1 v2⟩
  · simp [findQ, hx, hk, hM, e1, e2, e3]
  · simp [findC, hx, hk, hM, e1, e2, e3]
  · have hg := ht.2.2.2.2.1
    rw [hg]; rfl
/-- a state of the multiplying loops -/
def MR (p c n0 x i : Int) : Prop := -60 ≤ i ∧ i ≤ 60 ∧ valueB x = true ∧ mF i.toNat x p = mF c.toNat n0 p
theorem mF_up {x p : Int} {i c : Int} {n0 : Int} (hi : 0 < i) (h : mF i.toNat x p = mF c.toNat n0 p) (hv : valueB x = true) : mF (i - 1).toNat (x * p) p = mF c.toNat n0 p := by
  rw [← h, show i.toNat = (i - 1).toNat + 1 by omega, mF_step hv]
theorem mF_over {x p : Int} {i c : Int} {n0 : Int} (hi : 0 < i) (h : mF i.toNat x p = mF c.toNat n0 p) (hv : valueB x = true) (hy : valueB (x * p) = false) : valueB (mF c.toNat n0 p) = false := by
  rw [← mF_up hi h hv, mF_no hy]; exact hy
theorem rres_no {n d : Int} (h : valueB n = false ∨ valueB d = false) : rresQ n d = (0, 0) ∧ rlimC n d = 3 := by
  have hr : isRatB n d = false := by
    cases hb : isRatB n d
    · rfl
    · obtain ⟨h1, h2, h3, h4, _⟩ := isRat_of hb
      rcases h with h | h
      · rw [valueB_t h1 h2] at h; cases h
      · rw [valueB_t (by omega) h4] at h; cases h
  simp [rresQ, rlimC, hr]
set_option maxHeartbeats 2000000 in
theorem specFind_any (p v u k : Int) (w : World) :
    Calls Try.prog 45 #[.agg (P4 p v u k)] w fun e w' => e = .returned (.tuple #[.agg (A2 (findQ p v u k)), .int .i64 (findC p v u k)]) ∧ Below w.heap.size w w' := by
  cases hx : padB p v u k
  · rw [show findQ p v u k = (0, 0) by simp [findQ, hx], show findC p v u k = 1 by simp [findC, hx]]
    go_enter Try.func45, Try.ntmps45
    go_wp2_with (first | (go_at_call 83; refine (specIsPadic_any _ _ _ _ _).mono ?_; rintro e wn ⟨rfl, hb⟩; (first | have K := k2_first hb | have K := k2_next K hb); obtain ⟨c0, c1, c2, c3⟩ := lies_four K.2.1; obtain ⟨d0, d1⟩ := lies_pair K.2.2; have df0 := lies_frozen K.2.2 0; have df1 := lies_frozen K.2.2 1))
    refine bodyPost_ret (v := .tuple #[.agg (P2 0 0), .int .i64 1]) (by simp [results, Try.results45, go_sem, d0, d1]) rfl ?_
    exact ⟨rfl, below_set2 K.1 (by omega)⟩
  · have ok := padB_ok hx
    by_cases hk : k = 0
    · have hz : (k == 0) = true := by simp [hk]
      rw [show findQ p v u k = (0, 0) by simp [findQ, hk], show findC p v u k = 4 by unfold findC; rw [if_pos hx, if_pos hk]]
      clear hk ok
      go_enter Try.func45, Try.ntmps45
      go_wp2_with (first | (go_at_call 83; refine (specIsPadic_any _ _ _ _ _).mono ?_; rintro e wn ⟨rfl, hb⟩; (first | have K := k2_first hb | have K := k2_next K hb); obtain ⟨c0, c1, c2, c3⟩ := lies_four K.2.1; obtain ⟨d0, d1⟩ := lies_pair K.2.2; have df0 := lies_frozen K.2.2 0; have df1 := lies_frozen K.2.2 1))
      refine bodyPost_ret (v := .tuple #[.agg (P2 0 0), .int .i64 4]) (by simp [results, Try.results45, go_sem, d0, d1]) rfl ?_
      exact ⟨rfl, below_set2 K.1 (by omega)⟩
    · have hz : (k == 0) = false := by simp [hk]
      obtain ⟨_, hm, k1, u1, u2, hu⟩ := pok_ring ok hk
      obtain ⟨hp2, hp97, _, k2, m1, m2, _⟩ := ringM_bd hm
      have hv0 := ok.2.1
      have hv1 := ok.2.2.1
      have HS := Lib.hid (And.intro ok.1 (And.intro k1 (show k ≤ 1000 by omega)))
      obtain ⟨M, hM⟩ : ∃ M, ringM p k = M := ⟨_, rfl⟩
      have HM := Lib.hid hM
      rw [hM] at m1 m2 u2
      have HNO := Lib.hid fun h => find_none hx hk hM (by omega) (u := u) (v := v) h
      have HAT : Hid (∀ d, 1 ≤ d → d ≤ bndB M → fitB M u (bndB M) d = true → _) := Lib.hid fun d h0 h1 hf => find_at (v := v) hx hk hM (by omega) h0 h1 hf
      obtain ⟨B2, B3, B4⟩ := bnd_le (bnd_is (m := M) (by omega)) m2
      have B0 := (bnd_is (m := M) (by omega)).1
      clear hm hM hk hu ok B3 B4
      go_enter Try.func45, Try.ntmps45
      go_wp2_with (first | (go_at_call 83; refine (specIsPadic_any _ _ _ _ _).mono ?_; rintro e wn ⟨rfl, hb⟩; (first | have K := k2_first hb | have K := k2_next K hb); obtain ⟨c0, c1, c2, c3⟩ := lies_four K.2.1; obtain ⟨d0, d1⟩ := lies_pair K.2.2; have df0 := lies_frozen K.2.2 0; have df1 := lies_frozen K.2.2 1) | (go_at_call 64; refine (l02Modulus_any _ _ _ HS.out.1 HS.out.2.1 HS.out.2.2).mono ?_; rw [HM.out]; rintro e w' ⟨rfl, rfl⟩) | (go_at_call 101; refine (specBound_any _ _ (by omega) (by omega)).mono ?_; rintro e w' ⟨rfl, rfl⟩))
      clear hb c3 d0 d1 df0 df1 hz
      go_loopw [6] (fun s wr => ∃ d : Int, s = .int .i64 d ∧ 1 ≤ d ∧ d ≤ bndB M + 1 ∧ NoFit M u d ∧ K2 w (P4 p v u k) (P2 0 0) wr) (fun s _ => (100000 - intOf s).toNat)
      case atStart => exact ⟨1, rfl, by omega, by omega, fun j h1 h2 => by omega, K⟩
      case round =>
        obtain ⟨d, rfl, d0, d1, hno, K⟩ := hrel
        have HN := Lib.hid hno
        clear hno
        clear c0 c1 c2
        obtain ⟨c0, c1, c2, c3⟩ := lies_four K.2.1
        clear c3
        obtain ⟨e0, e1⟩ := lies_pair K.2.2
        have ef0 := lies_frozen K.2.2 0
        have ef1 := lies_frozen K.2.2 1
        by_cases hlt : d ≤ bndB M
        · have x0 : 0 ≤ u * d := Int.mul_nonneg (by omega) (by omega)
          have x1 : u * d ≤ 1000000000 * 22360 := Int.mul_le_mul (by omega) (by omega) (by omega) (by omega)
          have r0 := Int.emod_nonneg (u * d) (show M ≠ 0 by omega)
          have r1 := Int.emod_lt_of_pos (u * d) (show 0 < M by omega)
          have HSY := Lib.hid (show symR u M d = if M < 2 * (u * d % M) then u * d % M - M else u * d % M from rfl)
          have vd : valueB d = true := valueB_t (by omega) (by omega)
          go_upto_region 11 with fail
          clear x0 x1
          generalize u * d % M = r at r0 r1 HSY ⊢
          generalize u * d = ud at ⊢
          by_cases hs : M < 2 * r
          · have HY := Lib.hid (show symR u M d = r - M by rw [HSY.out, if_pos hs])
            clear HSY
            cases hin : inB (r - M) (-bndB M) (bndB M)
            · have HF := Lib.hid (noFit_next HN.out (show fitB M u (bndB M) d = false by unfold fitB; rw [HY.out, hin]; rfl))
              go_wp2_with (go_at_call 70; refine (in_any _ _ _ _).mono ?_; rintro e w' ⟨rfl, rfl⟩)
              exact ⟨⟨d + 1, rfl, by omega, by omega, HF.out, K⟩, by simp only [intOf]; omega⟩
            · have hin2 : -bndB M ≤ (r - M) ∧ (r - M) ≤ bndB M := by simpa [inB] using hin
              by_cases hg : Int.gcd (r - M) d = 1
              · obtain ⟨q1, q2, q3, q4, q5, q6⟩ := HAT.out d d0 hlt (show fitB M u (bndB M) d = true by unfold fitB; rw [HY.out, hin, hg]; rfl)
                rw [HY.out] at q1 q2 q4 q5 q6
                have HQ := Lib.hid (And.intro q1 (And.intro q2 q6))
                have vy : valueB (r - M) = true := valueB_t (by omega) (by omega)
                have HV := Lib.hid (And.intro vy vd)
                clear q1 q2 q5 q6 hg vy vd
                go_wp2_with (first | (go_at_call 70; refine (in_any _ _ _ _).mono ?_; rintro e w' ⟨rfl, rfl⟩) | (go_at_call 94; refine (l01GcdW_any _ _ _ (by omega) (by omega) (by omega) (by omega)).mono ?_; rintro e w' ⟨rfl, nd, rfl⟩; replace K : K2 w _ _ _ := ⟨below_drewN K.1 nd, K.2⟩))
                clear q3 q4 hin hin2
                go_loop [7, 8] (fun s7 s8 => ∃ x i : Int, s7 = .int .i64 x ∧ s8 = .int .i64 i ∧ MR p v (r - M) x i) (fun _ s8 => (intOf s8).toNat)
                case atStart => exact ⟨_, _, rfl, rfl, by omega, hv1, HV.out.1, rfl⟩
                case round =>
                  obtain ⟨x, i, rfl, rfl, hr⟩ := hrel
                  have HR := Lib.hid hr
                  obtain ⟨i0, i1, hvx, _⟩ := hr
                  obtain ⟨y0, y1⟩ := val97 hp2 hp97 hvx
                  clear hvx
                  by_cases hi : 0 < i
                  · cases hy : valueB (x * p)
                    · have HO := Lib.hid (rres_no (n := mF v.toNat (r - M) p) (d := mF (-v).toNat d p) (.inl (mF_over hi HR.out.2.2.2 HR.out.2.2.1 hy)))
                      go_wp2_with (go_at_call 102; refine (l01Is_any _ _).mono ?_; rintro e w' ⟨rfl, rfl⟩)
                      refine bodyPost_ret (v := .tuple #[.agg (P2 0 0), .int .i64 3]) (by simp [results, Try.results45, go_sem, e0, e1]) rfl ?_
                      exact ⟨by rw [HQ.out.1, HQ.out.2.1, HO.out.1, HO.out.2], below_set2 K.1 (by omega)⟩
                    · have HU := Lib.hid (mF_up hi HR.out.2.2.2 HR.out.2.2.1)
                      have HYY := Lib.hid hy
                      go_wp2_with (go_at_call 102; refine (l01Is_any _ _).mono ?_; rintro e w' ⟨rfl, rfl⟩)
                      exact ⟨⟨_, _, rfl, rfl, by omega, by omega, HYY.out, HU.out⟩, by simp only [intOf]; omega⟩
                  · have HX := Lib.hid (show x = mF v.toNat (r - M) p by rw [← HR.out.2.2.2, show i.toNat = 0 by omega]; rfl)
                    have HXV := Lib.hid HR.out.2.2.1
                    clear y0 y1 HR
                    go_wp2_with fail
                    clear hi i0 i1
                    go_loop [6, 9] (fun s6 s9 => ∃ z j : Int, s6 = .int .i64 z ∧ s9 = .int .i64 (-j) ∧ MR p (-v) d z j) (fun _ s9 => (-(intOf s9)).toNat)
                    case atStart => exact ⟨_, -v, rfl, by simp, by omega, by omega, HV.out.2, rfl⟩
                    case round =>
                      obtain ⟨z, j, rfl, rfl, hr⟩ := hrel
                      have HR := Lib.hid hr
                      obtain ⟨j0, j1, hvx, _⟩ := hr
                      obtain ⟨y0, y1⟩ := val97 hp2 hp97 hvx
                      clear hvx
                      by_cases hi : 0 < j
                      · have hi' : -j < 0 := by omega
                        cases hy : valueB (z * p)
                        · have HO := Lib.hid (rres_no (n := mF v.toNat (r - M) p) (d := mF (-v).toNat d p) (.inr (mF_over hi HR.out.2.2.2 HR.out.2.2.1 hy)))
                          go_wp2_with (go_at_call 102; refine (l01Is_any _ _).mono ?_; rintro e w' ⟨rfl, rfl⟩)
                          refine bodyPost_ret (v := .tuple #[.agg (P2 0 0), .int .i64 3]) (by simp [results, Try.results45, go_sem, e0, e1]) rfl ?_
                          exact ⟨by rw [HQ.out.1, HQ.out.2.1, HO.out.1, HO.out.2], below_set2 K.1 (by omega)⟩
                        · have HU := Lib.hid (mF_up hi HR.out.2.2.2 HR.out.2.2.1)
                          have HYY := Lib.hid hy
                          go_wp2_with (go_at_call 102; refine (l01Is_any _ _).mono ?_; rintro e w' ⟨rfl, rfl⟩)
                          exact ⟨⟨_, j - 1, rfl, by congr 1; omega, by omega, by omega, HYY.out, HU.out⟩, by simp only [intOf]; omega⟩
                      · have hi' : ¬ -j < 0 := by omega
                        have HZ := Lib.hid (show z = mF (-v).toNat d p by rw [← HR.out.2.2.2, show j.toNat = 0 by omega]; rfl)
                        have HE := Lib.hid (show findQ p v u k = (x, z) ∧ findC p v u k = 0 by
                          have h1 : valueB (mF v.toNat (r - M) p) = true := by rw [← HX.out]; exact HXV.out
                          have h2 : valueB (mF (-v).toNat d p) = true := by rw [← HZ.out]; exact HR.out.2.2.1
                          have h3 := HQ.out.2.2 h1 h2
                          rw [HQ.out.1, HQ.out.2.1]
                          rw [← HX.out, ← HZ.out] at h3 ⊢
                          simp [rresQ, rlimC, h3])
                        clear y0 y1 HR
                        go_wp2_with fail
                        refine bodyPost_ret (v := .tuple #[.agg (P2 x z), .int .i64 0]) (by simp [results, Try.results45, go_sem, e0, e1]) rfl ?_
                        exact ⟨by rw [HE.out.1, HE.out.2], below_set2 K.1 (by omega)⟩
              · have hg' : ((Int.gcd (r - M) d : Int) != 1) = true := by simp; omega
                have HF := Lib.hid (noFit_next HN.out (show fitB M u (bndB M) d = false by unfold fitB; rw [HY.out, decide_eq_false hg]; simp))
                clear hg
                go_wp2_with (first | (go_at_call 70; refine (in_any _ _ _ _).mono ?_; rintro e w' ⟨rfl, rfl⟩) | (go_at_call 94; refine (l01GcdW_any _ _ _ (by omega) (by omega) (by omega) (by omega)).mono ?_; rintro e w' ⟨rfl, nd, rfl⟩; replace K : K2 w _ _ _ := ⟨below_drewN K.1 nd, K.2⟩))
                exact ⟨⟨d + 1, rfl, by omega, by omega, HF.out, K⟩, by simp only [intOf]; omega⟩
          · have HY := Lib.hid (show symR u M d = r by rw [HSY.out, if_neg hs])
            clear HSY
            cases hin : inB r (-bndB M) (bndB M)
            · have HF := Lib.hid (noFit_next HN.out (show fitB M u (bndB M) d = false by unfold fitB; rw [HY.out, hin]; rfl))
              go_wp2_with (go_at_call 70; refine (in_any _ _ _ _).mono ?_; rintro e w' ⟨rfl, rfl⟩)
              exact ⟨⟨d + 1, rfl, by omega, by omega, HF.out, K⟩, by simp only [intOf]; omega⟩
            · have hin2 : -bndB M ≤ r ∧ r ≤ bndB M := by simpa [inB] using hin
              by_cases hg : Int.gcd r d = 1
              · obtain ⟨q1, q2, q3, q4, q5, q6⟩ := HAT.out d d0 hlt (show fitB M u (bndB M) d = true by unfold fitB; rw [HY.out, hin, hg]; rfl)
                rw [HY.out] at q1 q2 q4 q5 q6
                have HQ := Lib.hid (And.intro q1 (And.intro q2 q6))
                have vy : valueB r = true := valueB_t (by omega) (by omega)
                have HV := Lib.hid (And.intro vy vd)
                clear q1 q2 q5 q6 hg vy vd
                go_wp2_with (first | (go_at_call 70; refine (in_any _ _ _ _).mono ?_; rintro e w' ⟨rfl, rfl⟩) | (go_at_call 94; refine (l01GcdW_any _ _ _ (by omega) (by omega) (by omega) (by omega)).mono ?_; rintro e w' ⟨rfl, nd, rfl⟩; replace K : K2 w _ _ _ := ⟨below_drewN K.1 nd, K.2⟩))
                clear q3 q4 hin hin2
                go_loop [7, 8] (fun s7 s8 => ∃ x i : Int, s7 = .int .i64 x ∧ s8 = .int .i64 i ∧ MR p v r x i) (fun _ s8 => (intOf s8).toNat)
                case atStart => exact ⟨_, _, rfl, rfl, by omega, hv1, HV.out.1, rfl⟩
                case round =>
                  obtain ⟨x, i, rfl, rfl, hr⟩ := hrel
                  have HR := Lib.hid hr
                  obtain ⟨i0, i1, hvx, _⟩ := hr
                  obtain ⟨y0, y1⟩ := val97 hp2 hp97 hvx
                  clear hvx
                  by_cases hi : 0 < i
                  · cases hy : valueB (x * p)
                    · have HO := Lib.hid (rres_no (n := mF v.toNat r p) (d := mF (-v).toNat d p) (.inl (mF_over hi HR.out.2.2.2 HR.out.2.2.1 hy)))
                      go_wp2_with (go_at_call 102; refine (l01Is_any _ _).mono ?_; rintro e w' ⟨rfl, rfl⟩)
                      refine bodyPost_ret (v := .tuple #[.agg (P2 0 0), .int .i64 3]) (by simp [results, Try.results45, go_sem, e0, e1]) rfl ?_
                      exact ⟨by rw [HQ.out.1, HQ.out.2.1, HO.out.1, HO.out.2], below_set2 K.1 (by omega)⟩
                    · have HU := Lib.hid (mF_up hi HR.out.2.2.2 HR.out.2.2.1)
                      have HYY := Lib.hid hy
                      go_wp2_with (go_at_call 102; refine (l01Is_any _ _).mono ?_; rintro e w' ⟨rfl, rfl⟩)
                      exact ⟨⟨_, _, rfl, rfl, by omega, by omega, HYY.out, HU.out⟩, by simp only [intOf]; omega⟩
                  · have HX := Lib.hid (show x = mF v.toNat r p by rw [← HR.out.2.2.2, show i.toNat = 0 by omega]; rfl)
                    have HXV := Lib.hid HR.out.2.2.1
                    clear y0 y1 HR
                    go_wp2_with fail
                    clear hi i0 i1
                    go_loop [6, 9] (fun s6 s9 => ∃ z j : Int, s6 = .int .i64 z ∧ s9 = .int .i64 (-j) ∧ MR p (-v) d z j) (fun _ s9 => (-(intOf s9)).toNat)
                    case atStart => exact ⟨_, -v, rfl, by simp, by omega, by omega, HV.out.2, rfl⟩
                    case round =>
                      obtain ⟨z, j, rfl, rfl, hr⟩ := hrel
                      have HR := Lib.hid hr
                      obtain ⟨j0, j1, hvx, _⟩ := hr
                      obtain ⟨y0, y1⟩ := val97 hp2 hp97 hvx
                      clear hvx
                      by_cases hi : 0 < j
                      · have hi' : -j < 0 := by omega
                        cases hy : valueB (z * p)
                        · have HO := Lib.hid (rres_no (n := mF v.toNat r p) (d := mF (-v).toNat d p) (.inr (mF_over hi HR.out.2.2.2 HR.out.2.2.1 hy)))
                          go_wp2_with (go_at_call 102; refine (l01Is_any _ _).mono ?_; rintro e w' ⟨rfl, rfl⟩)
                          refine bodyPost_ret (v := .tuple #[.agg (P2 0 0), .int .i64 3]) (by simp [results, Try.results45, go_sem, e0, e1]) rfl ?_
                          exact ⟨by rw [HQ.out.1, HQ.out.2.1, HO.out.1, HO.out.2], below_set2 K.1 (by omega)⟩
                        · have HU := Lib.hid (mF_up hi HR.out.2.2.2 HR.out.2.2.1)
                          have HYY := Lib.hid hy
                          go_wp2_with (go_at_call 102; refine (l01Is_any _ _).mono ?_; rintro e w' ⟨rfl, rfl⟩)
                          exact ⟨⟨_, j - 1, rfl, by congr 1; omega, by omega, by omega, HYY.out, HU.out⟩, by simp only [intOf]; omega⟩
                      · have hi' : ¬ -j < 0 := by omega
                        have HZ := Lib.hid (show z = mF (-v).toNat d p by rw [← HR.out.2.2.2, show j.toNat = 0 by omega]; rfl)
                        have HE := Lib.hid (show findQ p v u k = (x, z) ∧ findC p v u k = 0 by
                          have h1 : valueB (mF v.toNat r p) = true := by rw [← HX.out]; exact HXV.out
                          have h2 : valueB (mF (-v).toNat d p) = true := by rw [← HZ.out]; exact HR.out.2.2.1
                          have h3 := HQ.out.2.2 h1 h2
                          rw [HQ.out.1, HQ.out.2.1]
                          rw [← HX.out, ← HZ.out] at h3 ⊢
                          simp [rresQ, rlimC, h3])
                        clear y0 y1 HR
                        go_wp2_with fail
                        refine bodyPost_ret (v := .tuple #[.agg (P2 x z), .int .i64 0]) (by simp [results, Try.results45, go_sem, e0, e1]) rfl ?_
                        exact ⟨by rw [HE.out.1, HE.out.2], below_set2 K.1 (by omega)⟩
              · have hg' : ((Int.gcd r d : Int) != 1) = true := by simp; omega
                have HF := Lib.hid (noFit_next HN.out (show fitB M u (bndB M) d = false by unfold fitB; rw [HY.out, decide_eq_false hg]; simp))
                clear hg
                go_wp2_with (first | (go_at_call 70; refine (in_any _ _ _ _).mono ?_; rintro e w' ⟨rfl, rfl⟩) | (go_at_call 94; refine (l01GcdW_any _ _ _ (by omega) (by omega) (by omega) (by omega)).mono ?_; rintro e w' ⟨rfl, nd, rfl⟩; replace K : K2 w _ _ _ := ⟨below_drewN K.1 nd, K.2⟩))
                exact ⟨⟨d + 1, rfl, by omega, by omega, HF.out, K⟩, by simp only [intOf]; omega⟩
        · have HE := Lib.hid (HNO.out (show NoFit M u (bndB M + 1) by rw [show bndB M + 1 = d by omega]; exact HN.out))
          go_wp2_with fail
          refine bodyPost_ret (v := .tuple #[.agg (P2 0 0), .int .i64 4]) (by simp [results, Try.results45, go_sem, e0, e1]) rfl ?_
          exact ⟨by rw [HE.out.1, HE.out.2], below_set2 K.1 (by omega)⟩
end Go.Proofs.Ytgckamlibbjgcaa
namespace Go.Proofs.Ytgckamlibbjgcaa
open Go.RowKit
set_option linter.unusedVariables false
/-- a slice of integers that came in, as the shells have it -/
def IsRowOf (k : IntKind) (w : World) (a : Option Addr) (len cap : Nat) (zs : List Int) : Prop :=
  (a = none ∧ len = 0 ∧ cap = 0 ∧ zs = []) ∨
  ∃ x, a = some x ∧ len ≤ cap ∧ cap ≤ maxLen ∧ zs.length = cap ∧ (∀ i, i < zs.length → w.cell? (x.add i) = some (.int k (zs.getD i 0))) ∧ ∀ n ∈ zs, (Lit.int k n).wf = true
theorem u8_bd {q : Int} (h : (Lit.int .u8 q).wf = true) : 0 ≤ q ∧ q ≤ 255 := by
  simp [Lit.wf, IntKind.min, IntKind.max, IntKind.signed, IntKind.bits] at h
  exact ⟨h.1, by omega⟩
theorem codeIn_of {w : World} {a : Option Addr} {len cap : Nat} {zs : List Int} (h : IsRowOf .u8 w a len cap zs) : CodeIn w a len ∧ len ≤ 9223372036854775807 := by
  rcases h with ⟨_, h, _, _⟩ | ⟨x, rfl, h1, h2, h3, h4, h5⟩
  · exact ⟨.inl h, by omega⟩
  · refine ⟨?_, by unfold maxLen at h2; omega⟩
    by_cases h0 : len = 0
    · exact .inl h0
    · obtain ⟨b, off, rfl, hc⟩ := ints_at h4 (by omega)
      refine .inr ⟨b, off, rfl, World.block_lt_of_cell? w _ (hc 0 (by omega)), fun i hi => ⟨_, hc i (by omega), ?_⟩⟩
      have hm : zs.getD i 0 ∈ zs := by
        have hlt : i < zs.length := by omega
        rw [show zs.getD i 0 = zs[i] by simp [List.getD, hlt]]; exact List.getElem_mem _
      exact u8_bd (h5 _ hm)
theorem gcd_dvd_tmod (a b : Int) (h : Int.gcd a b ≠ 0) : a.tmod (Int.gcd a b) = 0 ∧ b.tmod (Int.gcd a b) = 0 :=
  ⟨Int.tmod_eq_zero_of_dvd (Int.gcd_dvd_left ..), Int.tmod_eq_zero_of_dvd (Int.gcd_dvd_right ..)⟩
end Go.Proofs.Ytgckamlibbjgcaa
namespace Go.Proofs.Ytgckamlibbjgcaa
open Go.RowKit
set_option linter.unusedVariables false
set_option linter.unusedSimpArgs false
def LL (l : List (Nat × Array Value)) (w : World) : Prop := ∀ x ∈ l, Lies w x.1 x.2
theorem ll_nil (w : World) : LL [] w := fun x hx => by cases hx
theorem ll_next {l : List (Nat × Array Value)} {w1 w2 : World} (h : LL l w1) (hb : Below w1.heap.size w1 w2) : LL l w2 := fun x hx => lies_next (h x hx) hb
theorem ll_drew {l : List (Nat × Array Value)} {w1 : World} (h : LL l w1) : LL l w1.drew := fun x hx => h x hx
theorem ll_new {l : List (Nat × Array Value)} (w : World) (h : LL l w) (vs : Array Value) (T : TypeId) : LL ((w.heap.size, vs) :: l) (w.alloc (.cells vs T)) := by
  intro x hx
  cases hx with
  | head => exact lies_new w vs T
  | tail _ hx => exact lies_alloc (h x hx) _
/-- the old memory and the variables -/
abbrev LS (w : World) (l : List (Nat × Array Value)) (w1 : World) : Prop := Below w.heap.size w w1 ∧ LL l w1
theorem ls_next {w : World} {l : List (Nat × Array Value)} {w1 w2 : World} (h : LS w l w1) (hb : Below w1.heap.size w1 w2) : LS w l w2 := ⟨h.1.trans (hb.mono h.1.size), ll_next h.2 hb⟩
theorem ls_drew {w : World} {l : List (Nat × Array Value)} {w1 : World} (h : LS w l w1) : LS w l w1.drew := ⟨below_drewN h.1 1, ll_drew h.2⟩
set_option maxRecDepth 100000 in
set_option maxHeartbeats 4000000 in
theorem found_core (o : Option Addr) (len cap : Nat) (w : World) (hl : len ≤ 4096) (hc : CodeIn w o len) :
    Calls Try.prog 6 #[.slice o len cap] w fun e w' => e = .returned (.bool true) ∧ Below w.heap.size w w' := by
  have HC := Lib.hid hc
  have HB : Below w.heap.size w w := Below.refl _ _
  have L := ll_nil w
  clear hc
  go_enter Try.func6, Try.ntmps6
  go_upto_region 3 with (go_at_call 11; refine (big_no _ _ _ _ hl).mono ?_; rintro e w' ⟨rfl, rfl⟩)
  go_upto_region 4 with (first | (go_at_call 43; refine (drawFind_any _ _ _ _ hl HC.out).mono ?_; rintro e w1 ⟨p, v, u, n, rfl, hb⟩; replace L := ll_next L hb; replace HB := HB.trans (hb.mono HB.size); replace HC := Lib.hid (codeIn_below (B := 0) HC.out hb)))
  clear hb
  replace L := ll_new w1 L (P4 p v u n) 34
  replace HB := HB.trans ((below_a1 w1 (.cells (P4 p v u n) 34)).mono HB.size)
  replace HC := Lib.hid (codeIn_below (B := 0) HC.out (below_a1 w1 (.cells (P4 p v u n) 34)))
  generalize w1.alloc (.cells (P4 p v u n) 34) = V1 at L HB HC ⊢
  obtain ⟨qx, hqx⟩ : ∃ b, w1.heap.size = b := ⟨_, rfl⟩
  rw [hqx] at L ⊢
  clear hqx
  have A1 := fun w => implFind_any p v u n w
  have A2 := fun w => specFind_any p v u n w
  obtain ⟨Z, hZ⟩ : ∃ X0, findQ p v u n = X0 := ⟨_, rfl⟩
  obtain ⟨zc, hC⟩ : ∃ X0, findC p v u n = X0 := ⟨_, rfl⟩
  rw [hZ, hC] at A1 A2
  have HZ := Lib.hid (And.intro hZ hC)
  replace A1 := Lib.hid A1
  replace A2 := Lib.hid A2
  clear hZ hC
  obtain ⟨x0, x1, x2, x3⟩ := lies_four (L _ (.head _))
  go_upto_region 5 with (first | (go_at_call 44; refine (A1.out _).mono ?_; rintro e w2 ⟨rfl, hb⟩; replace L := ll_next L hb; replace HB := HB.trans (hb.mono HB.size); replace HC := Lib.hid (codeIn_below (B := 0) HC.out hb)))
  clear x0 x1 x2 x3
  clear hb
  replace L := ll_new w2 L (P2 Z.1 Z.2) 49
  replace HB := HB.trans ((below_a1 w2 (.cells (P2 Z.1 Z.2) 49)).mono HB.size)
  replace HC := Lib.hid (codeIn_below (B := 0) HC.out (below_a1 w2 (.cells (P2 Z.1 Z.2) 49)))
  generalize w2.alloc (.cells (P2 Z.1 Z.2) 49) = V2 at L HB HC ⊢
  obtain ⟨qf, hqf⟩ : ∃ b, w2.heap.size = b := ⟨_, rfl⟩
  rw [hqf] at L ⊢
  clear hqf
  obtain ⟨x0, x1, x2, x3⟩ := lies_four (L _ (.tail _ (.head _)))
  go_upto_region 6 with (first | (go_at_call 45; refine (A2.out _).mono ?_; rintro e w3 ⟨rfl, hb⟩; replace L := ll_next L hb; replace HB := HB.trans (hb.mono HB.size); replace HC := Lib.hid (codeIn_below (B := 0) HC.out hb)))
  clear x0 x1 x2 x3
  clear hb
  replace L := ll_new w3 L (P2 Z.1 Z.2) 49
  replace HB := HB.trans ((below_a1 w3 (.cells (P2 Z.1 Z.2) 49)).mono HB.size)
  replace HC := Lib.hid (codeIn_below (B := 0) HC.out (below_a1 w3 (.cells (P2 Z.1 Z.2) 49)))
  generalize w3.alloc (.cells (P2 Z.1 Z.2) 49) = V3 at L HB HC ⊢
  obtain ⟨qt, hqt⟩ : ∃ b, w3.heap.size = b := ⟨_, rfl⟩
  rw [hqt] at L ⊢
  clear hqt
  clear A1 A2
  go_upto_region 7 with (first | (go_at_call 46; refine (drawPof_any _ _ _ _ hl HC.out).mono ?_; rintro e w4 ⟨a, b, c, d, rfl, hb⟩; replace L := ll_next L hb; replace HB := HB.trans (hb.mono HB.size); replace HC := Lib.hid (codeIn_below (B := 0) HC.out hb)))
  clear hb
  replace L := ll_new w4 L (P2 a b) 49
  replace HB := HB.trans ((below_a1 w4 (.cells (P2 a b) 49)).mono HB.size)
  replace HC := Lib.hid (codeIn_below (B := 0) HC.out (below_a1 w4 (.cells (P2 a b) 49)))
  replace L := ll_new (w4.alloc (.cells (P2 a b) 49)) L (P2 c d) 25
  rw [size1] at L
  replace HB := HB.trans ((below_a1 (w4.alloc (.cells (P2 a b) 49)) (.cells (P2 c d) 25)).mono HB.size)
  replace HC := Lib.hid (codeIn_below (B := 0) HC.out (below_a1 (w4.alloc (.cells (P2 a b) 49)) (.cells (P2 c d) 25)))
  generalize (w4.alloc (.cells (P2 a b) 49)).alloc (.cells (P2 c d) 25) = V4 at L HB HC ⊢
  obtain ⟨qm, hqm⟩ : ∃ b, w4.heap.size = b := ⟨_, rfl⟩
  rw [hqm] at L ⊢
  clear hqm
  have A1 := fun w => implPof_any a b c d w
  have A2 := fun w => specPof_any a b c d w
  obtain ⟨Y, hZ⟩ : ∃ X0, pofQ a b c d = X0 := ⟨_, rfl⟩
  obtain ⟨yc, hC⟩ : ∃ X0, pofC a b c d = X0 := ⟨_, rfl⟩
  rw [hZ, hC] at A1 A2
  have HY := Lib.hid (And.intro hZ hC)
  replace A1 := Lib.hid A1
  replace A2 := Lib.hid A2
  clear hZ hC
  obtain ⟨m0, m1⟩ := lies_pair (L _ (.tail _ (.head _)))
  obtain ⟨r0, r1⟩ := lies_pair (L _ (.head _))
  go_upto_region 8 with (first | (go_at_call 41; refine (A1.out _).mono ?_; rintro e w5 ⟨rfl, hb⟩; replace L := ll_next L hb; replace HB := HB.trans (hb.mono HB.size); replace HC := Lib.hid (codeIn_below (B := 0) HC.out hb)))
  clear m0 m1
  clear r0 r1
  clear hb
  replace L := ll_new w5 L (P4 Y.1 Y.2.1 Y.2.2.1 Y.2.2.2) 34
  replace HB := HB.trans ((below_a1 w5 (.cells (P4 Y.1 Y.2.1 Y.2.2.1 Y.2.2.2) 34)).mono HB.size)
  replace HC := Lib.hid (codeIn_below (B := 0) HC.out (below_a1 w5 (.cells (P4 Y.1 Y.2.1 Y.2.2.1 Y.2.2.2) 34)))
  generalize w5.alloc (.cells (P4 Y.1 Y.2.1 Y.2.2.1 Y.2.2.2) 34) = V5 at L HB HC ⊢
  obtain ⟨qy, hqy⟩ : ∃ b, w5.heap.size = b := ⟨_, rfl⟩
  rw [hqy] at L ⊢
  clear hqy
  obtain ⟨m0, m1⟩ := lies_pair (L _ (.tail _ (.tail _ (.head _))))
  obtain ⟨r0, r1⟩ := lies_pair (L _ (.tail _ (.head _)))
  go_upto_region 9 with (first | (go_at_call 47; refine (A2.out _).mono ?_; rintro e w6 ⟨rfl, hb⟩; replace L := ll_next L hb; replace HB := HB.trans (hb.mono HB.size); replace HC := Lib.hid (codeIn_below (B := 0) HC.out hb)))
  clear m0 m1
  clear r0 r1
  clear hb
  replace L := ll_new w6 L (P4 Y.1 Y.2.1 Y.2.2.1 Y.2.2.2) 34
  replace HB := HB.trans ((below_a1 w6 (.cells (P4 Y.1 Y.2.1 Y.2.2.1 Y.2.2.2) 34)).mono HB.size)
  replace HC := Lib.hid (codeIn_below (B := 0) HC.out (below_a1 w6 (.cells (P4 Y.1 Y.2.1 Y.2.2.1 Y.2.2.2) 34)))
  generalize w6.alloc (.cells (P4 Y.1 Y.2.1 Y.2.2.1 Y.2.2.2) 34) = V6 at L HB HC ⊢
  obtain ⟨ql, hql⟩ : ∃ b, w6.heap.size = b := ⟨_, rfl⟩
  rw [hql] at L ⊢
  clear hql
  clear A1 A2
  go_upto_region 10 with (first | (go_at_call 48; refine (drawAgree_any _ _ _ _ hl HC.out).mono ?_; rintro e w7 ⟨a2, b2, p2, v2, u2, n2, rfl, hb⟩; replace L := ll_next L hb; replace HB := HB.trans (hb.mono HB.size); replace HC := Lib.hid (codeIn_below (B := 0) HC.out hb)))
  clear hb
  replace L := ll_new w7 L (P2 a2 b2) 49
  replace HB := HB.trans ((below_a1 w7 (.cells (P2 a2 b2) 49)).mono HB.size)
  replace HC := Lib.hid (codeIn_below (B := 0) HC.out (below_a1 w7 (.cells (P2 a2 b2) 49)))
  replace L := ll_new (w7.alloc (.cells (P2 a2 b2) 49)) L (P4 p2 v2 u2 n2) 34
  rw [size1] at L
  replace HB := HB.trans ((below_a1 (w7.alloc (.cells (P2 a2 b2) 49)) (.cells (P4 p2 v2 u2 n2) 34)).mono HB.size)
  replace HC := Lib.hid (codeIn_below (B := 0) HC.out (below_a1 (w7.alloc (.cells (P2 a2 b2) 49)) (.cells (P4 p2 v2 u2 n2) 34)))
  generalize (w7.alloc (.cells (P2 a2 b2) 49)).alloc (.cells (P4 p2 v2 u2 n2) 34) = V7 at L HB HC ⊢
  obtain ⟨qg, hqg⟩ : ∃ b, w7.heap.size = b := ⟨_, rfl⟩
  rw [hqg] at L ⊢
  clear hqg
  clear HC
  have A1 := fun w => implAgree_any a2 b2 p2 v2 u2 n2 w
  have A2 := fun w => specAgree_any a2 b2 p2 v2 u2 n2 w
  obtain ⟨B, hZ⟩ : ∃ X0, agreeB a2 b2 p2 v2 u2 n2 = X0 := ⟨_, rfl⟩
  obtain ⟨ac, hC⟩ : ∃ X0, agreeC a2 b2 p2 v2 u2 n2 = X0 := ⟨_, rfl⟩
  rw [hZ, hC] at A1 A2
  have HB2 := Lib.hid (And.intro hZ hC)
  replace A1 := Lib.hid A1
  replace A2 := Lib.hid A2
  clear hZ hC
  obtain ⟨g0, g1⟩ := lies_pair (L _ (.tail _ (.head _)))
  obtain ⟨z0, z1, z2, z3⟩ := lies_four (L _ (.head _))
  go_upto_region 11 with (first | (go_at_call 49; refine (A1.out _).mono ?_; rintro e w8 ⟨rfl, hb⟩; replace L := ll_next L hb; replace HB := HB.trans (hb.mono HB.size)))
  clear g0 g1
  clear z0 z1 z2 z3
  clear hb
  obtain ⟨g0, g1⟩ := lies_pair (L _ (.tail _ (.head _)))
  obtain ⟨z0, z1, z2, z3⟩ := lies_four (L _ (.head _))
  go_upto_region 12 with (first | (go_at_call 50; refine (A2.out _).mono ?_; rintro e w9 ⟨rfl, hb⟩; replace L := ll_next L hb; replace HB := HB.trans (hb.mono HB.size)))
  clear g0 g1
  clear z0 z1 z2 z3
  clear hb
  clear A1 A2 HB2
  obtain ⟨f0, f1⟩ := lies_pair (L _ (.tail _ (.tail _ (.tail _ (.tail _ (.tail _ (.tail _ (.tail _ (.head _)))))))))
  obtain ⟨t0, t1⟩ := lies_pair (L _ (.tail _ (.tail _ (.tail _ (.tail _ (.tail _ (.tail _ (.head _))))))))
  obtain ⟨y0, y1, y2, y3⟩ := lies_four (L _ (.tail _ (.tail _ (.tail _ (.head _)))))
  obtain ⟨l0, l1, l2, l3⟩ := lies_four (L _ (.tail _ (.tail _ (.head _))))
  go_upto_region 14 with fail
  clear f0 f1
  clear t0 t1
  clear y0 y1 y2 y3
  clear l0 l1 l2 l3
  by_cases hy : yc = 0
  · obtain ⟨g1, g2⟩ := agree_self (HY.out.2.trans hy)
    rw [HY.out.1] at g1 g2
    have HD := fun w => implAgree_any a b Y.1 Y.2.1 Y.2.2.1 Y.2.2.2 w
    rw [g1, g2] at HD
    replace HD := Lib.hid HD
    have hy' : (yc == 0) = true := by simp [hy]
    clear hy g1 g2 HY
    obtain ⟨m0, m1⟩ := lies_pair (L _ (.tail _ (.tail _ (.tail _ (.tail _ (.tail _ (.head _)))))))
    obtain ⟨y0, y1, y2, y3⟩ := lies_four (L _ (.tail _ (.tail _ (.tail _ (.head _)))))
    go_upto_region 18 with (first | (go_at_call 49; refine (HD.out _).mono ?_; rintro e w40 ⟨rfl, hb⟩; replace L := ll_next L hb; replace HB := HB.trans (hb.mono HB.size)))
    clear m0 m1
    clear y0 y1 y2 y3
    clear hb
    by_cases hz : zc = 0
    · obtain ⟨f1, f2, _, _⟩ := find_back (HZ.out.2.trans hz)
      rw [HZ.out.1] at f1 f2
      have HP := fun w => implPof_any Z.1 Z.2 p n w
      simp only [f1, f2] at HP
      replace HP := Lib.hid HP
      have hz' : (zc != 0) = false := by simp [hz]
      clear hz f1 f2
      obtain ⟨f0, f1⟩ := lies_pair (L _ (.tail _ (.tail _ (.tail _ (.tail _ (.tail _ (.tail _ (.tail _ (.head _)))))))))
      obtain ⟨x0, x1, x2, x3⟩ := lies_four (L _ (.tail _ (.tail _ (.tail _ (.tail _ (.tail _ (.tail _ (.tail _ (.tail _ (.head _))))))))))
      go_upto_region 21 with (first | (go_at_call 41; refine (HP.out _).mono ?_; rintro e w101 ⟨rfl, hb⟩; replace L := ll_next L hb; replace HB := HB.trans (hb.mono HB.size)))
      clear f0 f1
      clear x0 x1 x2 x3
      clear hb
      replace L := ll_new w101 L (P4 p v u n) 34
      replace HB := HB.trans ((below_a1 w101 (.cells (P4 p v u n) 34)).mono HB.size)
      generalize w101.alloc (.cells (P4 p v u n) 34) = V101 at L HB ⊢
      obtain ⟨qk, hqk⟩ : ∃ b, w101.heap.size = b := ⟨_, rfl⟩
      rw [hqk] at L ⊢
      clear hqk
      obtain ⟨k0, k1, k2, k3⟩ := lies_four (L _ (.head _))
      obtain ⟨x0, x1, x2, x3⟩ := lies_four (L _ (.tail _ (.tail _ (.tail _ (.tail _ (.tail _ (.tail _ (.tail _ (.tail _ (.tail _ (.head _)))))))))))
      go_wp2_with fail
      go_ret
      exact ⟨rfl, HB⟩
    · have hz' : (zc != 0) = true := by simp [hz]
      clear hz
      go_wp2_with fail
      go_ret
      exact ⟨rfl, HB⟩
  · have hy' : (yc == 0) = false := by simpa using hy
    clear hy
    go_upto_region 18 with fail
    by_cases hz : zc = 0
    · obtain ⟨f1, f2, _, _⟩ := find_back (HZ.out.2.trans hz)
      rw [HZ.out.1] at f1 f2
      have HP := fun w => implPof_any Z.1 Z.2 p n w
      simp only [f1, f2] at HP
      replace HP := Lib.hid HP
      have hz' : (zc != 0) = false := by simp [hz]
      clear hz f1 f2
      obtain ⟨f0, f1⟩ := lies_pair (L _ (.tail _ (.tail _ (.tail _ (.tail _ (.tail _ (.tail _ (.tail _ (.head _)))))))))
      obtain ⟨x0, x1, x2, x3⟩ := lies_four (L _ (.tail _ (.tail _ (.tail _ (.tail _ (.tail _ (.tail _ (.tail _ (.tail _ (.head _))))))))))
      go_upto_region 21 with (first | (go_at_call 41; refine (HP.out _).mono ?_; rintro e w100 ⟨rfl, hb⟩; replace L := ll_next L hb; replace HB := HB.trans (hb.mono HB.size)))
      clear f0 f1
      clear x0 x1 x2 x3
      clear hb
      replace L := ll_new w100 L (P4 p v u n) 34
      replace HB := HB.trans ((below_a1 w100 (.cells (P4 p v u n) 34)).mono HB.size)
      generalize w100.alloc (.cells (P4 p v u n) 34) = V100 at L HB ⊢
      obtain ⟨qk, hqk⟩ : ∃ b, w100.heap.size = b := ⟨_, rfl⟩
      rw [hqk] at L ⊢
      clear hqk
      obtain ⟨k0, k1, k2, k3⟩ := lies_four (L _ (.head _))
      obtain ⟨x0, x1, x2, x3⟩ := lies_four (L _ (.tail _ (.tail _ (.tail _ (.tail _ (.tail _ (.tail _ (.tail _ (.tail _ (.tail _ (.head _)))))))))))
      go_wp2_with fail
      go_ret
      exact ⟨rfl, HB⟩
    · have hz' : (zc != 0) = true := by simp [hz]
      clear hz
      go_wp2_with fail
      go_ret
      exact ⟨rfl, HB⟩
set_option maxRecDepth 100000 in
theorem found_walk (a : Option Addr) (len cap : Nat) (zs : List Int) (w : World) (h : IsRowOf .u8 w a len cap zs) :
    Calls Try.prog 6 #[.slice a len cap] w fun e w' => e = .returned (.bool true) ∧ Below w.heap.size w w' := by
  obtain ⟨hc, hm⟩ := codeIn_of h
  by_cases hl : len ≤ 4096
  · exact found_core a len cap w hl hc
  · clear hc h
    go_enter Try.func6, Try.ntmps6
    go_wp2_with (go_at_call 11; refine (big_yes _ _ _ _ (by omega) (by omega)).mono ?_; rintro e w' ⟨rfl, rfl⟩)
    go_ret
    exact ⟨rfl, Below.refl _ _⟩
end Go.Proofs.Ytgckamlibbjgcaa
