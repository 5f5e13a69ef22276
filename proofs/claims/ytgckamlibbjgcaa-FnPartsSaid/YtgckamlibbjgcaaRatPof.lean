/- Plain mathematics of chapter 5: the p-adic number of a rational number, agreement, and that a fraction that is found has the number it was found from. Conditions: primes from 2 to 97, moduli and values within their bounds. -/
import Derived.Test.YtgckamlibbjgcaaRatVal
import Derived.Test.YtgckamlibbjgcaaPadFacts
namespace Go.Proofs.Ytgckamlibbjgcaa
open Go.RowKit
set_option linter.unusedVariables false
/-- the unit of the p-adic number of a rational number -/
def pofU (n d p k : Int) : Int := valRest n p % ringM p k * invV p k (valRest d p % ringM p k) % ringM p k
def pofT (n d p k : Int) : Q4 := (p, valCount n p - valCount d p, pofU n d p k, k)
def pofC (n d p k : Int) : Int := if isRatB n d && ringB p k then (if n = 0 then 5 else 0) else 1
def pofQ (n d p k : Int) : Q4 := if pofC n d p k = 0 then pofT n d p k else (0, 0, 0, 0)
theorem pof_zero {n d p k : Int} (h : pofC n d p k = 0) : isRatB n d = true ∧ ringM p k ≠ 0 ∧ n ≠ 0 ∧ pofQ n d p k = pofT n d p k := by
  have hq : pofQ n d p k = pofT n d p k := by unfold pofQ; rw [if_pos h]
  unfold pofC at h
  split at h
  · rename_i hv
    simp only [Bool.and_eq_true] at hv
    split at h
    · omega
    · refine ⟨hv.1, ?_, ‹_›, hq⟩
      intro hz; rw [ringB_f hz] at hv; cases hv.2
  · omega
theorem inv_unit {p k a : Int} (h : ringM p k ≠ 0) (h0 : 0 ≤ a) (h1 : a < ringM p k) (hu : a % p ≠ 0) :
    unitC p k a = 0 ∧ 1 ≤ invV p k a ∧ invV p k a < ringM p k ∧ a * invV p k a % ringM p k = 1 ∧ invV p k a % p ≠ 0 := by
  obtain ⟨hp2, hp97, _, _, hm1, hm2, _⟩ := ringM_bd h
  have hc : unitC p k a = 0 := by simp [unitC, resC, h, h0, h1, hu]
  have hi : invV p k a = bezX a (ringM p k) % ringM p k := by simp [invV, hc]
  have i0 := Int.emod_nonneg (bezX a (ringM p k)) h
  have i1 := Int.emod_lt_of_pos (bezX a (ringM p k)) (show 0 < ringM p k by omega)
  rw [← hi] at i0 i1
  have hm := bez_inverse (a := a) (m := ringM p k) (by omega) h1 hm1 hm2 (coprime_ring h hu)
  rw [← hi] at hm
  generalize invV p k a = g at *
  have hg : g % p ≠ 0 := by
    intro hz
    have x1 : a * g % p = 0 := by rw [Int.mul_emod, hz, Int.mul_zero]; rfl
    have x2 : a * g % ringM p k % p = a * g % p := emod_ringM h
    rw [hm, x1, Int.emod_eq_of_lt (by omega) (by omega)] at x2
    omega
  refine ⟨hc, ?_, i1, hm, hg⟩
  have : g ≠ 0 := by rintro rfl; simp at hg
  omega
theorem emod_dvd_sub (a m : Int) : m ∣ a - a % m := by
  have e := Int.mul_ediv_add_emod a m
  exact ⟨a / m, by omega⟩
/-- the unit of the number: it is one, and the numerator is it times the denominator -/
theorem pof_unit {n d p k : Int} (h : ringM p k ≠ 0) (hn : valRest n p % p ≠ 0) (hd : valRest d p % p ≠ 0) :
    1 ≤ pofU n d p k ∧ pofU n d p k < ringM p k ∧ pofU n d p k % p ≠ 0 ∧ ringM p k ∣ valRest n p - pofU n d p k * valRest d p := by
  have hs := (ringM_in h).1
  obtain ⟨hp2, hp97, _, _, hm1, hm2, _⟩ := ringM_bd h
  have d0 := Int.emod_nonneg (valRest d p) h
  have d1 := Int.emod_lt_of_pos (valRest d p) (show 0 < ringM p k by omega)
  have du : valRest d p % ringM p k % p ≠ 0 := by rw [emod_ringM h]; exact hd
  have nu : valRest n p % ringM p k % p ≠ 0 := by rw [emod_ringM h]; exact hn
  obtain ⟨_, g1, g2, g3, g4⟩ := inv_unit h d0 d1 du
  have hU : pofU n d p k = valRest n p % ringM p k * invV p k (valRest d p % ringM p k) % ringM p k := rfl
  generalize invV p k (valRest d p % ringM p k) = g at *
  have u0 := Int.emod_nonneg (valRest n p % ringM p k * g) h
  have u1 := Int.emod_lt_of_pos (valRest n p % ringM p k * g) (show 0 < ringM p k by omega)
  have uu : pofU n d p k % p ≠ 0 := by rw [hU, emod_ringM h]; exact prime_mul hs nu g4
  rw [← hU] at u0 u1
  have un : pofU n d p k ≠ 0 := by intro hz; rw [hz] at uu; simp at uu
  refine ⟨by omega, u1, uu, ?_⟩
  have x1 := emod_dvd_sub (valRest n p % ringM p k * g) (ringM p k)
  rw [← hU] at x1
  have x2 := emod_dvd_sub (valRest n p) (ringM p k)
  have x3 := emod_dvd_sub (valRest d p) (ringM p k)
  have x4 := emod_dvd_sub (valRest d p % ringM p k * g) (ringM p k)
  rw [g3] at x4
  obtain ⟨c1, e1⟩ := x1
  obtain ⟨c2, e2⟩ := x2
  obtain ⟨c3, e3⟩ := x3
  obtain ⟨c4, e4⟩ := x4
  generalize valRest n p % ringM p k = n' at *
  generalize valRest d p % ringM p k = d' at *
  generalize ringM p k = M at *
  generalize valRest n p = rn at *
  generalize valRest d p = rd at *
  generalize pofU n d p k = U at *
  refine ⟨c2 + c1 * rd - n' * g * c3 - n' * c4, ?_⟩
  have a1 : U = n' * g - M * c1 := by omega
  have a2 : rn = n' + M * c2 := by omega
  have a3 : rd = d' + M * c3 := by omega
  have a4 : d' * g = 1 + M * c4 := by omega
  rw [a1, a2]
  have b1 : (n' * g - M * c1) * rd = n' * (g * rd) - M * (c1 * rd) := by grind
  have b2 : g * rd = 1 + M * c4 + M * (c3 * g) := by rw [a3, ← a4]; grind
  rw [b1, b2]
  grind
theorem pof_valid {n d p k : Int} (h : pofC n d p k = 0) : POk p (valCount n p - valCount d p) (pofU n d p k) k ∧ k ≠ 0 := by
  obtain ⟨hr, hm, hn, hq⟩ := pof_zero h
  obtain ⟨n0, n1, d0, d1, g⟩ := isRat_of hr
  have hs := (ringM_in hm).1
  have hp := (smallB_bd hs).1
  obtain ⟨_, _, k1, _, _, m2, _⟩ := ringM_bd hm
  obtain ⟨_, a2, a3, a4⟩ := val_parts hp hn n0 n1
  obtain ⟨_, b2, b3, b4⟩ := val_parts (n := d) hp (by omega) (by omega) d1
  obtain ⟨u1, u2, u3, _⟩ := pof_unit hm a2 b2
  have e := pw_ringM hm
  exact ⟨⟨hs, by omega, by omega, by omega, by omega, .inr ⟨k1, u1, by omega, u3⟩⟩, by omega⟩
/-- the number of a rational number that is told by its parts -/
theorem pof_of {n d p k r s u : Int} {i j : Nat} (hm : ringM p k ≠ 0) (hr : isRatB n d = true) (e1 : n = r * p ^ i) (e2 : d = s * p ^ j) (h1 : r % p ≠ 0) (h2 : s % p ≠ 0)
    (u0 : 0 ≤ u) (u1 : u < ringM p k) (hu : ringM p k ∣ r - u * s) : pofC n d p k = 0 ∧ pofQ n d p k = (p, (i : Int) - j, u, k) := by
  have hs := (ringM_in hm).1
  have hp := (smallB_bd hs).1
  obtain ⟨n0, n1, d0, d1, g⟩ := isRat_of hr
  obtain ⟨a1, a2⟩ := val_of hp n0 n1 h1 e1
  obtain ⟨b1, b2⟩ := val_of hp (by omega) d1 h2 e2
  have hn : n ≠ 0 := by
    intro hz
    rw [hz] at e1
    rcases Int.mul_eq_zero.1 e1.symm with h | h
    · rw [h] at h1; simp at h1
    · exact absurd h (pow_ne hp i)
  have hc : pofC n d p k = 0 := by simp [pofC, hr, ringB_t hm, hn]
  refine ⟨hc, ?_⟩
  obtain ⟨w1, w2, w3, w4⟩ := pof_unit (n := n) (d := d) hm (by rw [a2]; exact h1) (by rw [b2]; exact h2)
  rw [a2, b2] at w4
  have hU : pofU n d p k = u := by
    have hx : ringM p k ∣ s * (pofU n d p k - u) := by
      have e : s * (pofU n d p k - u) = (r - u * s) - (r - pofU n d p k * s) := by grind
      rw [e]; exact Int.dvd_sub hu w4
    have hg := coprime_ring hm h2
    obtain ⟨c, hc⟩ := dvd_left hx hg
    have hc0 : c = 0 := by
      refine Classical.byContradiction fun hne => ?_
      rcases Int.lt_or_gt_of_ne hne with h | h
      · have : ringM p k * c ≤ ringM p k * (-1) := Int.mul_le_mul_of_nonneg_left (by omega) (by omega)
        omega
      · have : ringM p k * 1 ≤ ringM p k * c := Int.mul_le_mul_of_nonneg_left (by omega) (by omega)
        omega
    rw [hc0, Int.mul_zero] at hc
    omega
  rw [(pof_zero hc).2.2.2]
  unfold pofT
  rw [hU, a1, b1]
/-- what is found gives back the number -/
theorem find_back {p v u k : Int} (h : findC p v u k = 0) :
    pofC (findQ p v u k).1 (findQ p v u k).2 p k = 0 ∧ pofQ (findQ p v u k).1 (findQ p v u k).2 p k = (p, v, u, k) ∧ padB p v u k = true ∧ k ≠ 0 := by
  unfold findC at h
  split at h
  · rename_i hb
    have hx := padB_ok hb
    split at h
    · omega
    · rename_i hk
      split at h
      · rename_i ho
        obtain ⟨e0, hm, k1, u1, u2, hu⟩ := pok_ring hx hk
        have hs := hx.1
        have hp := (smallB_bd hs).1
        obtain ⟨_, _, _, _, m1, m2, _⟩ := ringM_bd hm
        have hf := (fitO_iff (u := u) (by omega : 1 ≤ ringM p k)).1 ho
        obtain ⟨hn, hd, _⟩ := fit_unit hs (dvd_ringM hm) hu hf
        have hq : findQ p v u k = rresQ (mF v.toNat (fitN (ringM p k) u) p) (mF (-v).toNat (fitD (ringM p k) u) p) := by simp [findQ, hb, hk, ho]
        have hv : isRatB (mF v.toNat (fitN (ringM p k) u) p) (mF (-v).toNat (fitD (ringM p k) u) p) = true := by
          unfold rlimC at h; split at h
          · assumption
          · omega
        have hq2 : findQ p v u k = (mF v.toNat (fitN (ringM p k) u) p, mF (-v).toNat (fitD (ringM p k) u) p) := by rw [hq]; simp [rresQ, hv]
        obtain ⟨n0, n1, d0, d1, g⟩ := isRat_of hv
        have x1 := mF_pow _ _ (valueB_t n0 n1)
        have x2 := mF_pow _ _ (valueB_t (show -1000000000000 ≤ _ by omega) d1)
        rw [hq2]
        obtain ⟨y1, y2⟩ := pof_of hm hv x1 x2 hn hd (by omega) u2 hf.2.2.2.2.2
        refine ⟨y1, ?_, hb, hk⟩
        rw [y2, show (v.toNat : Int) - ((-v).toNat : Int) = v by omega]
      · omega
  · omega
/-- agreement -/
def agreeC (n d p v u k : Int) : Int := if isRatB n d && padB p v u k then 0 else 1
def agreeB (n d p v u k : Int) : Bool := (isRatB n d && padB p v u k) && (if k = 0 then (n == 0 || decide (v ≤ valCount n p - valCount d p)) else (!(n == 0) && (decide (valCount n p - valCount d p = v) && decide (pofU n d p k = u))))
theorem agree_self {n d p k : Int} (h : pofC n d p k = 0) : agreeC n d (pofQ n d p k).1 (pofQ n d p k).2.1 (pofQ n d p k).2.2.1 (pofQ n d p k).2.2.2 = 0 ∧ agreeB n d (pofQ n d p k).1 (pofQ n d p k).2.1 (pofQ n d p k).2.2.1 (pofQ n d p k).2.2.2 = true := by
  obtain ⟨hr, hm, hn, hq⟩ := pof_zero h
  obtain ⟨hv, hk⟩ := pof_valid h
  have hb := ok_padB hv
  rw [hq]
  simp [pofT, agreeC, agreeB, hr, hb, hk, hn]
end Go.Proofs.Ytgckamlibbjgcaa
