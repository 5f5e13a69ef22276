/- Plain mathematics of chapter 3's laws: a number plus its opposite, a product with the inverse, ends of sums, cuts, and the digits of the number for an integer. -/
import Derived.Test.YtmkelfkbbdfjdaaPadExp3
namespace Go.Proofs.Ytmkelfkbbdfjdaa
open Go.RowKit
set_option linter.unusedVariables false
theorem lim_zero {p v u n : Int} (h : limC p v u n = 0) : padB p v u n = true := by
  unfold limC at h; split at h
  · assumption
  · omega
theorem lim_or (p v u n : Int) : limC p v u n = 0 ∨ limC p v u n = 3 := by unfold limC; split <;> simp
theorem self_mod {p v u n : Int} (h : POk p v u n) : u % pw p n = u := by
  obtain ⟨_, _, _, _, _, _, h1, h2, _⟩ := pok_bd h
  exact Int.emod_eq_of_lt h1 h2
theorem sum_neg {p v u n : Int} (h : POk p v u n) :
    sumC p v u n p v (negU p u n) n = 0 ∧ sumQ p v u n p v (negU p u n) n = (p, v + n, 0, 0) ∨ sumC p v u n p v (negU p u n) n = 3 := by
  have ht := twoC_ok h (neg_ok h)
  have hn := (pok_bd h).2.2.1
  have ha := add_neg (k := n) h hn (Int.le_refl _) (Or.inl rfl)
  rw [self_mod h] at ha
  have hc : sumC p v u n p v (negU p u n) n = limC p (v + n) 0 0 := by simp [sumC, ht, ha]
  have hq : sumQ p v u n p v (negU p u n) n = resQ p (v + n) 0 0 := by simp [sumQ, ht, ha]
  rcases lim_or p (v + n) 0 0 with h0 | h3
  · exact .inl ⟨by rw [hc, h0], by rw [hq]; simp [resQ, lim_zero h0]⟩
  · exact .inr (by rw [hc, h3])
theorem sum_ok {p v u n q v' u' n' : Int} (h : sumC p v u n q v' u' n' = 0) :
    p = q ∧ POk p v u n ∧ POk q v' u' n' ∧ padB (sumQ p v u n q v' u' n').1 (sumQ p v u n q v' u' n').2.1 (sumQ p v u n q v' u' n').2.2.1 (sumQ p v u n q v' u' n').2.2.2 = true ∧
    sumQ q v' u' n' p v u n = sumQ p v u n q v' u' n' ∧ sumC q v' u' n' p v u n = 0 ∧ (sumQ p v u n q v' u' n').2.1 + (sumQ p v u n q v' u' n').2.2.2 = min (v + n) (v' + n') := by
  by_cases ht : twoC p v u n q v' u' n' = 0
  · obtain ⟨hx, hy, rfl⟩ := twoC_zero ht
    have hs : sumC p v u n p v' u' n' = limC p (addT p v u n v' u' n').1 (addT p v u n v' u' n').2.1 (addT p v u n v' u' n').2.2 := by simp [sumC, ht]
    rw [hs] at h
    have hb := lim_zero h
    have hq : sumQ p v u n p v' u' n' = (p, (addT p v u n v' u' n').1, (addT p v u n v' u' n').2.1, (addT p v u n v' u' n').2.2) := by simp [sumQ, ht, resQ, hb]
    have ht' := twoC_ok hy hx
    have hc := add_comm_pad hx hy
    have hq' : sumQ p v' u' n' p v u n = sumQ p v u n p v' u' n' := by rw [hq]; simp [sumQ, ht', resQ, ← hc, hb]
    have hs' : sumC p v' u' n' p v u n = 0 := by simp [sumC, ht', ← hc, h]
    refine ⟨rfl, hx, hy, by rw [hq]; exact hb, hq', hs', ?_⟩
    rw [hq]
    exact add_end p v u n v' u' n'
  · simp [sumC, ht] at h
theorem end_of {p v u n : Int} (h : padB p v u n = true) : endV p v u n = v + n ∧ negC p v u n = 0 := by simp [endV, negC, h]
theorem dvd_pw {p k : Int} (hk : 1 ≤ k) : p ∣ pw p k := by
  have e := pw_add (p := p) (a := k - 1) (b := 1) (by omega) (by omega)
  rw [show k - 1 + 1 = k by omega, pw_one] at e
  exact ⟨pw p (k - 1), by rw [e, Int.mul_comm]⟩
theorem cut_ok {p v u n k : Int} (h : cutC p v u n k = 0) :
    POk p v u n ∧ 1 ≤ k ∧ k ≤ n ∧ cutQ p v u n k = (p, v, u % pw p k, k) ∧ POk p v (u % pw p k) k ∧
    (eqC p v u n p v (u % pw p k) k = 0 ∧ eqV p v u n p v (u % pw p k) k = v + k ∨ eqC p v u n p v (u % pw p k) k = 3) := by
  unfold cutC at h
  split at h
  · rename_i hb
    have hx := padB_ok hb
    split at h
    · rename_i hk
      obtain ⟨hp2, hp97, hn0, hn1, hm0, hm1, hu0, hu1, hu2⟩ := pok_bd hx
      have hpart := pw_part (p := p) (n := n) (e := k) hp2 hm1 hk.2
      have hn : n ≠ 0 := by omega
      obtain ⟨_, _, _, _, _, hup⟩ := pok_ring hx hn
      have hd : u % pw p k % p = u % p := Int.emod_emod_of_dvd _ (dvd_pw hk.1)
      have r0 := Int.emod_nonneg u (show pw p k ≠ 0 by omega)
      have r1 := Int.emod_lt_of_pos u (show 0 < pw p k by omega)
      have r2 : u % pw p k ≠ 0 := by
        intro hz; rw [hz] at hd; apply hup; rw [← hd]; rfl
      have hD : POk p v (u % pw p k) k := ⟨hx.1, hx.2.1, hx.2.2.1, by omega, hpart.2, .inr ⟨hk.1, by omega, r1, by rw [hd]; exact hup⟩⟩
      have ht := twoC_ok hx hD
      have ha : difT p v u n v (u % pw p k) k = (v + k, 0, 0) := add_neg hx (by omega) hk.2 (Or.inr hk.1)
      have hc : eqC p v u n p v (u % pw p k) k = limC p (v + k) 0 0 := by simp [eqC, ht, ha]
      have hv : eqV p v u n p v (u % pw p k) k = (resQ p (v + k) 0 0).2.1 := by simp [eqV, ht, ha]
      refine ⟨hx, hk.1, hk.2, by simp [cutQ, hb, hk], hD, ?_⟩
      rcases lim_or p (v + k) 0 0 with h0 | h3
      · exact .inl ⟨by rw [hc, h0], by rw [hv]; simp [resQ, lim_zero h0]⟩
      · exact .inr (by rw [hc, h3])
    · omega
  · omega
theorem inv_ok {p v u n : Int} (h : invC p v u n = 0) :
    POk p v u n ∧ invQ p v u n = (p, -v, invV p n u, n) ∧ proC p v u n p (-v) (invV p n u) n = 0 ∧ proQ p v u n p (-v) (invV p n u) n = (p, 0, 1, n) := by
  unfold invC at h
  split at h
  · rename_i hb
    have hx := padB_ok hb
    split at h
    · omega
    · rename_i hn
      obtain ⟨e1, e2, e3, e4, e5, e6⟩ := pok_ring hx hn
      obtain ⟨hp2, hp97, _, _, hm1, hm2, _⟩ := ringM_bd e2
      have hi : invV p n u = bezX u (ringM p n) % ringM p n := by
        have : unitC p n u = 0 := by simp [unitC, resC, e2, show 0 ≤ u by omega, e5, e6]
        simp [invV, this]
      have i0 := Int.emod_nonneg (bezX u (ringM p n)) e2
      have i1 := Int.emod_lt_of_pos (bezX u (ringM p n)) (show 0 < ringM p n by omega)
      rw [← hi] at i0 i1
      have hm := bez_inverse (a := u) (m := ringM p n) (by omega) e5 hm1 hm2 (coprime_ring e2 e6)
      rw [← hi] at hm
      have hQ : invQ p v u n = (p, -v, invV p n u, n) := by simp [invQ, hb, hn]
      generalize invV p n u = g at *
      have hg : g % p ≠ 0 := by
        intro hz
        have h1 : u * g % p = 0 := by rw [Int.mul_emod, hz, Int.mul_zero]; rfl
        have h2 : u * g % ringM p n % p = u * g % p := emod_ringM e2
        rw [hm, h1, Int.emod_eq_of_lt (by omega) (by omega)] at h2
        omega
      have hg1 : 1 ≤ g := by
        apply Classical.byContradiction; intro hc
        have : g = 0 := by omega
        apply hg; rw [this]; rfl
      have hI : POk p (-v) g n := ⟨hx.1, by have := hx.2.2.1; omega, by have := hx.2.1; omega, hx.2.2.2.1, hx.2.2.2.2.1, .inr ⟨e3, hg1, by omega, hg⟩⟩
      have ht := twoC_ok hx hI
      have hN : mulN n n = n := by unfold mulN; omega
      have hU : mulU p u n g n = 1 := by unfold mulU; rw [hN, ← e1]; exact hm
      have h1 : padB p 0 1 n = true := ok_padB ⟨hx.1, by omega, by omega, hx.2.2.2.1, hx.2.2.2.2.1, .inr ⟨e3, by omega, by omega, by rw [Int.emod_eq_of_lt (by omega) (by omega)]; omega⟩⟩
      have hz : v + -v = 0 := by omega
      refine ⟨hx, hQ, by simp [proC, ht, hN, hU, hz, limC, h1], by simp [proQ, ht, hN, hU, hz, resQ, h1]⟩
  · omega
theorem pro_ok {p v u n q v' u' n' : Int} (h : proC p v u n q v' u' n' = 0) :
    POk p v u n ∧ POk q v' u' n' ∧ (proQ p v u n q v' u' n').2.1 = v + v' ∧ (proQ p v u n q v' u' n').2.2.2 = min n n' := by
  by_cases ht : twoC p v u n q v' u' n' = 0
  · obtain ⟨hx, hy, rfl⟩ := twoC_zero ht
    have hs : proC p v u n p v' u' n' = limC p (v + v') (mulU p u n u' n') (mulN n n') := by simp [proC, ht]
    rw [hs] at h
    have hb := lim_zero h
    have hq : proQ p v u n p v' u' n' = (p, v + v', mulU p u n u' n', mulN n n') := by simp [proQ, ht, resQ, hb]
    exact ⟨hx, hy, by rw [hq], by rw [hq]; rfl⟩
  · simp [proC, ht] at h
theorem dig_ok {p v u n k : Int} (h : digC p v u n k = 0) : 0 ≤ digV p v u n k ∧ digV p v u n k < p := by
  unfold digC at h
  split at h
  · rename_i hb
    obtain ⟨hp2, _⟩ := pok_bd (padB_ok hb)
    split at h
    · omega
    · rename_i he
      by_cases hl : k < v
      · have : digV p v u n k = 0 := by simp [digV, hl]
        omega
      · have : digV p v u n k = u / pw p (k - v) % p := by simp [digV, hb, he, hl]
        rw [this]
        exact ⟨Int.emod_nonneg _ (by omega), Int.emod_lt_of_pos _ (by omega)⟩
  · omega
theorem made_ok {p m k : Int} (h : madeC p m k = 0) :
    2 ≤ p ∧ p ≤ 97 ∧ -1000000000000 ≤ m ∧ m ≤ 1000000000000 ∧ padB (madeQ p m k).1 (madeQ p m k).2.1 (madeQ p m k).2.2.1 (madeQ p m k).2.2.2 = true ∧
    digC (madeQ p m k).1 (madeQ p m k).2.1 (madeQ p m k).2.2.1 (madeQ p m k).2.2.2 0 = 0 ∧ digV (madeQ p m k).1 (madeQ p m k).2.1 (madeQ p m k).2.2.1 (madeQ p m k).2.2.2 0 = m % p := by
  unfold madeC at h
  split at h
  · omega
  · rename_i h0
    split at h
    · rename_i hv
      have hb : valueB m = true ∧ m ≠ 0 := by simpa using hv
      have hvb := valueB_bd hb.1
      obtain ⟨hp2, hp97, hk1, hk2, hm1, hm2, _⟩ := ringM_bd h0
      have hs := (ringM_in h0).1
      obtain ⟨a, b, c0, c1⟩ := pad_val hp2 hb.2 (by omega)
      have hq : madeQ p m k = (p, valCount m p, valRest m p % ringM p k, k) := by simp [madeQ, h0, hb.1, hb.2]
      have hM := pw_ringM h0
      have hd : valRest m p % ringM p k % p = valRest m p % p := emod_ringM h0
      have hne : valRest m p % p ≠ 0 := by
        intro hz; apply b
        exact Int.tmod_eq_zero_of_dvd (Int.dvd_of_emod_eq_zero hz)
      have r0 := Int.emod_nonneg (valRest m p) h0
      have r1 := Int.emod_lt_of_pos (valRest m p) (show 0 < ringM p k by omega)
      have r2 : valRest m p % ringM p k ≠ 0 := by
        intro hz; rw [hz] at hd; apply hne; rw [← hd]; rfl
      have hok : POk p (valCount m p) (valRest m p % ringM p k) k := ⟨hs, by omega, by omega, by omega, by omega, .inr ⟨hk1, by omega, by omega, by rw [hd]; exact hne⟩⟩
      have hpb := ok_padB hok
      have he : ¬ valCount m p + k ≤ 0 := by omega
      rw [hq]
      refine ⟨hp2, hp97, hvb.1, hvb.2, hpb, by simp [digC, hpb, he], ?_⟩
      show digV p (valCount m p) (valRest m p % ringM p k) k 0 = m % p
      by_cases hc : 0 < valCount m p
      · have e1 : digV p (valCount m p) (valRest m p % ringM p k) k 0 = 0 := by simp [digV, hc]
        rw [e1]
        have hdv : p ∣ m := by
          obtain ⟨x, hx⟩ := dvd_pw (p := p) (k := valCount m p) (by omega)
          exact ⟨valRest m p * x, by rw [← a]; rw [hx]; grind⟩
        exact (Int.emod_eq_zero_of_dvd hdv).symm
      · have hz : valCount m p = 0 := by omega
        rw [hz, pw_zero, Int.mul_one] at a
        have e1 : digV p (valCount m p) (valRest m p % ringM p k) k 0 = valRest m p % ringM p k / pw p (0 - valCount m p) % p := by simp only [digV, hpb, he, hc, if_true, if_false]
        rw [e1, hz, show (0 : Int) - 0 = 0 by omega, pw_zero, Int.ediv_one, hd, a]
    · omega
end Go.Proofs.Ytmkelfkbbdfjdaa
