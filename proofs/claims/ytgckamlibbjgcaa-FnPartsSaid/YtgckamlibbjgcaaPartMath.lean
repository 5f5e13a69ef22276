/- Plain mathematics of the law FnParts: a number is the sum of its fraction and its whole part. -/
import Derived.Test.YtgckamlibbjgcaaDigImpl
import Derived.Test.YtgckamlibbjgcaaRatPof
namespace Go.Proofs.Ytgckamlibbjgcaa
open Go.RowKit
set_option linter.unusedVariables false
/-- the whole part, as its three numbers -/
theorem whole_ok {p v u n : Int} (h : POk p v u n) (he : 0 ≤ v + n) (hv : ¬ 0 ≤ v) : ∃ c s m : Int, numT p 0 (u / pw p (-v)) (v + n) = (c, s, m) ∧ POk p c s m ∧ 0 ≤ c ∧ c + m = v + n ∧
    (c < v + n → s * pw p c = u / pw p (-v)) ∧ (¬ c < v + n → u / pw p (-v) = 0) := by
  obtain ⟨hp2, hp97, hn0, hn1, hm0, hm1, hu0, hu1, hu2⟩ := pok_bd h
  obtain ⟨P1, P2, q0, q1, _, _, r0, r1, hn⟩ := part_facts h he hv
  have hv0 := h.2.1
  have hv1 := h.2.2.1
  have hsp : pw p n = pw p (v + n) * pw p (-v) := by rw [← pw_add he (by omega)]; congr 1; omega
  have hlt : u / pw p (-v) < pw p (v + n) := Int.ediv_lt_of_lt_mul (by omega) (by rw [← hsp]; exact hu1)
  generalize u / pw p (-v) = q at *
  by_cases hq : q = 0
  · refine ⟨v + n, 0, 0, by simp [numT, hq], ⟨h.1, by omega, by omega, by omega, by rw [pw_zero]; omega, .inl ⟨rfl, rfl⟩⟩, he, by omega, fun h => absurd h (by omega), fun _ => hq⟩
  · obtain ⟨e, hs, c0, c39⟩ := val_parts hp2 hq (by omega) (by omega)
    have ec : pw p (valCount q p) = p ^ (valCount q p).toNat := rfl
    rw [← ec] at e
    have hT : numT p 0 q (v + n) = (valCount q p, valRest q p, v + n - valCount q p) := by simp [numT, hq]
    generalize valCount q p = c at *
    generalize valRest q p = s at *
    have hc1 := pw_ge1 (p := p) (a := c) hp2
    have hs1 : 1 ≤ s := by
      by_cases hs1 : 1 ≤ s
      · exact hs1
      · have h2 : s * pw p c ≤ 0 * pw p c := Int.mul_le_mul_of_nonneg_right (by omega) (by omega)
        omega
    have hcq : pw p c ≤ q := by
      have h2 : 1 * pw p c ≤ s * pw p c := Int.mul_le_mul_of_nonneg_right hs1 (by omega)
      omega
    have hcv : c < v + n := by
      by_cases h3 : c < v + n
      · exact h3
      · have := pw_mono (p := p) hp2 (show v + n ≤ c by omega); omega
    have hsp2 : pw p (v + n) = pw p (v + n - c) * pw p c := by rw [← pw_add (by omega) c0]; congr 1; omega
    have hsl : s < pw p (v + n - c) := Int.lt_of_mul_lt_mul_right (a := pw p c) (by rw [← hsp2]; omega) (by omega)
    have hpp := pw_part (p := p) (n := n) (e := v + n - c) hp2 hm1 (by omega)
    exact ⟨c, s, v + n - c, hT, ⟨h.1, by omega, by omega, by omega, hpp.2, .inr ⟨by omega, hs1, hsl, hs⟩⟩, c0, by omega, fun _ => e.symm, fun h => absurd hcv h⟩
/-- what the law asks of the parts of a number with places below 0 -/
theorem parts_back {p v u n : Int} (h : POk p v u n) (he : 0 ≤ v + n) (hv : ¬ 0 ≤ v) : ∃ c s m : Int, numT p 0 (u / pw p (-v)) (v + n) = (c, s, m) ∧ 0 ≤ c ∧
    1 ≤ u % pw p (-v) ∧ u % pw p (-v) < pw p (-v) ∧ n ≠ 0 ∧ isRatB (u % pw p (-v)) (pw p (-v)) = true ∧
    pofC (u % pw p (-v)) (pw p (-v)) p n = 0 ∧ pofQ (u % pw p (-v)) (pw p (-v)) p n = (p, v, u % pw p (-v), n) ∧
    sumC p v (u % pw p (-v)) n p c s m = 0 ∧ sumQ p v (u % pw p (-v)) n p c s m = (p, v, u, n) := by
  obtain ⟨hp2, hp97, hn0, hn1, hm0, hm1, hu0, hu1, hu2⟩ := pok_bd h
  obtain ⟨P1, P2, q0, q1, _, _, r0, r1, hn⟩ := part_facts h he hv
  obtain ⟨_, hR, _, u1, _, hu⟩ := pok_ring h (by omega)
  obtain ⟨c, s, m, hT, hW, c0, hcm, k1, k2⟩ := whole_ok h he hv
  obtain ⟨g, g1⟩ := frac_coprime (k := -v) h (by omega) (by omega) (by omega)
  have hd : u % pw p (-v) % p = u % p := Int.emod_emod_of_dvd _ (dvd_pw (by omega))
  have hlt := Int.emod_lt_of_pos u (show 0 < pw p (-v) by omega)
  have hmon : pw p (-v) ≤ pw p n := pw_mono hp2 (by omega)
  have hrat : isRatB (u % pw p (-v)) (pw p (-v)) = true := isRat_mk (by omega) (by omega) (by omega) (by omega) g
  have hs := self_mod h
  have huq := Int.emod_add_mul_ediv u (pw p (-v))
  have hpow : pw p (-v) = 1 * p ^ (-v).toNat := by simp [pw]
  have hrm : ringM p n = pw p n := pw_ringM hR
  have hone : (1 : Int) % p ≠ 0 := by rw [Int.emod_eq_of_lt (by omega) (by omega)]; omega
  have hpof := pof_of (n := u % pw p (-v)) (d := pw p (-v)) (r := u % pw p (-v)) (s := 1) (u := u % pw p (-v)) (i := 0) (j := (-v).toNat) hR hrat (by simp) hpow (by rw [hd]; exact hu) hone r0 (by omega) (by simp)
  have hF : POk p v (u % pw p (-v)) n := ⟨h.1, h.2.1, h.2.2.1, hn0, hm1, .inr ⟨hn, g1, by omega, by rw [hd]; exact hu⟩⟩
  have hE : addE v n c m = v + n := by unfold addE; omega
  have hS : addS p v (u % pw p (-v)) n c s m = u := by
    unfold addS
    rw [hE]
    split
    · rename_i hl
      rw [show c - v = c + -v by omega, pw_add c0 (by omega), ← Int.mul_assoc, k1 hl, Int.mul_comm]; exact huq
    · rename_i hl
      rw [k2 hl] at huq; simpa using huq
  have hA : addR p v (u % pw p (-v)) n c s m = u := by unfold addR; rw [hS, hE, show v + n - v = n by omega]; exact hs
  obtain ⟨v1, v2⟩ := valCount_unit (u := u) (p := p) ((tmod_ne hp2).2 hu) (by omega) (by omega)
  have hadd : addT p v (u % pw p (-v)) n c s m = (v, u, n) := by
    rw [addT_stay (by omega), add0_num, hA, hE]
    unfold numT
    rw [if_neg (by omega), v1, v2]
    simp only [Int.add_zero, Prod.mk.injEq, true_and]; omega
  have ht := twoC_ok hF hW
  have hb := ok_padB h
  refine ⟨c, s, m, hT, c0, g1, hlt, by omega, hrat, hpof.1, ?_, ?_, ?_⟩
  · rw [hpof.2]; simp only [Prod.mk.injEq, true_and, and_true]; omega
  · simp [sumC, ht, hadd, limC, hb]
  · simp [sumQ, ht, hadd, resQ, hb]
end Go.Proofs.Ytgckamlibbjgcaa
