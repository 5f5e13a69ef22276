/- Plain mathematics of chapter 3: valid numbers, powers of the prime, sums, opposites, products, cuts, digits. Conditions: primes from 2 to 97, moduli to 10^9. -/
import Derived.Test.YtmkelfkbbdfjdaaRingMath
import Derived.Test.YtmkelfkbbdfjdaaOrdMath2
import Derived.Test.YtmkelfkbbdfjdaaBezPos
namespace Go.Proofs.Ytmkelfkbbdfjdaa
open Go.RowKit
set_option linter.unusedVariables false
def pw (p e : Int) : Int := p ^ e.toNat
theorem pw_zero (p : Int) : pw p 0 = 1 := by simp [pw]
theorem pw_one (p : Int) : pw p 1 = p := by simp [pw, Int.pow_succ]
theorem pw_add {p a b : Int} (ha : 0 ≤ a) (hb : 0 ≤ b) : pw p (a + b) = pw p a * pw p b := by
  unfold pw; rw [show (a + b).toNat = a.toNat + b.toNat by omega, Int.pow_add]
theorem pw_ge1 {p a : Int} (hp : 2 ≤ p) : 1 ≤ pw p a := pow_ge1 hp _
theorem pw_mono {p a b : Int} (hp : 2 ≤ p) (h : a ≤ b) : pw p a ≤ pw p b := pow_le hp (by omega)
theorem pw_29 {p a : Int} (hp : 2 ≤ p) (h : pw p a ≤ 1000000000) : a ≤ 29 := by have := pow_29 hp h; omega
theorem ringM_pw {p n : Int} (hs : smallB p = true) (hn : 1 ≤ n) (h : pw p n ≤ 1000000000) : ringM p n = pw p n := by
  unfold ringM; rw [hs, decide_eq_true hn, decide_eq_true (show p ^ n.toNat ≤ 1000000000 from h)]; rfl
theorem pw_ringM {p n : Int} (h : ringM p n ≠ 0) : ringM p n = pw p n := (ringM_in h).2.2.2
/-- a valid number -/
def POk (p v u n : Int) : Prop :=
  smallB p = true ∧ -60 ≤ v ∧ v ≤ 60 ∧ 0 ≤ n ∧ pw p n ≤ 1000000000 ∧ (n = 0 ∧ u = 0 ∨ 1 ≤ n ∧ 1 ≤ u ∧ u < pw p n ∧ u % p ≠ 0)
def unitB (p u n : Int) : Bool := decide (ringM p n ≠ 0) && (inB u 1 (ringM p n - 1) && !(u % p == 0))
def padB (p v u n : Int) : Bool := smallB p && (inB v (-60) 60 && (if n = 0 then u == 0 else unitB p u n))
theorem padB_ok {p v u n : Int} (h : padB p v u n = true) : POk p v u n := by
  unfold padB at h
  simp only [Bool.and_eq_true] at h
  obtain ⟨h1, h2, h3⟩ := h
  have hv : -60 ≤ v ∧ v ≤ 60 := by simpa [inB] using h2
  have hp := smallB_bd h1
  split at h3
  · rename_i h0
    subst h0
    exact ⟨h1, hv.1, hv.2, by omega, by rw [pw_zero]; omega, .inl ⟨rfl, by simpa using h3⟩⟩
  · unfold unitB at h3
    simp only [Bool.and_eq_true, decide_eq_true_eq] at h3
    obtain ⟨h4, h5, h6⟩ := h3
    have e := pw_ringM h4
    obtain ⟨_, _, b1, _, _, b2, _⟩ := ringM_bd h4
    have hu : 1 ≤ u ∧ u ≤ ringM p n - 1 := by simpa [inB] using h5
    exact ⟨h1, hv.1, hv.2, by omega, by omega, .inr ⟨b1, hu.1, by omega, by simpa using h6⟩⟩
theorem ok_padB {p v u n : Int} (h : POk p v u n) : padB p v u n = true := by
  obtain ⟨h1, h2, h3, h4, h5, h6⟩ := h
  unfold padB
  rw [h1, inB_t h2 h3]
  rcases h6 with ⟨rfl, rfl⟩ | ⟨h7, h8, h9, h10⟩
  · rfl
  · have e := ringM_pw h1 h7 h5
    have hp := pw_ge1 (a := n) (smallB_bd h1).1
    rw [if_neg (by omega), unitB, decide_eq_true (by omega), inB_t h8 (by omega)]
    simp [h10]
theorem padB_false {p v u n : Int} (h : ¬ POk p v u n) : padB p v u n = false := by
  cases hb : padB p v u n
  · rfl
  · exact absurd (padB_ok hb) h
theorem pok_bd {p v u n : Int} (h : POk p v u n) : 2 ≤ p ∧ p ≤ 97 ∧ 0 ≤ n ∧ n ≤ 29 ∧ 1 ≤ pw p n ∧ pw p n ≤ 1000000000 ∧ 0 ≤ u ∧ u < pw p n ∧ u ≤ 1000000000 := by
  obtain ⟨h1, h2, h3, h4, h5, h6⟩ := h
  obtain ⟨hp, hq⟩ := smallB_bd h1
  have := pw_29 hp h5
  have hg := pw_ge1 (a := n) hp
  rcases h6 with ⟨rfl, rfl⟩ | ⟨h7, h8, h9, h10⟩
  · exact ⟨hp, hq, by omega, by omega, hg, h5, by omega, by omega, by omega⟩
  · exact ⟨hp, hq, by omega, by omega, hg, h5, by omega, by omega, by omega⟩
theorem pok_ring {p v u n : Int} (h : POk p v u n) (hn : n ≠ 0) : ringM p n = pw p n ∧ ringM p n ≠ 0 ∧ 1 ≤ n ∧ 1 ≤ u ∧ u < ringM p n ∧ u % p ≠ 0 := by
  have hb := pok_bd h
  obtain ⟨h1, h2, h3, h4, h5, h6⟩ := h
  rcases h6 with ⟨h0, _⟩ | ⟨h7, h8, h9, h10⟩
  · exact absurd h0 hn
  · have e := ringM_pw h1 h7 h5
    exact ⟨e, by omega, h7, h8, by omega, h10⟩
theorem pok_zero {p v u n : Int} (h : POk p v u n) (hn : n = 0) : u = 0 := by
  rcases h.2.2.2.2.2 with ⟨_, h⟩ | ⟨h, _⟩
  · exact h
  · omega
/-- the code of two numbers -/
def twoC (p v u n q v' u' n' : Int) : Int := if padB p v u n && padB q v' u' n' then (if p = q then 0 else 5) else 1
theorem twoC_zero {p v u n q v' u' n' : Int} (h : twoC p v u n q v' u' n' = 0) : POk p v u n ∧ POk q v' u' n' ∧ p = q := by
  unfold twoC at h
  split at h
  · rename_i hb
    simp only [Bool.and_eq_true] at hb
    split at h
    · rename_i e; exact ⟨padB_ok hb.1, padB_ok hb.2, e⟩
    · omega
  · omega
theorem twoC_ok {p v u n v' u' n' : Int} (h : POk p v u n) (h' : POk p v' u' n') : twoC p v u n p v' u' n' = 0 := by
  simp [twoC, ok_padB h, ok_padB h']
/-- a power that is a modulus of a number -/
theorem pw_part {p n e : Int} (hp : 2 ≤ p) (h : pw p n ≤ 1000000000) (he : e ≤ n) : 1 ≤ pw p e ∧ pw p e ≤ 1000000000 := by
  have := pw_mono (p := p) hp he
  have := pw_ge1 (a := e) hp
  omega
/-- the sum where the first valuation is at most the second -/
def addE (v n v' n' : Int) : Int := min (v + n) (v' + n')
def addS (p v u n v' u' n' : Int) : Int := if v' < addE v n v' n' then u + u' * pw p (v' - v) else u
def addR (p v u n v' u' n' : Int) : Int := addS p v u n v' u' n' % pw p (addE v n v' n' - v)
def add0 (p v u n v' u' n' : Int) : Int × Int × Int :=
  if addR p v u n v' u' n' = 0 then (addE v n v' n', 0, 0)
  else (v + valCount (addR p v u n v' u' n') p, valRest (addR p v u n v' u' n') p, addE v n v' n' - (v + valCount (addR p v u n v' u' n') p))
def addT (p v u n v' u' n' : Int) : Int × Int × Int := if v' < v then add0 p v' u' n' v u n else add0 p v u n v' u' n'
theorem addT_swap {p v u n v' u' n' : Int} (h : v' < v) : addT p v u n v' u' n' = add0 p v' u' n' v u n := by simp [addT, h]
theorem addT_stay {p v u n v' u' n' : Int} (h : ¬ v' < v) : addT p v u n v' u' n' = add0 p v u n v' u' n' := by simp [addT, h]
/-- what the walk of a sum needs -/
theorem add_facts {p v u n v' u' n' : Int} (h : POk p v u n) (h' : POk p v' u' n') (hv : v ≤ v') :
    v ≤ addE v n v' n' ∧ addE v n v' n' ≤ v + n ∧ 0 ≤ addE v n v' n' - v ∧ addE v n v' n' - v ≤ 29 ∧ -60 ≤ addE v n v' n' ∧ addE v n v' n' ≤ 89 ∧
    1 ≤ pw p (addE v n v' n' - v) ∧ pw p (addE v n v' n' - v) ≤ 1000000000 ∧
    0 ≤ addS p v u n v' u' n' ∧ addS p v u n v' u' n' ≤ 1000000001000000000 ∧
    0 ≤ addR p v u n v' u' n' ∧ addR p v u n v' u' n' < 1000000000 ∧
    (v' < addE v n v' n' → 1 ≤ pw p (v' - v) ∧ pw p (v' - v) ≤ 1000000000 ∧ 0 ≤ u' * pw p (v' - v) ∧ u' * pw p (v' - v) ≤ 1000000000000000000) := by
  obtain ⟨hp, hq, hn0, hn1, hm0, hm1, hu0, hu1, hu2⟩ := pok_bd h
  obtain ⟨_, _, hn0', hn1', hm0', hm1', hu0', hu1', hu2'⟩ := pok_bd h'
  have hb := h.2.1
  have hb2 := h.2.2.1
  have e1 : addE v n v' n' ≤ v + n := Int.min_le_left ..
  have e2 : v ≤ addE v n v' n' := by unfold addE; omega
  have hP := pw_part (p := p) (n := n) (e := addE v n v' n' - v) hp hm1 (by omega)
  have hX : v' < addE v n v' n' → 1 ≤ pw p (v' - v) ∧ pw p (v' - v) ≤ 1000000000 ∧ 0 ≤ u' * pw p (v' - v) ∧ u' * pw p (v' - v) ≤ 1000000000000000000 := by
    intro hlt
    have hQ := pw_part (p := p) (n := n) (e := v' - v) hp hm1 (by omega)
    refine ⟨hQ.1, hQ.2, Int.mul_nonneg hu0' (by omega), ?_⟩
    have := Int.mul_le_mul hu2' hQ.2 (by omega) (by omega)
    omega
  have hS : 0 ≤ addS p v u n v' u' n' ∧ addS p v u n v' u' n' ≤ 1000000001000000000 := by
    unfold addS
    split
    · rename_i hlt; obtain ⟨_, _, a, b⟩ := hX hlt; omega
    · omega
  have r1 := Int.emod_nonneg (addS p v u n v' u' n') (show pw p (addE v n v' n' - v) ≠ 0 by omega)
  have r2 := Int.emod_lt_of_pos (addS p v u n v' u' n') (show 0 < pw p (addE v n v' n' - v) by omega)
  exact ⟨e2, e1, by omega, by omega, by omega, by omega, hP.1, hP.2, hS.1, hS.2, r1, by unfold addR; omega, hX⟩
theorem spec_sum {p u u' a b : Int} (hp : 2 ≤ p) (ha : 0 ≤ a) (hb : 0 ≤ b) : (u + u' % pw p b * pw p a) % pw p (a + b) = (u + u' * pw p a) % pw p (a + b) := by
  apply emod_of_dvd_sub
  rw [pw_add ha hb]
  refine ⟨-(u' / pw p b), ?_⟩
  have := Int.emod_add_mul_ediv u' (pw p b)
  have e : u' % pw p b = u' - pw p b * (u' / pw p b) := by omega
  rw [e]; grind
theorem addE_comm (v n v' n' : Int) : addE v n v' n' = addE v' n' v n := by unfold addE; omega
theorem add_comm_pad {p v u n v' u' n' : Int} (h : POk p v u n) (h' : POk p v' u' n') : addT p v u n v' u' n' = addT p v' u' n' v u n := by
  by_cases h1 : v' < v
  · rw [addT_swap h1, addT_stay (by omega)]
  · by_cases h2 : v < v'
    · rw [addT_stay h1, addT_swap h2]
    · obtain rfl : v = v' := by omega
      rw [addT_stay h1, addT_stay h1]
      have hR : addR p v u n v u' n' = addR p v u' n' v u n := by
        have hE := addE_comm v n v n'
        unfold addR addS
        rw [← hE]
        split
        · rw [show v - v = 0 by omega, pw_zero, Int.mul_one, Int.mul_one, Int.add_comm]
        · have hp := (pok_bd h).2.2.1
          have hp' := (pok_bd h').2.2.1
          have e0 : addE v n v n' - v = 0 := by rename_i hlt; unfold addE at hlt ⊢; omega
          rw [e0, pw_zero]; omega
      unfold add0
      rw [hR, addE_comm v n v n']
/-- the end of a sum -/
theorem add_end (p v u n v' u' n' : Int) : (addT p v u n v' u' n').1 + (addT p v u n v' u' n').2.2 = addE v n v' n' := by
  have h0 : ∀ v u n v' u' n' : Int, (add0 p v u n v' u' n').1 + (add0 p v u n v' u' n').2.2 = addE v n v' n' := by
    intro v u n v' u' n'
    unfold add0
    split
    · simp
    · simp only; omega
  by_cases h1 : v' < v
  · rw [addT_swap h1, h0, addE_comm]
  · rw [addT_stay h1, h0]
/-- the opposite unit -/
def negU (p u n : Int) : Int := -u % pw p n
theorem negU_zero {p v u n : Int} (h : POk p v u n) (hn : n = 0) : negU p u n = u := by
  have := pok_zero h hn
  subst hn; subst this; unfold negU; rw [pw_zero]; rfl
theorem negU_sub {p v u n : Int} (h : POk p v u n) (hn : n ≠ 0) : negU p u n = ringM p n - u := by
  obtain ⟨e, h0, h1, h2, h3, h4⟩ := pok_ring h hn
  unfold negU
  rw [← e, ← Int.add_emod_right, Int.emod_eq_of_lt (by omega) (by omega)]; omega
theorem dvd_ringM {p n : Int} (h : ringM p n ≠ 0) : p ∣ ringM p n := by
  obtain ⟨j, _, e, _⟩ := ringM_succ h
  rw [e]; exact ⟨p ^ j, Int.mul_comm _ _⟩
theorem emod_ringM {p n a : Int} (h : ringM p n ≠ 0) : a % ringM p n % p = a % p := Int.emod_emod_of_dvd _ (dvd_ringM h)
theorem neg_ok {p v u n : Int} (h : POk p v u n) : POk p v (negU p u n) n := by
  by_cases hn : n = 0
  · rw [negU_zero h hn]; exact h
  · obtain ⟨e, h0, h1, h2, h3, h4⟩ := pok_ring h hn
    have hs := negU_sub h hn
    refine ⟨h.1, h.2.1, h.2.2.1, h.2.2.2.1, h.2.2.2.2.1, .inr ⟨h1, by omega, by omega, ?_⟩⟩
    unfold negU
    rw [← e, emod_ringM h0]
    intro hz
    apply h4
    have hd := Int.dvd_of_emod_eq_zero hz
    exact Int.emod_eq_zero_of_dvd (Int.dvd_neg.1 hd)
/-- a number and its opposite, the second with fewer digits: a zero -/
theorem add_neg {p v u n k : Int} (h : POk p v u n) (hk0 : 0 ≤ k) (hkn : k ≤ n) (hk : k = n ∨ 1 ≤ k) : addT p v u n v (negU p (u % pw p k) k) k = (v + k, 0, 0) := by
  have hp := (pok_bd h).1
  have hE : addE v n v k = v + k := by unfold addE; omega
  have hz : addR p v u n v (negU p (u % pw p k) k) k = 0 := by
    unfold addR addS
    rw [hE, show v + k - v = k by omega]
    split
    · rw [show v - v = 0 by omega, pw_zero, Int.mul_one]
      unfold negU
      have a := Int.emod_add_mul_ediv u (pw p k)
      have b := Int.emod_add_mul_ediv (-(u % pw p k)) (pw p k)
      refine Int.emod_eq_zero_of_dvd ⟨u / pw p k - -(u % pw p k) / pw p k, ?_⟩
      rw [Int.mul_sub]; omega
    · rename_i hlt
      obtain rfl : k = 0 := by omega
      rw [pw_zero]; omega
  rw [addT_stay (by omega), add0, if_pos hz, hE]
/-- how often p divides n, and what remains -/
theorem pad_rel {n p : Int} (hp : 2 ≤ p) : ∀ (f : Nat) (m c : Int), VRel n p m c → m * p ^ c.toNat = n → m.natAbs ≤ f →
    valRest n p * p ^ (valCount n p).toNat = n ∧ (valRest n p).tmod p ≠ 0 ∧ c ≤ valCount n p ∧ valCount n p ≤ n.natAbs := by
  intro f
  induction f with
  | zero => intro m c h _ hf; have := h.1; omega
  | succ f ih =>
    intro m c h hm hf
    by_cases h0 : m.tmod p = 0
    · obtain ⟨h2, h3⟩ := vRel_step hp h h0
      have e := Int.tmod_add_mul_tdiv m p
      rw [h0] at e
      have hc := h.2.1
      obtain ⟨a, b, c', d⟩ := ih _ _ h2 (by
        rw [← hm, show (c + 1).toNat = c.toNat + 1 by omega, Int.pow_succ]
        have e2 : m = p * m.tdiv p := by omega
        calc m.tdiv p * (p ^ c.toNat * p) = (p * m.tdiv p) * p ^ c.toNat := by grind
          _ = m * p ^ c.toNat := by rw [← e2]) (by omega)
      exact ⟨a, b, by omega, d⟩
    · obtain ⟨e1, e2⟩ := vRel_end h h0
      rw [← e1, ← e2]
      exact ⟨hm, h0, Int.le_refl _, by have := h.2.2.1; omega⟩
theorem pad_val {n p : Int} (hp : 2 ≤ p) (h0 : n ≠ 0) (h1 : n.natAbs ≤ 1000000000000) :
    valRest n p * pw p (valCount n p) = n ∧ (valRest n p).tmod p ≠ 0 ∧ 0 ≤ valCount n p ∧ valCount n p ≤ 39 := by
  obtain ⟨a, b, c, d⟩ := pad_rel hp n.natAbs n 0 (vRel_start h0 h1) (by simp) (Nat.le_refl _)
  refine ⟨a, b, c, ?_⟩
  have hr : 1 ≤ (valRest n p).natAbs := by
    have : valRest n p ≠ 0 := by intro hz; rw [hz] at b; simp at b
    omega
  have e : (valRest n p).natAbs * (p ^ (valCount n p).toNat).natAbs = n.natAbs := by rw [← Int.natAbs_mul, a]
  have hle : (p ^ (valCount n p).toNat).natAbs ≤ n.natAbs := by
    have := Nat.mul_le_mul_right (p ^ (valCount n p).toNat).natAbs hr
    omega
  refine Classical.byContradiction fun hn => ?_
  have g1 := two_pow_le hp (valCount n p).toNat
  have g2 := pow_le (p := 2) (by omega) (show 40 ≤ (valCount n p).toNat by omega)
  have g3 : (2 : Int) ^ 40 = 1099511627776 := by decide
  have g4 := pow_ge1 hp (valCount n p).toNat
  omega
/-- it divides on exactly while fewer than valCount steps are done -/
theorem pad_more {n p m c : Int} (hp : 2 ≤ p) (h : VRel n p m c) : (m.tmod p = 0 ↔ c < valCount n p) ∧ c ≤ valCount n p := by
  have le : ∀ (f : Nat) (m c : Int), VRel n p m c → m.natAbs ≤ f → c ≤ valCount n p := by
    intro f
    induction f with
    | zero => intro m c h hf; have := h.1; omega
    | succ f ih =>
      intro m c h hf
      by_cases h0 : m.tmod p = 0
      · obtain ⟨h2, h3⟩ := vRel_step hp h h0
        have := ih _ _ h2 (by omega)
        omega
      · have := (vRel_end h h0).1; omega
  refine ⟨⟨fun h0 => ?_, fun hlt => ?_⟩, le _ m c h (Nat.le_refl _)⟩
  · obtain ⟨h2, h3⟩ := vRel_step hp h h0
    have := le _ _ _ h2 (Nat.le_refl _)
    omega
  · by_cases h0 : m.tmod p = 0
    · exact h0
    · have := (vRel_end h h0).1; omega
/-- what the walk of a sum needs when the sum is not 0 -/
theorem add_rest {p v u n v' u' n' : Int} (h : POk p v u n) (h' : POk p v' u' n') (hv : v ≤ v') (h0 : addR p v u n v' u' n' ≠ 0) :
    (addR p v u n v' u' n').natAbs ≤ 1000000000000 ∧ 0 ≤ valCount (addR p v u n v' u' n') p ∧ valCount (addR p v u n v' u' n') p ≤ 39 := by
  obtain ⟨_, _, _, _, _, _, _, _, _, _, r0, r1, _⟩ := add_facts h h' hv
  have hb : (addR p v u n v' u' n').natAbs ≤ 1000000000000 := by omega
  obtain ⟨_, _, c0, c1⟩ := pad_val (pok_bd h).1 h0 hb
  exact ⟨hb, c0, c1⟩
end Go.Proofs.Ytmkelfkbbdfjdaa
