/- Plain mathematics of chapter 2, second part: Euler's rule, the order of a unit as the least exponent, what holds at the head of each round of the loops that take primes out, and the least primitive root. Conditions: primes from 2 to 97. -/
import Derived.Test.YtbjkcoajabcibaaOrdMath
namespace Go.Proofs.Ytbjkcoajabcibaa
open Go.RowKit
set_option linter.unusedVariables false
/-- the number of units of a ring -/
def unitN (p n : Int) : Int := ringM p n / p * (p - 1)
theorem ringM_succ {p n : Int} (h : ringM p n ≠ 0) : ∃ j : Nat, n.toNat = j + 1 ∧ ringM p n = p ^ j * p ∧ ringM p n / p = p ^ j := by
  obtain ⟨h1, h2, h3, h4⟩ := ringM_in h
  obtain ⟨hp, _⟩ := smallB_bd h1
  refine ⟨n.toNat - 1, by omega, ?_, ?_⟩
  · rw [h4, ← Int.pow_succ]; congr 1; omega
  · rw [h4, show n.toNat = n.toNat - 1 + 1 by omega, Int.pow_succ, Int.mul_ediv_cancel _ (by omega)]; rfl
theorem dvd_of_coprime_mul {k m n : Int} (h : Int.gcd k m = 1) (hd : k ∣ m * n) : k ∣ n := by
  rw [← Int.natAbs_dvd_natAbs] at hd ⊢
  rw [Int.natAbs_mul] at hd
  exact Nat.Coprime.dvd_of_dvd_mul_left h hd
/-- the divisors of a prime -/
theorem primeB_dvd {q : Int} {c : Nat} (h : primeB q = true) (h2 : 2 ≤ q) (hc : (c : Int) ∣ q) : c = 1 ∨ (c : Int) = q := by
  obtain ⟨Q, rfl⟩ : ∃ Q : Nat, q = Q := ⟨q.toNat, by omega⟩
  have hc' : c ∣ Q := by exact_mod_cast hc
  obtain ⟨d, rfl⟩ := hc'
  unfold primeB at h
  rw [List.all_eq_true] at h
  have hpos : 0 < c ∧ 0 < d := by
    constructor
    · rcases Nat.eq_zero_or_pos c with rfl | h'
      · simp at h2
      · exact h'
    · rcases Nat.eq_zero_or_pos d with rfl | h'
      · simp at h2
      · exact h'
  have key : ∀ x y : Nat, c * d = x * y → 2 ≤ x → x ≤ y → False := by
    intro x y hxy hx hle
    have h3 : x < c * d := by
      rw [hxy]
      have : x * 1 < x * y := Nat.mul_lt_mul_of_pos_left (by omega) (by omega)
      omega
    have h4 := h x (by rw [List.mem_range, Int.toNat_natCast]; exact h3)
    have h5 := of_decide_eq_true h4 hx
    have h6 : x * x ≤ c * d := by rw [hxy]; exact Nat.mul_le_mul_left x hle
    refine h5 (by exact_mod_cast h6) ?_
    rw [hxy]; exact_mod_cast Nat.mul_mod_right x y
  by_cases hc1 : c = 1
  · exact Or.inl hc1
  · right
    by_cases hd1 : d = 1
    · subst hd1; simp
    · exfalso
      rcases Nat.le_total c d with hle | hle
      · exact key c d rfl (by omega) hle
      · exact key d c (Nat.mul_comm c d) (by omega) hle
theorem coprime_of_not_dvd {p a : Int} (h : smallB p = true) (ha : a % p ≠ 0) : Int.gcd a p = 1 := by
  obtain ⟨hp, hq⟩ := smallB_bd h
  have hb : primeB p = true := by rw [← smallB_in hp hq]; exact h
  rcases primeB_dvd hb hp (Int.gcd_dvd_right a p) with h1 | h1
  · exact h1
  · exfalso; apply ha
    apply Int.emod_eq_zero_of_dvd
    rw [← h1]; exact Int.gcd_dvd_left a p
theorem coprime_ring {p n a : Int} (h : ringM p n ≠ 0) (ha : a % p ≠ 0) : Int.gcd a (ringM p n) = 1 := by
  obtain ⟨h1, h2, h3, h4⟩ := ringM_in h
  rw [h4]
  exact Int.gcd_pow_right_of_gcd_eq_one (coprime_of_not_dvd h1 ha)
theorem unitN_eq {p n : Int} (h : ringM p n ≠ 0) : ∃ j : Nat, n.toNat = j + 1 ∧ unitN p n = p ^ j * (p - 1) ∧ (unitN p n).toNat = p.toNat ^ j * (p.toNat - 1) ∧ 1 ≤ unitN p n ∧ unitN p n ≤ 1000000000 := by
  obtain ⟨j, h1, h2, h3⟩ := ringM_succ h
  obtain ⟨hp, _, _, _, _, hM, _⟩ := ringM_bd h
  have hj := pow_ge1 hp j
  have e : unitN p n = p ^ j * (p - 1) := by rw [unitN, h3]
  have h5 : p ^ j * (p - 1) = p ^ j * p - p ^ j := by rw [Int.mul_sub, Int.mul_one]
  refine ⟨j, h1, e, ?_, ?_, by omega⟩
  · rw [e]
    obtain ⟨P, rfl⟩ : ∃ P : Nat, p = P := ⟨p.toNat, by omega⟩
    rw [ipow_nat, show ((P : Int) - 1) = ((P - 1 : Nat) : Int) by omega, show (P : Int).toNat = P from rfl, ← Int.natCast_mul, Int.toNat_natCast]
  · have := Int.mul_le_mul hj (show (1 : Int) ≤ p - 1 by omega) (by omega) (by omega)
    omega
/-- Euler's rule -/
theorem euler {p n a : Int} (h : ringM p n ≠ 0) (ha : a % p ≠ 0) : powM a (unitN p n).toNat (ringM p n) = 1 := by
  obtain ⟨j, h1, h2, h3, h4, h5⟩ := unitN_eq h
  obtain ⟨i1, i2, i3, i4⟩ := ringM_in h
  obtain ⟨hp, hq, _, _, hm, _⟩ := ringM_bd h
  have hd := frob_dvd (a := a) i1 j
  have e : a ^ p.toNat ^ (j + 1) - a ^ p.toNat ^ j = a ^ p.toNat ^ j * (a ^ (unitN p n).toNat - 1) := by
    rw [h3, Int.mul_sub, Int.mul_one, ← Int.pow_add]
    congr 2
    rw [Nat.mul_sub, Nat.mul_one, Nat.pow_succ]
    have : p.toNat ^ j ≤ p.toNat ^ j * p.toNat := Nat.le_mul_of_pos_right _ (by omega)
    omega
  rw [e] at hd
  have hg : Int.gcd (p ^ (j + 1)) (a ^ p.toNat ^ j) = 1 := by
    rw [Int.gcd_comm]
    exact Int.pow_gcd_pow_of_gcd_eq_one (coprime_of_not_dvd i1 ha)
  have hd2 := dvd_of_coprime_mul hg hd
  rw [i4, h1]
  have := emod_of_dvd_sub hd2
  rw [powM, this, ← h1, ← i4]
  exact Int.emod_eq_of_lt (by omega) (by omega)
/-- the least exponent of at least 1 whose power is 1 -/
def IsOrd (a m : Int) (d : Nat) : Prop := 1 ≤ d ∧ powM a d m = 1 ∧ ∀ e : Nat, 1 ≤ e → e < d → powM a e m ≠ 1
theorem isOrd_unique {a m : Int} {d e : Nat} (h : IsOrd a m d) (g : IsOrd a m e) : d = e := by
  rcases Nat.lt_trichotomy d e with h1 | h1 | h1
  · exact absurd h.2.1 (g.2.2 d h.1 h1)
  · exact h1
  · exact absurd g.2.1 (h.2.2 e g.1 h1)
theorem powM_mul {a m : Int} {e : Nat} (hm : 2 ≤ m) (h : powM a e m = 1) (t : Nat) : powM a (e * t) m = 1 := by
  unfold powM at h ⊢
  rw [Int.pow_mul, ← pow_emod, h, Int.one_pow]
  exact Int.emod_eq_of_lt (by omega) (by omega)
theorem powM_add {a m : Int} {e : Nat} (hm : 2 ≤ m) (h : powM a e m = 1) (r : Nat) : powM a (e + r) m = powM a r m := by
  unfold powM at h ⊢
  rw [Int.pow_add, Int.mul_emod, h, Int.one_mul, Int.emod_emod]
theorem exists_prime : ∀ t : Nat, 2 ≤ t → ∃ q : Nat, 2 ≤ q ∧ q ∣ t ∧ ∀ c, c ∣ q → c = 1 ∨ c = q := by
  intro t
  induction t using Nat.strongRecOn with
  | ind t ih =>
    intro ht
    by_cases h : ∃ c, c ∣ t ∧ c ≠ 1 ∧ c ≠ t
    · obtain ⟨c, hc, h1, h2⟩ := h
      have h0 : c ≠ 0 := by rintro rfl; have := Nat.eq_zero_of_zero_dvd hc; omega
      have := Nat.le_of_dvd (by omega) hc
      obtain ⟨q, q1, q2, q3⟩ := ih c (by omega) (by omega)
      exact ⟨q, q1, Nat.dvd_trans q2 hc, q3⟩
    · refine ⟨t, ht, Nat.dvd_refl _, fun c hc => ?_⟩
      apply Classical.byContradiction; intro hn
      exact h ⟨c, hc, fun e => hn (Or.inl e), fun e => hn (Or.inr e)⟩
theorem exists_least {P : Nat → Prop} : ∀ n : Nat, P n → ∃ k, P k ∧ k ≤ n ∧ ∀ j, j < k → ¬ P j := by
  intro n
  induction n using Nat.strongRecOn with
  | ind n ih =>
    intro hn
    by_cases h : ∃ j, j < n ∧ P j
    · obtain ⟨j, hj, hp⟩ := h
      obtain ⟨k, h1, h2, h3⟩ := ih j hj hp
      exact ⟨k, h1, by omega, h3⟩
    · exact ⟨n, hn, Nat.le_refl _, fun j hj hp => h ⟨j, hj, hp⟩⟩
theorem ord_of_primes {a m : Int} {d : Nat} (hm : 2 ≤ m) (hd : 1 ≤ d) (h1 : powM a d m = 1)
    (h : ∀ q : Nat, 2 ≤ q → (∀ c, c ∣ q → c = 1 ∨ c = q) → q ∣ d → powM a (d / q) m ≠ 1) : IsOrd a m d := by
  obtain ⟨e, ⟨he1, he2⟩, hle, hmin⟩ := exists_least (P := fun e => 1 ≤ e ∧ powM a e m = 1) d ⟨hd, h1⟩
  have hr : powM a (d % e) m = 1 := by
    have := powM_add (r := d % e) hm (powM_mul hm he2 (d / e))
    rw [Nat.div_add_mod] at this
    rw [← this]; exact h1
  have h0 : d % e = 0 := by
    apply Classical.byContradiction; intro hn
    exact hmin (d % e) (Nat.mod_lt _ (by omega)) ⟨by omega, hr⟩
  obtain ⟨t, rfl⟩ := Nat.dvd_of_mod_eq_zero h0
  by_cases ht : t = 1
  · subst ht
    rw [Nat.mul_one]
    exact ⟨he1, he2, fun j hj1 hj2 hj3 => hmin j hj2 ⟨hj1, hj3⟩⟩
  · exfalso
    have ht0 : t ≠ 0 := by rintro rfl; simp at hd
    obtain ⟨q, q1, q2, q3⟩ := exists_prime t (by omega)
    obtain ⟨s, rfl⟩ := q2
    refine h q q1 q3 ⟨e * s, by rw [Nat.mul_left_comm]⟩ ?_
    rw [Nat.mul_left_comm, Nat.mul_div_cancel_left _ (by omega)]
    exact powM_mul hm he2 s
/-- while the primes before place i of a list are taken out -/
def ORel (a m : Int) (N : Nat) (l : List Int) (i : Nat) (d : Int) : Prop :=
  1 ≤ d ∧ d ≤ 1000000000 ∧ d.toNat ∣ N ∧ powM a d.toNat m = 1 ∧ ∀ j, j < i → j < l.length → ¬ (d.tmod (l.getD j 2) = 0 ∧ powM a (d.tdiv (l.getD j 2)).toNat m = 1)
theorem div_nat {d q : Int} (hd : 0 ≤ d) (hq : 2 ≤ q) : (d.tdiv q).toNat = d.toNat / q.toNat ∧ 0 ≤ d.tdiv q ∧ (d.tmod q = 0 ↔ q.toNat ∣ d.toNat) := by
  obtain ⟨D, rfl⟩ : ∃ D : Nat, d = D := ⟨d.toNat, by omega⟩
  obtain ⟨Q, rfl⟩ : ∃ Q : Nat, q = Q := ⟨q.toNat, by omega⟩
  have e : (D : Int).tdiv Q = ((D / Q : Nat) : Int) := rfl
  have e' : (D : Int).tmod Q = ((D % Q : Nat) : Int) := rfl
  refine ⟨by rw [e]; rfl, by rw [e]; exact Int.natCast_nonneg _, ?_⟩
  rw [e', show (Q : Int).toNat = Q from rfl, show (D : Int).toNat = D from rfl]
  constructor
  · intro h; exact Nat.dvd_of_mod_eq_zero (by exact_mod_cast h)
  · intro h; rw [Nat.mod_eq_zero_of_dvd h]; rfl
theorem oRel_start {a m : Int} {N : Int} {l : List Int} (h1 : 1 ≤ N) (h2 : N ≤ 1000000000) (h : powM a N.toNat m = 1) : ORel a m N.toNat l 0 N :=
  ⟨h1, h2, Nat.dvd_refl _, h, fun j hj => by omega⟩
theorem oRel_take {a m d : Int} {N : Nat} {l : List Int} {i : Nat} (hm : 2 ≤ m) (hl : ∀ q ∈ l, 2 ≤ q) (hi : i < l.length) (h : ORel a m N l i d)
    (h0 : d.tmod (l.getD i 2) = 0) (h1 : powM a (d.tdiv (l.getD i 2)).toNat m = 1) : ORel a m N l i (d.tdiv (l.getD i 2)) ∧ (d.tdiv (l.getD i 2)).toNat < d.toNat := by
  obtain ⟨g1, g2, g3, g4, g5⟩ := h
  have get2 : ∀ j, j < l.length → 2 ≤ l.getD j 2 := fun j hj => by rw [List.getD_eq_getElem?_getD, List.getElem?_eq_getElem hj]; exact hl _ (List.getElem_mem hj)
  have hq := get2 i hi
  obtain ⟨e1, e2, e3⟩ := div_nat (show 0 ≤ d by omega) hq
  have hdv := e3.1 h0
  obtain ⟨s, hs⟩ := hdv
  have hs' : (d.tdiv (l.getD i 2)).toNat = s := by rw [e1, hs, Nat.mul_div_cancel_left _ (by omega)]
  have hs0 : s ≠ 0 := by rintro rfl; simp at hs; omega
  have hlt : s < d.toNat := by
    rw [hs]
    have : 1 * s < (l.getD i 2).toNat * s := Nat.mul_lt_mul_of_pos_right (by omega) (by omega)
    omega
  refine ⟨⟨by omega, by omega, ?_, h1, ?_⟩, by omega⟩
  · rw [hs']; exact Nat.dvd_trans ⟨(l.getD i 2).toNat, by rw [hs, Nat.mul_comm]⟩ g3
  · intro j hj hjl hc
    have hr := get2 j hjl
    obtain ⟨f1, f2, f3⟩ := div_nat e2 hr
    obtain ⟨k1, k2, k3⟩ := div_nat (show 0 ≤ d by omega) hr
    obtain ⟨u, hu⟩ := f3.1 hc.1
    rw [hs'] at hu
    have hd' : d.toNat = (l.getD j 2).toNat * ((l.getD i 2).toNat * u) := by rw [hs, hu, Nat.mul_left_comm]
    refine g5 j hj hjl ⟨k3.2 ⟨_, hd'⟩, ?_⟩
    have hc2 := hc.2
    rw [f1, hs', hu, Nat.mul_div_cancel_left _ (by omega)] at hc2
    rw [k1, hd', Nat.mul_div_cancel_left _ (by omega), Nat.mul_comm]
    exact powM_mul hm hc2 _
theorem oRel_next {a m d : Int} {N : Nat} {l : List Int} {i : Nat} (h : ORel a m N l i d) (h0 : ¬ (d.tmod (l.getD i 2) = 0 ∧ powM a (d.tdiv (l.getD i 2)).toNat m = 1)) : ORel a m N l (i + 1) d := by
  obtain ⟨g1, g2, g3, g4, g5⟩ := h
  refine ⟨g1, g2, g3, g4, fun j hj hjl => ?_⟩
  by_cases e : j = i
  · subst e; exact h0
  · exact g5 j (by omega) hjl
/-- a list that holds every prime that divides N -/
def Covers (N : Nat) (l : List Int) : Prop := ∀ q : Nat, 2 ≤ q → (∀ c, c ∣ q → c = 1 ∨ c = q) → q ∣ N → (q : Int) ∈ l
theorem oRel_end {a m d : Int} {N : Nat} {l : List Int} (hm : 2 ≤ m) (hc : Covers N l) (h : ORel a m N l l.length d) : IsOrd a m d.toNat := by
  obtain ⟨g1, g2, g3, g4, g5⟩ := h
  refine ord_of_primes hm (by omega) g4 fun q q2 qp qd hq => ?_
  have hmem := hc q q2 qp (Nat.dvd_trans qd g3)
  obtain ⟨j, hj, he⟩ := List.getElem_of_mem hmem
  have hg : l.getD j 2 = (q : Int) := by rw [List.getD_eq_getElem?_getD, List.getElem?_eq_getElem hj]; exact he
  obtain ⟨e1, e2, e3⟩ := div_nat (show 0 ≤ d by omega) (show (2 : Int) ≤ q by omega)
  refine g5 j hj hj ⟨?_, ?_⟩
  · rw [hg]; exact e3.2 qd
  · rw [hg, e1]; exact hq
open Classical in
noncomputable def ordV (a m : Int) : Int := if h : ∃ d, IsOrd a m d then ((Classical.choose h : Nat) : Int) else 0
theorem ordV_eq {a m d : Int} (h0 : 0 ≤ d) (h : IsOrd a m d.toNat) : ordV a m = d := by
  unfold ordV
  have hex : ∃ d, IsOrd a m d := ⟨_, h⟩
  rw [dif_pos hex, isOrd_unique (Classical.choose_spec hex) h]; omega
/-- the primes that both sides take out -/
def factAll : Bool := (List.range 98).all fun p => !smallB (p : Int) || (((factT ((p : Int) - 1)).all fun q => decide (2 ≤ q.1)) && (List.range 98).all fun q => !(decide (2 ≤ q) && decide ((p - 1) % q = 0) && primeB q) || (factT ((p : Int) - 1)).any fun r => r.1 == (q : Int))
theorem factAll_t : factAll = true := by decide +kernel
theorem fact_small {p : Int} (h : smallB p = true) : (∀ q ∈ factT (p - 1), 2 ≤ q.1) ∧ ∀ q : Nat, 2 ≤ q → (∀ c, c ∣ q → c = 1 ∨ c = q) → q ∣ (p - 1).toNat → ∃ r ∈ factT (p - 1), r.1 = (q : Int) := by
  obtain ⟨hp, hq⟩ := smallB_bd h
  obtain ⟨P, rfl⟩ : ∃ P : Nat, p = P := ⟨p.toNat, by omega⟩
  have h1 := factAll_t
  unfold factAll at h1
  rw [List.all_eq_true] at h1
  have h2 := h1 P (by simp; omega)
  simp only [h, Bool.not_true, Bool.false_or, Bool.and_eq_true, List.all_eq_true, decide_eq_true_eq] at h2
  refine ⟨h2.1, fun q q2 qp qd => ?_⟩
  rw [show ((P : Int) - 1).toNat = P - 1 by omega] at qd
  have hle := Nat.le_of_dvd (by omega) qd
  have h3 := h2.2 q (by simp; omega)
  have hpr : primeB (q : Int) = true := by
    unfold primeB; rw [List.all_eq_true]; intro d _
    apply decide_eq_true; intro d2 dd dm
    have hdq : d ∣ q := Nat.dvd_of_mod_eq_zero (by exact_mod_cast dm)
    rcases qp d hdq with e | e
    · omega
    · subst e
      have : 2 * d ≤ d * d := Nat.mul_le_mul_right d q2
      have : ((2 * d : Nat) : Int) ≤ ((d * d : Nat) : Int) := by exact_mod_cast this
      simp at this; omega
  simp only [q2, decide_true, Nat.mod_eq_zero_of_dvd qd, hpr, Bool.and_true, Bool.not_true, Bool.false_or, List.any_eq_true, beq_iff_eq] at h3
  exact h3
theorem covers_of {p n : Int} {l : List Int} (h : ringM p n ≠ 0) (hp : p ∈ l) (hl : ∀ r ∈ factT (p - 1), r.1 ∈ l) : Covers (unitN p n).toNat l := by
  intro q q2 qp qd
  obtain ⟨j, h1, h2, h3, h4, h5⟩ := unitN_eq h
  obtain ⟨i1, _⟩ := ringM_in h
  obtain ⟨hp2, hp97⟩ := smallB_bd i1
  have hpp : primeB p = true := by rw [← smallB_in hp2 hp97]; exact i1
  rw [h3] at qd
  by_cases e : (q : Int) = p
  · rw [e]; exact hp
  · have hcop : Nat.Coprime q p.toNat := by
      have hg : Nat.gcd q p.toNat ∣ p.toNat := Nat.gcd_dvd_right _ _
      have hg2 : Nat.gcd q p.toNat ∣ q := Nat.gcd_dvd_left _ _
      rcases qp _ hg2 with h6 | h6
      · exact h6
      · exfalso; rw [h6] at hg
        rcases primeB_dvd (c := q) hpp hp2 (by have : ((q : Nat) : Int) ∣ ((p.toNat : Nat) : Int) := by exact_mod_cast hg
                                               rwa [show ((p.toNat : Nat) : Int) = p by omega] at this) with h7 | h7
        · omega
        · exact e h7
    have hcop2 : Nat.Coprime q (p.toNat ^ j) := Nat.Coprime.pow_right j hcop
    have hd := Nat.Coprime.dvd_of_dvd_mul_left hcop2 qd
    obtain ⟨r, hr, hre⟩ := (fact_small i1).2 q q2 qp (by rwa [show (p - 1).toNat = p.toNat - 1 by omega])
    rw [← hre]; exact hl r hr
/-- the least residue of full order by a prime -/
def IsRoot (p : Int) (g : Nat) : Prop := 1 ≤ g ∧ (g : Int) < p ∧ ordV g p = p - 1 ∧ ∀ a : Nat, 1 ≤ a → a < g → ordV a p ≠ p - 1
def rootAll : Bool := (List.range 98).all fun p => !smallB (p : Int) || (List.range p).any fun g => decide (1 ≤ g) && g ^ (p - 1) % p == 1 && (List.range (p - 1)).all fun e => !decide (1 ≤ e) || g ^ e % p != 1
theorem rootAll_t : rootAll = true := by decide +kernel
theorem powM_nat (g e p : Nat) : powM (g : Int) e (p : Int) = ((g ^ e % p : Nat) : Int) := by unfold powM; rw [ipow_nat]; rfl
theorem root_some {p : Int} (h : smallB p = true) : ∃ g : Nat, 1 ≤ g ∧ (g : Int) < p ∧ ordV g p = p - 1 := by
  obtain ⟨hp, hq⟩ := smallB_bd h
  obtain ⟨P, rfl⟩ : ∃ P : Nat, p = P := ⟨p.toNat, by omega⟩
  have h1 := rootAll_t
  unfold rootAll at h1
  rw [List.all_eq_true] at h1
  have h2 := h1 P (by simp; omega)
  simp only [h, Bool.not_true, Bool.false_or, List.any_eq_true, Bool.and_eq_true, decide_eq_true_eq, beq_iff_eq, List.all_eq_true, List.mem_range] at h2
  obtain ⟨g, hg, ⟨g1, g2⟩, g3⟩ := h2
  refine ⟨g, g1, by omega, ordV_eq (by omega) ⟨by omega, ?_, fun e he1 he2 => ?_⟩⟩
  · rw [show ((P : Int) - 1).toNat = P - 1 by omega, powM_nat, g2]; rfl
  · have := g3 e (by omega)
    simp only [he1, decide_true, Bool.not_true, Bool.false_or, bne_iff_ne] at this
    rw [powM_nat]; intro hc; exact this (by exact_mod_cast hc)
theorem root_least {p : Int} (h : smallB p = true) : ∃ g : Nat, IsRoot p g := by
  obtain ⟨g, g1, g2, g3⟩ := root_some h
  obtain ⟨k, ⟨k1, k2, k3⟩, hle, hmin⟩ := exists_least (P := fun g : Nat => 1 ≤ g ∧ (g : Int) < p ∧ ordV g p = p - 1) g ⟨g1, g2, g3⟩
  exact ⟨k, k1, k2, k3, fun a a1 a2 a3 => hmin a a2 ⟨a1, by omega, a3⟩⟩
end Go.Proofs.Ytbjkcoajabcibaa
