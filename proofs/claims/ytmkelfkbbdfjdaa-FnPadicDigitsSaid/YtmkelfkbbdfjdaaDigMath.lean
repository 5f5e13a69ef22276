/- Plain mathematics of chapter 4: the digits of a number as a list, the number that a list of digits gives, and that each undoes the other. Conditions: primes from 2 to 97. -/
import Derived.Test.YtmkelfkbbdfjdaaPadFacts
import Derived.Test.YtmkelfkbbdfjdaaPadSpec2
namespace Go.Proofs.Ytmkelfkbbdfjdaa
open Go.RowKit
set_option linter.unusedVariables false
set_option maxRecDepth 20000
/-- the digits of a number -/
def digL (p u : Int) (n : Nat) : List Int := (List.range n).map fun (i : Nat) => u / pw p (i : Int) % p
theorem digL_length (p u : Int) (n : Nat) : (digL p u n).length = n := by simp [digL]
theorem digL_zero (p u : Int) : digL p u 0 = [] := rfl
theorem digL_succ (p u : Int) (n : Nat) : digL p u (n + 1) = digL p u n ++ [u / pw p (n : Int) % p] := by
  unfold digL; rw [List.range_succ, List.map_append]; rfl
theorem digL_cons {p u : Int} (hp : 2 ≤ p) (n : Nat) : digL p u (n + 1) = (u % p) :: digL p (u / p) n := by
  unfold digL
  rw [List.range_succ_eq_map, List.map_cons, List.map_map]
  congr 1
  · rw [show ((0 : Nat) : Int) = 0 from rfl, pw_zero, Int.ediv_one]
  · apply List.map_congr_left
    intro i _
    show u / pw p ((i + 1 : Nat) : Int) % p = u / p / pw p (i : Int) % p
    have e := pw_add (p := p) (a := 1) (b := (i : Int)) (by omega) (by omega)
    rw [show ((i + 1 : Nat) : Int) = 1 + (i : Int) by omega, e, pw_one, Int.ediv_ediv_of_nonneg (by omega)]
theorem digL_bd {p u d : Int} (hp : 2 ≤ p) {n : Nat} (h : d ∈ digL p u n) : 0 ≤ d ∧ d < p := by
  unfold digL at h
  rw [List.mem_map] at h
  obtain ⟨i, _, rfl⟩ := h
  exact ⟨Int.emod_nonneg _ (by omega), Int.emod_lt_of_pos _ (by omega)⟩
/-- the number that digits give -/
def horner (p : Int) (l : List Int) : Int := l.foldr (fun d a => p * a + d) 0
theorem horner_nil (p : Int) : horner p [] = 0 := rfl
theorem horner_cons (p d : Int) (l : List Int) : horner p (d :: l) = p * horner p l + d := rfl
theorem horner_bd {p : Int} (hp : 2 ≤ p) : ∀ l : List Int, (∀ d ∈ l, 0 ≤ d ∧ d < p) → 0 ≤ horner p l ∧ horner p l < pw p l.length := by
  intro l
  induction l with
  | nil => intro _; rw [horner_nil]; simp [pw]
  | cons d l ih =>
    intro h
    obtain ⟨h1, h2⟩ := ih fun x hx => h x (List.mem_cons_of_mem _ hx)
    obtain ⟨d1, d2⟩ := h d List.mem_cons_self
    rw [horner_cons, List.length_cons]
    have e := pw_add (p := p) (a := (l.length : Int)) (b := 1) (by omega) (by omega)
    rw [pw_one] at e
    rw [show ((l.length + 1 : Nat) : Int) = (l.length : Int) + 1 by omega, e]
    have m1 : 0 ≤ p * horner p l := Int.mul_nonneg (by omega) h1
    have m2 : p * (horner p l + 1) ≤ p * pw p l.length := Int.mul_le_mul_of_nonneg_left (by omega) (by omega)
    have e2 : p * (horner p l + 1) = p * horner p l + p := by rw [Int.mul_add, Int.mul_one]
    have e3 : pw p (l.length : Int) * p = p * pw p (l.length : Int) := Int.mul_comm _ _
    omega
theorem horner_digL {p : Int} (hp : 2 ≤ p) : ∀ (n : Nat) (u : Int), 0 ≤ u → u < pw p (n : Int) → horner p (digL p u n) = u := by
  intro n
  induction n with
  | zero => intro u h0 h1; rw [digL_zero, horner_nil]; simp [pw] at h1; omega
  | succ n ih =>
    intro u h0 h1
    rw [digL_cons hp, horner_cons]
    have e := pw_add (p := p) (a := (n : Int)) (b := 1) (by omega) (by omega)
    rw [pw_one] at e
    rw [show ((n + 1 : Nat) : Int) = (n : Int) + 1 by omega, e] at h1
    have hq : u / p < pw p (n : Int) := Int.ediv_lt_of_lt_mul (by omega) h1
    rw [ih (u / p) (Int.ediv_nonneg h0 (by omega)) hq]
    exact Int.mul_ediv_add_emod u p
/-- the digits that FromDigits takes -/
def digsB (p place : Int) (l : List Int) : Bool := inB place (-60) 60 && l.all fun d => inB d 0 (p - 1)
def fromQ (p place : Int) (l : List Int) : Q4 :=
  if smallB p && digsB p place l && decide (pw p l.length ≤ 1000000000) then resQ p (makeT p place (horner p l) (place + l.length)).1 (makeT p place (horner p l) (place + l.length)).2.1 (makeT p place (horner p l) (place + l.length)).2.2 else (0, 0, 0, 0)
def fromC (p place : Int) (l : List Int) : Int :=
  if smallB p then (if digsB p place l then (if pw p l.length ≤ 1000000000 then limC p (makeT p place (horner p l) (place + l.length)).1 (makeT p place (horner p l) (place + l.length)).2.1 (makeT p place (horner p l) (place + l.length)).2.2 else 3) else 2) else 1
theorem valCount_unit {u p : Int} (h : u.tmod p ≠ 0) (h0 : u ≠ 0) (hb : u.natAbs ≤ 1000000000000) : valCount u p = 0 ∧ valRest u p = u := by
  obtain ⟨e1, e2⟩ := vRel_end (vRel_start (p := p) h0 hb) h
  exact ⟨e1.symm, e2.symm⟩
/-- a number is recovered from its digits -/
theorem from_digits {p v u n : Int} (h : POk p v u n) : fromC p v (digL p u n.toNat) = 0 ∧ fromQ p v (digL p u n.toNat) = (p, v, u, n) := by
  obtain ⟨hp2, hp97, hn0, hn1, hm0, hm1, hu0, hu1, hu2⟩ := pok_bd h
  have hlen : ((digL p u n.toNat).length : Int) = n := by rw [digL_length]; omega
  have hh : horner p (digL p u n.toNat) = u := horner_digL hp2 _ u hu0 (by rw [show ((n.toNat : Nat) : Int) = n by omega]; exact hu1)
  have hd : digsB p v (digL p u n.toNat) = true := by
    unfold digsB
    rw [inB_t h.2.1 h.2.2.1, Bool.true_and, List.all_eq_true]
    intro d hd
    obtain ⟨d1, d2⟩ := digL_bd hp2 hd
    exact inB_t d1 (by omega)
  have hT : makeT p v u (v + n) = (v, u, n) := by
    unfold makeT
    rw [show v + n - v = n by omega, self_mod h]
    by_cases hn : n = 0
    · have := pok_zero h hn
      subst this hn
      simp
    · obtain ⟨_, _, _, e4, _, e6⟩ := pok_ring h hn
      have ht : u.tmod p ≠ 0 := by rw [tmod_nonneg hu0]; exact e6
      obtain ⟨c1, c2⟩ := valCount_unit ht (by omega) (by omega)
      rw [if_neg (by omega), c1, c2]
      simp
  unfold fromC fromQ
  rw [hh, hlen, hT, h.1, hd]
  have hb := ok_padB h
  simp [hm1, limC, resQ, hb]
/-- shifts -/
def shiftQ (p v u n k : Int) : Q4 := if padB p v u n && inB k (-60) 60 then resQ p (v + k) u n else (0, 0, 0, 0)
def shiftC (p v u n k : Int) : Int := if padB p v u n then (if inB k (-60) 60 then limC p (v + k) u n else 2) else 1
theorem shift_back {p v u n k : Int} (h : shiftC p v u n k = 0) :
    -60 ≤ k ∧ k ≤ 60 ∧ shiftQ p v u n k = (p, v + k, u, n) ∧ shiftC p (v + k) u n (-k) = 0 ∧ shiftQ p (v + k) u n (-k) = (p, v, u, n) := by
  unfold shiftC at h
  split at h
  · rename_i hb
    split at h
    · rename_i hk
      have hk2 : -60 ≤ k ∧ k ≤ 60 := by simpa [inB] using hk
      have hl := lim_zero h
      have hk' : inB (-k) (-60) 60 = true := inB_t (by omega) (by omega)
      have e : v + k + -k = v := by omega
      exact ⟨hk2.1, hk2.2, by simp [shiftQ, hb, hk, resQ, hl], by simp [shiftC, hl, hk', e, limC, hb], by simp [shiftQ, hl, hk', e, resQ, hb]⟩
    · omega
  · omega
/-- the digits below place 0 have no divisor in common with their power of the prime -/
theorem frac_coprime {p v u n k : Int} (h : POk p v u n) (hn : n ≠ 0) (hk : 1 ≤ k) (hkn : k ≤ n) : Int.gcd (u % pw p k) (pw p k) = 1 ∧ 1 ≤ u % pw p k := by
  obtain ⟨hp2, hp97, hn0, hn1, hm0, hm1, hu0, hu1, hu2⟩ := pok_bd h
  obtain ⟨_, _, _, _, _, e6⟩ := pok_ring h hn
  have hpart := pw_part (p := p) (n := n) (e := k) hp2 hm1 hkn
  have e := ringM_pw h.1 hk hpart.2
  have hd : u % pw p k % p = u % p := Int.emod_emod_of_dvd _ (dvd_pw hk)
  have r0 := Int.emod_nonneg u (show pw p k ≠ 0 by omega)
  have r2 : u % pw p k ≠ 0 := by intro hz; rw [hz] at hd; apply e6; rw [← hd]; rfl
  refine ⟨?_, by omega⟩
  rw [← e]
  exact coprime_ring (by omega) (by rw [e, hd]; exact e6)
/-- the sum of the digits, step by step -/
def sumL (l : List Int) : Int := l.foldl (· + ·) 0
theorem sumL_append (l : List Int) (d : Int) : sumL (l ++ [d]) = sumL l + d := by simp [sumL]
end Go.Proofs.Ytmkelfkbbdfjdaa
