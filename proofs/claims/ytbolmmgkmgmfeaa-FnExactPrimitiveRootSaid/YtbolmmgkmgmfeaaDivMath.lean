/- Plain mathematics of divisors: those collected in pairs up to the root, sorted, are those collected one after another. Conditions: the number is at least 1. -/
import Derived.Test.YtbolmmgkmgmfeaaFactMath
namespace Go.Proofs.Ytbolmmgkmgmfeaa
open Go.RowKit
set_option linter.unusedVariables false
/-- the divisors from 1 to k -/
def specL (N k : Nat) : List Nat := (List.range' 1 k).filter fun d => N % d == 0
def implStep (N d : Nat) : List Nat := if N % d = 0 then (if d * d ≠ N then [d, N / d] else [d]) else []
/-- the divisors from 1 to k, each with the number divided by it -/
def implL (N : Nat) : Nat → List Nat
  | 0 => []
  | k + 1 => implL N k ++ implStep N (k + 1)
theorem specL_zero (N : Nat) : specL N 0 = [] := rfl
theorem specL_yes {N k : Nat} (h : N % (k + 1) = 0) : specL N (k + 1) = specL N k ++ [k + 1] := by
  rw [specL, List.range'_1_concat, List.filter_append, specL, Nat.add_comm 1 k]
  simp [h]
theorem specL_no {N k : Nat} (h : N % (k + 1) ≠ 0) : specL N (k + 1) = specL N k := by
  rw [specL, List.range'_1_concat, List.filter_append, specL, Nat.add_comm 1 k]
  simp [h]
theorem specL_length (N k : Nat) : (specL N k).length ≤ k := by
  have := List.length_filter_le (fun d => N % d == 0) (List.range' 1 k)
  simpa [specL] using this
theorem implL_length (N k : Nat) : (implL N k).length ≤ 2 * k := by
  induction k with
  | zero => simp [implL]
  | succ k ih =>
    rw [implL, List.length_append]
    have : (implStep N (k + 1)).length ≤ 2 := by unfold implStep; split <;> (try split) <;> simp
    omega
theorem mem_specL {N k x : Nat} : x ∈ specL N k ↔ 1 ≤ x ∧ x ≤ k ∧ N % x = 0 := by
  simp [specL, List.mem_filter, List.mem_range'_1]; omega
theorem mem_implStep {N d x : Nat} : x ∈ implStep N d ↔ N % d = 0 ∧ (x = d ∨ (d * d ≠ N ∧ x = N / d)) := by
  unfold implStep
  by_cases h : N % d = 0
  · by_cases h2 : d * d = N
    · simp [h, h2]
    · simp [h, h2]
  · simp [h]
theorem mem_implL {N k x : Nat} : x ∈ implL N k ↔ ∃ d, 1 ≤ d ∧ d ≤ k ∧ N % d = 0 ∧ (x = d ∨ (d * d ≠ N ∧ x = N / d)) := by
  induction k with
  | zero => simp [implL]; omega
  | succ k ih =>
    rw [implL, List.mem_append, ih, mem_implStep]
    constructor
    · rintro (⟨d, h1, h2, h3⟩ | h)
      · exact ⟨d, h1, by omega, h3⟩
      · exact ⟨k + 1, by omega, by omega, h⟩
    · rintro ⟨d, h1, h2, h3⟩
      by_cases e : d = k + 1
      · subst e; exact .inr h3
      · exact .inl ⟨d, h1, by omega, h3⟩
theorem cofactor {N d : Nat} (hd : N % d = 0) : N = d * (N / d) := by
  have := Nat.div_add_mod N d; omega
theorem co_dvd {N d : Nat} (h1 : 1 ≤ N) (hd : N % d = 0) : N % (N / d) = 0 ∧ 1 ≤ N / d := by
  have e := cofactor hd
  have : 1 ≤ N / d := by
    rcases Nat.eq_zero_or_pos (N / d) with h | h
    · rw [h] at e; omega
    · exact h
  refine ⟨?_, this⟩
  rw [show N % (N / d) = (d * (N / d)) % (N / d) by rw [← e]]
  exact Nat.mul_mod_left _ _
theorem implL_nodup {N : Nat} (hN : 1 ≤ N) : ∀ k, k * k ≤ N → (implL N k).Nodup := by
  intro k
  induction k with
  | zero => intro _; exact List.nodup_nil
  | succ k ih =>
    intro hk
    have hk' : k * k ≤ N := Nat.le_trans (Nat.mul_le_mul (by omega) (by omega)) hk
    rw [implL, List.nodup_append]
    refine ⟨ih hk', ?_, ?_⟩
    · unfold implStep
      split
      · rename_i h
        split
        · rename_i h2
          have e := cofactor h
          simp
          intro h3; apply h2; rw [← h3] at e; omega
        · simp
      · simp
    · intro a ha b hb hab
      subst hab
      rw [mem_implL] at ha
      rw [mem_implStep] at hb
      obtain ⟨d, h1, h2, h3, h4⟩ := ha
      obtain ⟨h5, h6⟩ := hb
      have e1 := cofactor h3
      have e2 := cofactor h5
      have hlt : d < k + 1 := by omega
      have key : N / d ≤ k + 1 → False := by
        intro h
        have : d * (N / d) < (k + 1) * (k + 1) := Nat.lt_of_le_of_lt (Nat.mul_le_mul_left d h) (Nat.mul_lt_mul_of_pos_right hlt (by omega))
        omega
      have key2 : N / (k + 1) ≥ k + 1 := by
        refine Nat.le_of_not_lt fun h => ?_
        have : (k + 1) * (N / (k + 1)) < (k + 1) * (k + 1) := Nat.mul_lt_mul_of_pos_left h (by omega)
        omega
      rcases h4 with h4 | ⟨_, h4⟩ <;> rcases h6 with h6 | ⟨_, h6⟩
      · omega
      · omega
      · exact key (by omega)
      · have h7 : N / d = N / (k + 1) := by omega
        have : d * (N / d) < (k + 1) * (N / d) := Nat.mul_lt_mul_of_pos_right hlt (by omega)
        rw [h7] at this e1
        omega
theorem impl_mem_spec {N K : Nat} (hN : 1 ≤ N) (h1 : K * K ≤ N) (h2 : N < (K + 1) * (K + 1)) (x : Nat) : x ∈ implL N K ↔ x ∈ specL N N := by
  rw [mem_implL, mem_specL]
  have le_of : ∀ {d}, N % d = 0 → d ≤ N := fun {d} hd => by
    have e := cofactor hd
    have := (co_dvd hN hd).2
    have : d * 1 ≤ d * (N / d) := Nat.mul_le_mul_left d this
    omega
  constructor
  · rintro ⟨d, g1, g2, g3, g4⟩
    rcases g4 with rfl | ⟨_, rfl⟩
    · exact ⟨g1, le_of g3, g3⟩
    · obtain ⟨c1, c2⟩ := co_dvd hN g3
      exact ⟨c2, le_of c1, c1⟩
  · rintro ⟨g1, g2, g3⟩
    by_cases hx : x ≤ K
    · exact ⟨x, g1, hx, g3, .inl rfl⟩
    · obtain ⟨c1, c2⟩ := co_dvd hN g3
      have e := cofactor g3
      have hy : N / x ≤ K := by
        refine Nat.le_of_not_lt fun h => ?_
        have : (K + 1) * (K + 1) ≤ x * (N / x) := Nat.mul_le_mul (by omega) (by omega)
        omega
      have e2 := cofactor c1
      refine ⟨N / x, c2, hy, c1, .inr ⟨?_, ?_⟩⟩
      · intro h
        have : (N / x) * (N / x) < x * (N / x) := Nat.mul_lt_mul_of_pos_right (by omega) (by omega)
        omega
      · have h3 : (N / x) * x = (N / x) * (N / (N / x)) := by rw [← e2, Nat.mul_comm]; omega
        exact Nat.eq_of_mul_eq_mul_left (by omega) h3
/-- the numbers as Go has them -/
def ints (l : List Nat) : List Int := l.map fun (d : Nat) => (d : Int)
theorem ints_length (l : List Nat) : (ints l).length = l.length := by simp [ints]
theorem sort_impl {N K : Nat} (hN : 1 ≤ N) (h1 : K * K ≤ N) (h2 : N < (K + 1) * (K + 1)) :
    ((ints (implL N K)).mergeSort fun x y => decide (x ≤ y)) = ints (specL N N) := by
  have hs : (specL N N).Pairwise (· < ·) := List.Pairwise.filter _ (List.pairwise_lt_range' 1)
  have hp : (implL N K).Perm (specL N N) := (List.perm_ext_iff_of_nodup (implL_nodup hN K h1) (hs.imp (fun h => Nat.ne_of_lt h))).2 (impl_mem_spec hN h1 h2)
  refine List.Perm.eq_of_pairwise (le := fun (a b : Int) => decide (a ≤ b) = true) (fun a b _ _ g1 g2 => ?_) ?_ ?_ ((List.mergeSort_perm _ _).trans (hp.map _))
  · simp at g1 g2; omega
  · exact List.pairwise_mergeSort (fun a b c g1 g2 => by simp at *; omega) (fun a b => by simp; omega) _
  · refine List.Pairwise.map _ (fun a b h => ?_) hs
    simp; omega
theorem same_length {N K : Nat} (hN : 1 ≤ N) (h1 : K * K ≤ N) (h2 : N < (K + 1) * (K + 1)) : (implL N K).length = (specL N N).length := by
  have := congrArg List.length (sort_impl hN h1 h2)
  rw [List.length_mergeSort, ints_length, ints_length] at this; exact this
end Go.Proofs.Ytbolmmgkmgmfeaa
