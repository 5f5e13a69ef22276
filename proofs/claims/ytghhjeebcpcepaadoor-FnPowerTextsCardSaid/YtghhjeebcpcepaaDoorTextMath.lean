/- Plain mathematics: what trial division answers is a list of prime powers as described, the text of such a list reads back, and what is read has the text as its text. Conditions: numbers from 1 to 1000000. -/
import Derived.Test.YtghhjeebcpcepaaDoorGoodMath
import Derived.Test.YtghhjeebcpcepaaDoorReadMath
namespace Go.Proofs.YtghhjeebcpcepaaDoor
open Go.RowKit
set_option linter.unusedVariables false
theorem two_pow_le : ∀ (l : List (Int × Int)), (∀ q ∈ l, 2 ≤ q.1 ∧ 1 ≤ q.2) → (2 : Int) ^ l.length ≤ pprod l
  | [], _ => by simp [pprod_nil]
  | a :: l, h => by
    have ih := two_pow_le l (fun q hq => h q (List.mem_cons_of_mem _ hq))
    obtain ⟨h1, h2⟩ := h a List.mem_cons_self
    rw [pprod_cons, List.length_cons, Int.pow_succ]
    have h3 : a.1 ^ 1 ≤ a.1 ^ a.2.toNat := pow_mono h1 (by omega)
    have h4 : (2 : Int) ≤ a.1 ^ a.2.toNat := by simp only [Int.pow_one] at h3; omega
    have h5 : (1 : Int) ≤ pprod l := pprod_ge_one l (fun q hq => (h q (List.mem_cons_of_mem _ hq)).1)
    have h6 : (2 : Int) ^ l.length * 2 ≤ pprod l * 2 := Int.mul_le_mul_of_nonneg_right ih (by omega)
    have h7 : 2 * pprod l ≤ a.1 ^ a.2.toNat * pprod l := Int.mul_le_mul_of_nonneg_right h4 (by omega)
    omega
theorem two_pow_small {e : Nat} (h : (2 : Int) ^ e ≤ 1000000) : e ≤ 19 := by
  refine Nat.le_of_not_lt fun hlt => ?_
  have := pow_mono (p := 2) (by omega) (show 20 ≤ e by omega)
  have e2 : (2 : Int) ^ 20 = 1048576 := by decide
  omega
theorem two_le_pow {p : Int} (h : 2 ≤ p) : ∀ e : Nat, (2 : Int) ^ e ≤ p ^ e
  | 0 => by simp
  | e + 1 => by
    have ih := two_le_pow h e
    rw [Int.pow_succ, Int.pow_succ]
    have h0 := pow_ge_one (p := 2) (by omega) e
    have h1 : (2 : Int) ^ e * 2 ≤ (2 : Int) ^ e * p := Int.mul_le_mul_of_nonneg_left h (by omega)
    have h2 : (2 : Int) ^ e * p ≤ p ^ e * p := Int.mul_le_mul_of_nonneg_right ih (by omega)
    omega
theorem good_mem {n : Int} {l : List (Int × Int)} (hg : Good n l) : ∀ q ∈ l, 2 ≤ q.1 ∧ 1 ≤ q.2 := by
  intro q hq
  obtain ⟨i, hi, rfl⟩ := List.getElem_of_mem hq
  have h := hg.rise.1 i hi
  rw [show l.getD i (0, 0) = l[i] by simp [List.getD, hi]] at h
  exact ⟨(isPrimeB_two h.1).1, h.2.1⟩
theorem good_arePow {n : Int} {l : List (Int × Int)} (hg : Good n l) (h1 : n ≤ 1000000) : arePowB l = true := by
  have hl : l.length ≤ 19 := two_pow_small (by have := two_pow_le l (good_mem hg); rw [hg.prod] at this; omega)
  rw [arePowB_end (l := l) fun i hi => ?_]
  · exact decide_eq_true (by omega)
  · obtain ⟨x, y, e⟩ : ∃ x y, l.getD i (0, 0) = (x, y) := ⟨_, _, rfl⟩
    obtain ⟨r1, r2, r3⟩ := hg.rise.1 i hi
    have hp := good_part hg hi (Nat.le_refl _)
    have hm := good_mem hg
    have h4 : 1 ≤ upto l i := pprod_ge_one _ (fun q hq => (hm q (List.mem_of_mem_take hq)).1)
    rw [e] at r1 r2 r3 hp
    simp only at r1 r2 r3 hp
    have hx := (isPrimeB_two r1).1
    have h5 := pow_ge_one hx y.toNat
    have h6 : 1 * x ^ y.toNat ≤ upto l i * x ^ y.toNat := Int.mul_le_mul_of_nonneg_right h4 (by omega)
    have h7 : y.toNat ≤ 19 := two_pow_small (by have := two_le_pow hx y.toNat; omega)
    rw [okAt_last e]
    have hlast : lastP l i < x := by
      unfold lastP
      split
      · omega
      · rename_i h0
        have := hg.rise.2 (i - 1) (by omega)
        rw [show i - 1 + 1 = i by omega, e] at this
        exact this
    simp [hlast, r1, inB]
    omega
theorem factT_arePow {n : Int} (h0 : 1 ≤ n) (h1 : n ≤ 1000000) : arePowB (factT n) = true := good_arePow (factT_good h0 h1) h1
theorem psT_len {l : List (Int × Int)} (h : arePowB l = true) : (psT l).length ≤ 2600 := by
  unfold psT
  split
  · simp
  · have := accT_len h l.length (Nat.le_refl _)
    have := arePow_len h
    omega
/-- the text of a list as described is read back -/
theorem readL_text {l : List (Int × Int)} (h : arePowB l = true) : readL (bsOf (psT l)) = l ∧ readC (bsOf (psT l)) = 0 := by
  have hp := parse_psT h
  have := read_eq (s := bsOf (psT l)) (by rw [hp]; exact h) (by rw [hp])
  rw [hp] at this; exact this
theorem readC_cases (s : ByteArray) : (readC s = 0 ∧ arePowB (readL s) = true ∧ bsOf (psT (readL s)) = s) ∨ (readC s = 6) := by
  unfold readC readL
  cases h : readB s
  · exact .inr rfl
  · left
    simp only [readB, Bool.and_eq_true, decide_eq_true_eq] at h
    exact ⟨rfl, h.1, h.2⟩
end Go.Proofs.YtghhjeebcpcepaaDoor
