/- Plain mathematics of chapter 7: sums of powers by Newton's identities. -/
import Derived.Test.YtbolmmgkmgmfeaaResSmall
import Derived.Test.YtbolmmgkmgmfeaaDivM
namespace Go.Proofs.Ytbolmmgkmgmfeaa
set_option linter.unusedVariables false
set_option linter.unusedSimpArgs false
/-- what is summed up for number k, j terms -/
def psT (f out : List Int) (k : Nat) : Nat → Int
  | 0 => 0
  | j + 1 => psT f out k j + f.getD (f.length - 1 - (j + 1)) 0 * out.getD (k - (j + 1) - 1) 0
def psN (f out : List Int) (k : Nat) : Int := -(psT f out k (min (k - 1) (f.length - 1)) + (if k ≤ f.length - 1 then (k : Int) * f.getD (f.length - 1 - k) 0 else 0))
def psL (f : List Int) : Nat → List Int
  | 0 => []
  | k + 1 => psL f k ++ [psN f (psL f k) (k + 1)]
theorem psL_length (f : List Int) : ∀ k, (psL f k).length = k
  | 0 => rfl
  | k + 1 => by rw [psL, List.length_append, psL_length f k]; rfl
theorem psL_new (f : List Int) (k : Nat) : (psL f (k + 1)).getD k 0 = psN f (psL f k) (k + 1) := by
  have h := psL_length f k
  simp [psL, List.getD, List.getElem?_append_right, h]
theorem psL_old (f : List Int) {k i : Nat} (h : i < k) : (psL f (k + 1)).getD i 0 = (psL f k).getD i 0 := by
  have hl := psL_length f k
  simp [psL, List.getD, List.getElem?_append_left, hl, h]
theorem psL_keep (f : List Int) {i : Nat} : ∀ {k m : Nat}, i < k → k ≤ m → (psL f m).getD i 0 = (psL f k).getD i 0 := by
  intro k m hi hm
  induction m with
  | zero => omega
  | succ m ih =>
    by_cases e : k = m + 1
    · rw [e]
    · rw [psL_old f (by omega)]; exact ih (by omega)
def sumB : Nat → Int
  | 0 => 0
  | k + 1 => sumB k + (60 * sumB k + 60 * ((k : Int) + 1))
theorem sumB_mono : ∀ {j k : Nat}, j ≤ k → 0 ≤ sumB j ∧ sumB j ≤ sumB k := by
  have h0 : ∀ k, 0 ≤ sumB k := by
    intro k
    induction k with
    | zero => exact Int.le_refl _
    | succ k ih => simp only [sumB]; omega
  intro j k h
  refine ⟨h0 j, ?_⟩
  induction k with
  | zero => rw [show j = 0 by omega]; exact Int.le_refl _
  | succ k ih =>
    by_cases e : j = k + 1
    · rw [e]; exact Int.le_refl _
    · have := ih (by omega); have := h0 k; simp only [sumB]; omega
theorem mul60 {x y B : Int} (hx : -60 ≤ x ∧ x ≤ 60) (hy : -B ≤ y ∧ y ≤ B) : -(60 * B) ≤ x * y ∧ x * y ≤ 60 * B := by
  have p1 : x.natAbs * y.natAbs ≤ 60 * B.natAbs := Nat.mul_le_mul (by omega) (by omega)
  rw [← Int.natAbs_mul] at p1; omega
def PsBd (out : List Int) (k : Nat) : Prop := ∀ t, t < k → -(60 * sumB t + 60 * ((t : Int) + 1)) ≤ out.getD t 0 ∧ out.getD t 0 ≤ 60 * sumB t + 60 * ((t : Int) + 1)
theorem psT_bd {f out : List Int} {k : Nat} (hf : ∀ i, -60 ≤ f.getD i 0 ∧ f.getD i 0 ≤ 60) (ho : PsBd out (k - 1)) : ∀ j, j ≤ k - 1 → -(60 * (sumB (k - 1) - sumB (k - 1 - j))) ≤ psT f out k j ∧ psT f out k j ≤ 60 * (sumB (k - 1) - sumB (k - 1 - j))
  | 0, _ => by rw [Nat.sub_zero]; show _ ≤ (0 : Int) ∧ (0 : Int) ≤ _; omega
  | j + 1, h => by
    have h1 := psT_bd hf ho j (by omega)
    have h2 := mul60 (hf (f.length - 1 - (j + 1))) (ho (k - (j + 1) - 1) (by omega))
    obtain ⟨t, ht⟩ : ∃ t, k - (j + 1) - 1 = t := ⟨_, rfl⟩
    rw [show k - 1 - (j + 1) = t by omega]
    rw [show k - 1 - j = t + 1 by omega] at h1
    rw [ht] at h2
    simp only [sumB] at h1
    show _ ≤ psT f out k j + f.getD (f.length - 1 - (j + 1)) 0 * out.getD (k - (j + 1) - 1) 0 ∧ psT f out k j + f.getD (f.length - 1 - (j + 1)) 0 * out.getD (k - (j + 1) - 1) 0 ≤ _
    rw [ht]
    omega
theorem psT_le {f out : List Int} {k j : Nat} (hf : ∀ i, -60 ≤ f.getD i 0 ∧ f.getD i 0 ≤ 60) (ho : PsBd out (k - 1)) (hj : j ≤ k - 1) : -(60 * sumB (k - 1)) ≤ psT f out k j ∧ psT f out k j ≤ 60 * sumB (k - 1) := by
  have h1 := psT_bd hf ho j hj
  have h2 := (sumB_mono (show k - 1 - j ≤ k - 1 by omega)).1
  omega
theorem psN_bd {f out : List Int} {k : Nat} (hf : ∀ i, -60 ≤ f.getD i 0 ∧ f.getD i 0 ≤ 60) (ho : PsBd out k) : -(60 * sumB k + 60 * ((k : Int) + 1)) ≤ psN f out (k + 1) ∧ psN f out (k + 1) ≤ 60 * sumB k + 60 * ((k : Int) + 1) := by
  have h1 := psT_le (k := k + 1) (j := min (k + 1 - 1) (f.length - 1)) hf ho (by omega)
  rw [show k + 1 - 1 = k by omega] at h1
  have h2 := hf (f.length - 1 - (k + 1))
  unfold psN
  rw [show k + 1 - 1 = k by omega]
  by_cases h : k + 1 ≤ f.length - 1
  · rw [if_pos h]
    have h3 : -(60 * ((k : Int) + 1)) ≤ ((k + 1 : Nat) : Int) * f.getD (f.length - 1 - (k + 1)) 0 ∧ ((k + 1 : Nat) : Int) * f.getD (f.length - 1 - (k + 1)) 0 ≤ 60 * ((k : Int) + 1) := by
      have := mul60 (B := (k : Int) + 1) h2 (y := ((k + 1 : Nat) : Int)) (by omega)
      rw [Int.mul_comm ((k + 1 : Nat) : Int) _]; omega
    omega
  · rw [if_neg h]; omega
theorem psL_bd {f : List Int} (hf : ∀ i, -60 ≤ f.getD i 0 ∧ f.getD i 0 ≤ 60) : ∀ k, PsBd (psL f k) k
  | 0 => fun t h => by omega
  | k + 1 => fun t h => by
    by_cases e : t = k
    · rw [e, psL_new]; exact psN_bd hf (psL_bd hf k)
    · rw [psL_old f (by omega)]; exact psL_bd hf k t (by omega)
theorem sumB_five : ∀ t, t ≤ 5 → sumB t ≤ 858672906 := by decide
theorem ps_small {f : List Int} (hf : ∀ i, -60 ≤ f.getD i 0 ∧ f.getD i 0 ≤ 60) {k t : Nat} (ht : t < k) (hk : k ≤ 6) : -1000000000000 ≤ (psL f k).getD t 0 ∧ (psL f k).getD t 0 ≤ 1000000000000 := by
  have h1 := psL_bd hf k t ht
  have h2 := sumB_five t (by omega)
  omega
theorem psT_small {f : List Int} (hf : ∀ i, -60 ≤ f.getD i 0 ∧ f.getD i 0 ≤ 60) {k j : Nat} (hj : j ≤ k - 1) (hk : k ≤ 6) : -1000000000000 ≤ psT f (psL f (k - 1)) k j ∧ psT f (psL f (k - 1)) k j ≤ 1000000000000 := by
  have h1 := psT_le hf (psL_bd hf (k - 1)) hj
  have h2 := sumB_five (k - 1) (by omega)
  omega
def psC (f : List Int) (x : Int) : Int := if codS f = 0 then (if inB x 1 6 then (if monB f then 0 else 5) else 2) else codS f
def psQ (f : List Int) (x : Int) : List Int := if psC f x = 0 then psL f x.toNat else []
theorem psC_cases {f : List Int} {x : Int} (h : psC f x = 0) : smlB f = true ∧ 1 ≤ x ∧ x ≤ 6 ∧ monB f = true := by
  unfold psC at h
  split at h
  · rename_i hc
    have hs : smlB f = true := by
      unfold codS at hc
      split at hc
      · split at hc
        · assumption
        · cases hc
      · cases hc
    split at h
    · rename_i hx
      simp only [inB, Bool.and_eq_true, decide_eq_true_eq] at hx
      split at h
      · rename_i hm; exact ⟨hs, hx.1, hx.2, hm⟩
      · cases h
    · cases h
  · rename_i hc; exact absurd h hc
theorem psQ_len (f : List Int) (x : Int) : (psQ f x).length ≤ 9 := by
  unfold psQ
  split
  · rename_i h
    rw [psL_length]; have := psC_cases h; omega
  · simp
end Go.Proofs.Ytbolmmgkmgmfeaa
