/- Plain mathematics of chapter 7: determinants by the first column; rows: linear, alternating. -/
import Derived.Test.YtbjkcoajabcibaaMath
namespace Go.Proofs.Ytbjkcoajabcibaa
set_option linter.unusedVariables false
set_option linter.unusedSimpArgs false
/-- the sum of f 0 .. f (n - 1) -/
def sumZ : Nat → (Nat → Int) → Int
  | 0, _ => 0
  | n + 1, f => sumZ n f + f n
theorem sumZ_congr {n : Nat} {f g : Nat → Int} (h : ∀ i, i < n → f i = g i) : sumZ n f = sumZ n g := by
  induction n with
  | zero => rfl
  | succ n ih => simp only [sumZ]; rw [ih (fun i hi => h i (by omega)), h n (by omega)]
theorem sumZ_zero {n : Nat} {f : Nat → Int} (h : ∀ i, i < n → f i = 0) : sumZ n f = 0 := by
  induction n with
  | zero => rfl
  | succ n ih => simp only [sumZ]; rw [ih (fun i hi => h i (by omega)), h n (by omega)]; rfl
theorem sumZ_lin (x y : Int) (n : Nat) (f g : Nat → Int) : sumZ n (fun i => x * f i + y * g i) = x * sumZ n f + y * sumZ n g := by
  induction n with
  | zero => simp [sumZ]
  | succ n ih => simp only [sumZ]; rw [ih, Int.mul_add, Int.mul_add]; omega
theorem sumZ_one {n r : Nat} {f : Nat → Int} (hr : r < n) (h : ∀ i, i < n → i ≠ r → f i = 0) : sumZ n f = f r := by
  induction n with
  | zero => omega
  | succ n ih =>
    simp only [sumZ]
    by_cases e : r = n
    · subst e; rw [sumZ_zero (fun i hi => h i (by omega) (by omega)), Int.zero_add]
    · rw [ih (by omega) (fun i hi hne => h i (by omega) hne), h n (by omega) (fun e2 => e e2.symm), Int.add_zero]
theorem sumZ_two {n r : Nat} {f : Nat → Int} (hr : r + 1 < n) (h : ∀ i, i < n → i ≠ r → i ≠ r + 1 → f i = 0) : sumZ n f = f r + f (r + 1) := by
  induction n with
  | zero => omega
  | succ n ih =>
    simp only [sumZ]
    by_cases e : r + 1 = n
    · subst e; rw [sumZ_one (r := r) (by omega) (fun i hi hne => h i (by omega) hne (by omega))]
    · rw [ih (by omega) (fun i hi h1 h2 => h i (by omega) h1 h2), h n (by omega) (by omega) (by omega), Int.add_zero]
theorem sumZ_dvd {p : Int} {n : Nat} {f : Nat → Int} (h : ∀ i, i < n → p ∣ f i) : p ∣ sumZ n f := by
  induction n with
  | zero => exact Int.dvd_zero p
  | succ n ih => exact Int.dvd_add (ih (fun i hi => h i (by omega))) (h n (by omega))
theorem sumZ_sub (n : Nat) (f g : Nat → Int) : sumZ n f - sumZ n g = sumZ n (fun i => f i - g i) := by
  induction n with
  | zero => rfl
  | succ n ih => simp only [sumZ]; rw [← ih]; omega
def skipR (i r : Nat) : Nat := if r < i then r else r + 1
def sgnN (i : Nat) : Int := if i % 2 = 0 then 1 else -1
theorem sgn_succ (i : Nat) : sgnN (i + 1) = -sgnN i := by unfold sgnN; split <;> split <;> omega
def minorR (A : Nat → Nat → Int) (i : Nat) : Nat → Nat → Int := fun r c => A (skipR i r) (c + 1)
/-- the determinant of the first n rows and columns -/
def detZ : Nat → (Nat → Nat → Int) → Int
  | 0, _ => 1
  | n + 1, A => sumZ (n + 1) fun i => sgnN i * A i 0 * detZ n (minorR A i)
theorem skip_lt {i r n : Nat} (hr : r < n) : skipR i r < n + 1 := by unfold skipR; split <;> omega
theorem skip_ne (i r : Nat) : skipR i r ≠ i := by unfold skipR; split <;> omega
theorem det_congr : ∀ {n : Nat} {A B : Nat → Nat → Int}, (∀ r c, r < n → c < n → A r c = B r c) → detZ n A = detZ n B
  | 0, _, _, _ => rfl
  | n + 1, A, B, h => by
    unfold detZ
    refine sumZ_congr fun i hi => ?_
    rw [h i 0 hi (by omega), det_congr (A := minorR A i) (B := minorR B i) fun r c hr hc => h _ _ (skip_lt hr) (by omega)]
theorem dvd_prod {p a b c d : Int} (h1 : p ∣ a - b) (h2 : p ∣ c - d) : p ∣ a * c - b * d := by
  obtain ⟨x, hx⟩ := h1
  obtain ⟨y, hy⟩ := h2
  refine ⟨x * c + b * y, ?_⟩
  have e1 : a = b + p * x := by omega
  have e2 : d = c - p * y := by omega
  rw [e2, e1]
  rw [Int.add_mul, Int.mul_sub, Int.mul_add]
  have : b * (p * y) = p * (b * y) := by rw [← Int.mul_assoc, Int.mul_comm b p, Int.mul_assoc]
  rw [this, Int.mul_assoc p x c]
  omega
theorem det_mod (p : Int) : ∀ {n : Nat} {A B : Nat → Nat → Int}, (∀ r c, r < n → c < n → p ∣ A r c - B r c) → p ∣ detZ n A - detZ n B
  | 0, _, _, _ => by simp [detZ]
  | n + 1, A, B, h => by
    unfold detZ
    rw [sumZ_sub]
    refine sumZ_dvd fun i hi => ?_
    refine dvd_prod ?_ (det_mod p (A := minorR A i) (B := minorR B i) fun r c hr hc => h _ _ (skip_lt hr) (by omega))
    rw [← Int.mul_sub]
    exact Int.dvd_trans (h i 0 hi (by omega)) (Int.dvd_mul_left _ _)
def setRow (A : Nat → Nat → Int) (r : Nat) (u : Nat → Int) : Nat → Nat → Int := fun i c => if i = r then u c else A i c
/-- the place of row r when row i is left out -/
def atR (i r : Nat) : Nat := if r < i then r else r - 1
theorem minor_same (A : Nat → Nat → Int) (r : Nat) (u : Nat → Int) : minorR (setRow A r u) r = minorR A r := by
  funext x c
  unfold minorR setRow
  rw [if_neg (skip_ne r x)]
theorem minor_set (A : Nat → Nat → Int) {i r : Nat} (u : Nat → Int) (h : i ≠ r) : minorR (setRow A r u) i = setRow (minorR A i) (atR i r) (fun c => u (c + 1)) := by
  funext x c
  show (if skipR i x = r then u (c + 1) else A (skipR i x) (c + 1)) = if x = atR i r then u (c + 1) else A (skipR i x) (c + 1)
  have e : skipR i x = r ↔ x = atR i r := by
    unfold skipR atR
    split <;> split <;> omega
  by_cases h2 : skipR i x = r
  · rw [if_pos h2, if_pos (e.1 h2)]
  · rw [if_neg h2, if_neg (fun h3 => h2 (e.2 h3))]
theorem at_lt {i r n : Nat} (hi : i < n + 1) (hr : r < n + 1) (h : i ≠ r) : atR i r < n := by unfold atR; split <;> omega
theorem det_lin (x y : Int) : ∀ {n : Nat} {A : Nat → Nat → Int} {r : Nat} (u v : Nat → Int), r < n → detZ n (setRow A r (fun c => x * u c + y * v c)) = x * detZ n (setRow A r u) + y * detZ n (setRow A r v)
  | 0, _, _, _, _, h => by omega
  | n + 1, A, r, u, v, h => by
    unfold detZ
    rw [← sumZ_lin]
    refine sumZ_congr fun i hi => ?_
    by_cases e : i = r
    · subst e
      rw [minor_same, minor_same, minor_same]
      simp only [setRow, if_true]
      generalize detZ n (minorR A i) = d
      generalize sgnN i = s
      rw [Int.mul_add, Int.add_mul]
      congr 1
      · rw [← Int.mul_assoc, ← Int.mul_assoc, ← Int.mul_assoc, Int.mul_comm s x]
      · rw [← Int.mul_assoc, ← Int.mul_assoc, ← Int.mul_assoc, Int.mul_comm s y]
    · rw [minor_set A _ e, minor_set A _ e, minor_set A _ e, det_lin x y (A := minorR A i) (r := atR i r) (fun c => u (c + 1)) (fun c => v (c + 1)) (at_lt hi h e)]
      simp only [setRow, if_neg e]
      generalize A i 0 = a
      generalize sgnN i = s
      generalize detZ n _ = d1
      generalize detZ n _ = d2
      rw [Int.mul_add]
      congr 1
      · rw [← Int.mul_assoc, ← Int.mul_assoc, Int.mul_comm (s * a) x]
      · rw [← Int.mul_assoc, ← Int.mul_assoc, Int.mul_comm (s * a) y]
theorem sgn_sq (i : Nat) : sgnN i * sgnN i = 1 := by unfold sgnN; split <;> rfl
/-- two equal rows, one below the other -/
theorem det_adj : ∀ {n : Nat} {A : Nat → Nat → Int} {r : Nat}, r + 1 < n → (∀ c, A r c = A (r + 1) c) → detZ n A = 0
  | 0, _, _, h, _ => by omega
  | n + 1, A, r, h, he => by
    unfold detZ
    rw [sumZ_two (r := r) h fun i hi h1 h2 => ?_]
    · have e : minorR A r = minorR A (r + 1) := by
        funext x c
        unfold minorR skipR
        by_cases h1 : x < r
        · rw [if_pos h1, if_pos (by omega)]
        · rw [if_neg h1]
          by_cases h2 : x = r
          · subst h2; rw [if_pos (by omega)]; exact (he _).symm
          · rw [if_neg (by omega)]
      rw [e, he 0, sgn_succ, Int.neg_mul, Int.neg_mul]
      omega
    · have h3 : detZ n (minorR A i) = 0 := by
        by_cases h4 : r < i
        · refine det_adj (r := r) (by omega) fun c => ?_
          unfold minorR skipR
          rw [if_pos h4, if_pos (by omega)]; exact he _
        · refine det_adj (r := r - 1) (by omega) fun c => ?_
          unfold minorR skipR
          rw [if_neg (by omega), if_neg (by omega)]
          have := he (c + 1)
          rw [show r - 1 + 1 = r by omega]; exact this
      rw [h3, Int.mul_zero]
def swapR (A : Nat → Nat → Int) (r s : Nat) : Nat → Nat → Int := fun i c => if i = r then A s c else if i = s then A r c else A i c
theorem set_same (A : Nat → Nat → Int) (r : Nat) : setRow A r (A r) = A := by
  funext i c; unfold setRow; split
  · rename_i h; rw [h]
  · rfl
theorem det_add {n : Nat} {A : Nat → Nat → Int} {r : Nat} (u v : Nat → Int) (h : r < n) : detZ n (setRow A r (fun c => u c + v c)) = detZ n (setRow A r u) + detZ n (setRow A r v) := by
  have := det_lin 1 1 (A := A) u v h
  simpa using this
theorem det_swap1 {n : Nat} {A : Nat → Nat → Int} {r : Nat} (h : r + 1 < n) : detZ n (swapR A r (r + 1)) = -detZ n A := by
  let D : (Nat → Int) → (Nat → Int) → Int := fun u v => detZ n (setRow (setRow A r u) (r + 1) v)
  have dl : ∀ u u' v, D (fun c => u c + u' c) v = D u v + D u' v := fun u u' v => by
    show detZ n (setRow (setRow A r _) (r + 1) v) = _
    have e : ∀ w, setRow (setRow A r w) (r + 1) v = setRow (setRow A (r + 1) v) r w := fun w => by
      funext i c; unfold setRow
      by_cases h1 : i = r
      · rw [if_neg (by omega), if_pos h1, if_pos h1]
      · rw [if_neg h1, if_neg h1]
    show detZ n (setRow (setRow A r _) (r + 1) v) = detZ n (setRow (setRow A r u) (r + 1) v) + detZ n (setRow (setRow A r u') (r + 1) v)
    rw [e, e, e]
    exact det_add u u' (by omega)
  have dr : ∀ u v v', D u (fun c => v c + v' c) = D u v + D u v' := fun u v v' => det_add v v' h
  have dz : ∀ u, D u u = 0 := fun u => det_adj h fun c => by simp [setRow]
  have key := dz (fun c => A r c + A (r + 1) c)
  rw [dl, dr, dr, dz, dz] at key
  have e1 : D (A r) (A (r + 1)) = detZ n A := by
    show detZ n (setRow (setRow A r (A r)) (r + 1) (A (r + 1))) = _
    rw [set_same, set_same]
  have e2 : D (A (r + 1)) (A r) = detZ n (swapR A r (r + 1)) := by
    refine congrArg (detZ n) ?_
    funext i c; unfold setRow swapR
    by_cases h1 : i = r
    · rw [if_neg (by omega), if_pos h1, if_pos h1]
    · rw [if_neg h1, if_neg h1]
  rw [e1, e2] at key
  omega
theorem swap_step (A : Nat → Nat → Int) {r s : Nat} (h : r < s) : swapR A r (s + 1) = swapR (swapR (swapR A s (s + 1)) r s) s (s + 1) := by
  funext i c
  unfold swapR
  by_cases h1 : i = r
  · subst h1
    simp only [if_true, show ¬ i = s by omega, show ¬ i = s + 1 by omega, if_false, show ¬ s + 1 = i by omega, show ¬ s = i by omega, show ¬ s + 1 = s by omega, show ¬ s = s + 1 by omega]
  · by_cases h2 : i = s + 1
    · subst h2
      simp only [h1, if_false, if_true, show ¬ s + 1 = s by omega, show ¬ s = r by omega, show ¬ r = s by omega, show ¬ r = s + 1 by omega]
    · by_cases h3 : i = s
      · subst h3
        simp only [h1, h2, if_false, if_true, show ¬ i + 1 = i by omega, show ¬ i + 1 = r by omega, show ¬ i = i + 1 by omega]
      · simp only [h1, h2, h3, if_false]
theorem det_swap {n : Nat} : ∀ (k : Nat) {A : Nat → Nat → Int} {r : Nat}, r + k + 1 < n → detZ n (swapR A r (r + k + 1)) = -detZ n A
  | 0, A, r, h => det_swap1 h
  | k + 1, A, r, h => by
    rw [show r + (k + 1) + 1 = r + k + 1 + 1 by omega, swap_step A (show r < r + k + 1 by omega), det_swap1 (by omega), det_swap k (by omega), det_swap1 (by omega)]
    omega
theorem det_swapR {n r s : Nat} (A : Nat → Nat → Int) (h : r < s) (hs : s < n) : detZ n (swapR A r s) = -detZ n A := by
  obtain ⟨k, rfl⟩ : ∃ k, s = r + k + 1 := ⟨s - r - 1, by omega⟩
  exact det_swap k hs
theorem det_equal {n r s : Nat} {A : Nat → Nat → Int} (h : r < s) (hs : s < n) (he : ∀ c, A r c = A s c) : detZ n A = 0 := by
  have e : swapR A r s = A := by
    funext i c; unfold swapR
    by_cases h1 : i = r
    · rw [if_pos h1, h1]; exact (he c).symm
    · rw [if_neg h1]
      by_cases h2 : i = s
      · rw [if_pos h2, h2]; exact he c
      · rw [if_neg h2]
  have := det_swapR A h hs
  rw [e] at this
  omega
/-- a multiple of one row taken from another -/
theorem det_sub {n r s : Nat} (A : Nat → Nat → Int) (k : Int) (hr : r < n) (hs : s < n) (h : r ≠ s) : detZ n (setRow A s (fun c => A s c - k * A r c)) = detZ n A := by
  have hl := det_lin 1 (-k) (A := A) (A s) (A r) hs
  have e : (fun c => 1 * A s c + -k * A r c) = fun c => A s c - k * A r c := by
    funext c; rw [Int.one_mul, Int.neg_mul]; omega
  rw [e, set_same, Int.one_mul] at hl
  have hz : detZ n (setRow A s (A r)) = 0 := by
    rcases Nat.lt_or_gt_of_ne h with h1 | h1
    · exact det_equal h1 hs fun c => by simp [setRow, h]
    · exact det_equal h1 hr fun c => by simp [setRow, h]
  rw [hl, hz, Int.mul_zero, Int.add_zero]
/-- nothing below the first entry of the first column -/
theorem det_head {n : Nat} {A : Nat → Nat → Int} (h : ∀ i, 0 < i → i < n + 1 → A i 0 = 0) : detZ (n + 1) A = A 0 0 * detZ n (fun r c => A (r + 1) (c + 1)) := by
  show sumZ (n + 1) (fun i => sgnN i * A i 0 * detZ n (minorR A i)) = _
  rw [sumZ_one (r := 0) (by omega) fun i hi hne => by rw [h i (by omega) hi, Int.mul_zero, Int.zero_mul]]
  rw [show sgnN 0 = 1 from rfl, Int.one_mul]
  have e : minorR A 0 = fun r c => A (r + 1) (c + 1) := by
    funext r c; unfold minorR skipR; rw [if_neg (Nat.not_lt_zero _)]
  rw [e]
theorem det_none {n : Nat} {A : Nat → Nat → Int} (h : ∀ i, i < n + 1 → A i 0 = 0) : detZ (n + 1) A = 0 := by
  rw [det_head fun i _ hi => h i hi, h 0 (by omega), Int.zero_mul]
end Go.Proofs.Ytbjkcoajabcibaa
