/- Plain mathematics of chapter 7: every alternating form of the rows is the determinant times its value at the unit matrix. -/
import Derived.Test.YtbjkcoajabcibaaDetMath
namespace Go.Proofs.Ytbjkcoajabcibaa
set_option linter.unusedVariables false
set_option linter.unusedSimpArgs false
structure AltF (n : Nat) (F : (Nat → Nat → Int) → Int) : Prop where
  congr : ∀ A B : Nat → Nat → Int, (∀ r c, r < n → c < n → A r c = B r c) → F A = F B
  lin : ∀ (x y : Int) (A : Nat → Nat → Int) (r : Nat) (u v : Nat → Int), r < n → F (setRow A r (fun c => x * u c + y * v c)) = x * F (setRow A r u) + y * F (setRow A r v)
  adj : ∀ (A : Nat → Nat → Int) (r : Nat), r + 1 < n → (∀ c, A r c = A (r + 1) c) → F A = 0
variable {n : Nat} {F : (Nat → Nat → Int) → Int}
theorem alt_det (n : Nat) : AltF n (detZ n) := ⟨fun _ _ h => det_congr h, fun x y _ _ u v h => det_lin x y u v h, fun _ _ h he => det_adj h he⟩
theorem alt_add (hF : AltF n F) {A : Nat → Nat → Int} {r : Nat} (u v : Nat → Int) (h : r < n) : F (setRow A r (fun c => u c + v c)) = F (setRow A r u) + F (setRow A r v) := by
  have := hF.lin 1 1 A r u v h
  simpa using this
theorem alt_swap1 (hF : AltF n F) {A : Nat → Nat → Int} {r : Nat} (h : r + 1 < n) : F (swapR A r (r + 1)) = -F A := by
  let D : (Nat → Int) → (Nat → Int) → Int := fun u v => F (setRow (setRow A r u) (r + 1) v)
  have dl : ∀ u u' v, D (fun c => u c + u' c) v = D u v + D u' v := fun u u' v => by
    have e : ∀ w, setRow (setRow A r w) (r + 1) v = setRow (setRow A (r + 1) v) r w := fun w => by
      funext i c; unfold setRow
      by_cases h1 : i = r
      · rw [if_neg (by omega), if_pos h1, if_pos h1]
      · rw [if_neg h1, if_neg h1]
    show F (setRow (setRow A r _) (r + 1) v) = F (setRow (setRow A r u) (r + 1) v) + F (setRow (setRow A r u') (r + 1) v)
    rw [e, e, e]
    exact alt_add hF u u' (by omega)
  have dr : ∀ u v v', D u (fun c => v c + v' c) = D u v + D u v' := fun u v v' => alt_add hF v v' h
  have dz : ∀ u, D u u = 0 := fun u => hF.adj _ r h fun c => by simp [setRow]
  have key := dz (fun c => A r c + A (r + 1) c)
  rw [dl, dr, dr, dz, dz] at key
  have e1 : D (A r) (A (r + 1)) = F A := by
    show F (setRow (setRow A r (A r)) (r + 1) (A (r + 1))) = _
    rw [set_same, set_same]
  have e2 : D (A (r + 1)) (A r) = F (swapR A r (r + 1)) := by
    refine congrArg F ?_
    funext i c; unfold setRow swapR
    by_cases h1 : i = r
    · rw [if_neg (by omega), if_pos h1, if_pos h1]
    · rw [if_neg h1, if_neg h1]
  rw [e1, e2] at key
  omega
theorem alt_swap (hF : AltF n F) : ∀ (k : Nat) {A : Nat → Nat → Int} {r : Nat}, r + k + 1 < n → F (swapR A r (r + k + 1)) = -F A
  | 0, A, r, h => alt_swap1 hF h
  | k + 1, A, r, h => by
    rw [show r + (k + 1) + 1 = r + k + 1 + 1 by omega, swap_step A (show r < r + k + 1 by omega), alt_swap1 hF (by omega), alt_swap hF k (by omega), alt_swap1 hF (by omega)]
    omega
theorem alt_equal (hF : AltF n F) {r s : Nat} {A : Nat → Nat → Int} (h : r < s) (hs : s < n) (he : ∀ c, A r c = A s c) : F A = 0 := by
  have e : swapR A r s = A := by
    funext i c; unfold swapR
    by_cases h1 : i = r
    · rw [if_pos h1, h1]; exact (he c).symm
    · rw [if_neg h1]
      by_cases h2 : i = s
      · rw [if_pos h2, h2]; exact he c
      · rw [if_neg h2]
  obtain ⟨k, rfl⟩ : ∃ k, s = r + k + 1 := ⟨s - r - 1, by omega⟩
  have := alt_swap hF k (A := A) hs
  rw [e] at this
  omega
theorem alt_sub (hF : AltF n F) {r s : Nat} (A : Nat → Nat → Int) (k : Int) (hr : r < n) (hs : s < n) (h : r ≠ s) : F (setRow A s (fun c => A s c - k * A r c)) = F A := by
  have hl := hF.lin 1 (-k) A s (A s) (A r) hs
  have e : (fun c => 1 * A s c + -k * A r c) = fun c => A s c - k * A r c := by
    funext c; rw [Int.one_mul, Int.neg_mul]; omega
  rw [e, set_same, Int.one_mul] at hl
  have hz : F (setRow A s (A r)) = 0 := by
    rcases Nat.lt_or_gt_of_ne h with h1 | h1
    · exact alt_equal hF h1 hs fun c => by simp [setRow, h]
    · exact alt_equal hF h1 hr fun c => by simp [setRow, h]
  rw [hl, hz, Int.mul_zero, Int.add_zero]
/-- multiples of the first row taken from all others -/
def clearR (A : Nat → Nat → Int) (k : Nat → Int) (t : Nat) : Nat → Nat → Int := fun i c => if 0 < i ∧ i ≤ t then A i c - k i * A 0 c else A i c
theorem alt_clear (hF : AltF n F) (A : Nat → Nat → Int) (k : Nat → Int) : ∀ t, t < n → F (clearR A k t) = F A
  | 0, _ => by
    refine congrArg F ?_
    funext i c; unfold clearR; rw [if_neg (by omega)]
  | t + 1, h => by
    rw [← alt_clear hF A k t (by omega), ← alt_sub hF (clearR A k t) (k (t + 1)) (show 0 < n by omega) h (by omega)]
    refine congrArg F ?_
    funext i c
    unfold setRow clearR
    by_cases h1 : i = t + 1
    · subst h1
      rw [if_pos (by omega), if_pos rfl]
      show _ = (if 0 < t + 1 ∧ t + 1 ≤ t then A (t + 1) c - k (t + 1) * A 0 c else A (t + 1) c) - k (t + 1) * (if 0 < 0 ∧ 0 ≤ t then A 0 c - k 0 * A 0 c else A 0 c)
      rw [if_neg (by omega), if_neg (by omega)]
    · rw [if_neg h1]
      by_cases h2 : 0 < i ∧ i ≤ t
      · rw [if_pos h2, if_pos (by omega)]
      · rw [if_neg h2, if_neg (by omega)]
/-- row j goes to the top -/
def topR (A : Nat → Nat → Int) (j : Nat) : Nat → Nat → Int := fun i c => if i = 0 then A j c else A (skipR j (i - 1)) c
theorem top_step (A : Nat → Nat → Int) (j : Nat) : topR A (j + 1) = topR (swapR A j (j + 1)) j := by
  funext i c
  unfold topR swapR skipR
  by_cases h0 : i = 0
  · rw [if_pos h0, if_pos h0, if_pos rfl]
  · rw [if_neg h0, if_neg h0]
    by_cases h1 : i - 1 < j
    · rw [if_pos h1, if_pos (by omega), if_neg (by omega), if_neg (by omega)]
    · rw [if_neg h1]
      by_cases h2 : i - 1 = j
      · rw [if_pos (by omega), if_neg (by omega), if_pos (by omega), h2]
      · rw [if_neg (by omega), if_neg (by omega), if_neg (by omega)]
theorem alt_top (hF : AltF n F) : ∀ (j : Nat) {A : Nat → Nat → Int}, j < n → F (topR A j) = sgnN j * F A
  | 0, A, h => by
    have e : topR A 0 = A := by
      funext i c; unfold topR skipR
      by_cases h0 : i = 0
      · rw [if_pos h0, h0]
      · rw [if_neg h0, if_neg (Nat.not_lt_zero _), show i - 1 + 1 = i by omega]
    rw [e, show sgnN 0 = 1 from rfl, Int.one_mul]
  | j + 1, A, h => by
    rw [top_step, alt_top hF j (by omega), alt_swap1 hF h, sgn_succ, Int.mul_neg, Int.neg_mul]
def idM : Nat → Nat → Int := fun i c => if i = c then 1 else 0
/-- unit vector j on top, below it the rows of B with a 0 put in at j -/
def underR (j : Nat) (B : Nat → Nat → Int) : Nat → Nat → Int := fun r c => if r = 0 then (if c = j then 1 else 0) else if c = j then 0 else B (r - 1) (atR j c)
theorem under_id (j : Nat) : underR j idM = topR idM j := by
  funext r c
  show (if r = 0 then (if c = j then (1 : Int) else 0) else if c = j then 0 else if r - 1 = atR j c then 1 else 0) = if r = 0 then (if j = c then 1 else 0) else if skipR j (r - 1) = c then 1 else 0
  by_cases h0 : r = 0
  · rw [if_pos h0, if_pos h0]
    by_cases h1 : c = j
    · rw [if_pos h1, if_pos h1.symm]
    · rw [if_neg h1, if_neg (fun h => h1 h.symm)]
  · rw [if_neg h0, if_neg h0]
    by_cases h1 : c = j
    · rw [if_pos h1, if_neg (fun h => skip_ne j (r - 1) (by rw [h, h1]))]
    · rw [if_neg h1]
      have e : r - 1 = atR j c ↔ skipR j (r - 1) = c := by
        unfold atR skipR
        split <;> split <;> omega
      by_cases h2 : r - 1 = atR j c
      · rw [if_pos h2, if_pos (e.1 h2)]
      · rw [if_neg h2, if_neg (fun h => h2 (e.2 h))]
theorem under_set (j r : Nat) (B : Nat → Nat → Int) (u : Nat → Int) : underR j (setRow B r u) = setRow (underR j B) (r + 1) (fun c => if c = j then 0 else u (atR j c)) := by
  funext i c
  show (if i = 0 then (if c = j then (1 : Int) else 0) else if c = j then 0 else if i - 1 = r then u (atR j c) else B (i - 1) (atR j c)) = if i = r + 1 then (if c = j then 0 else u (atR j c)) else if i = 0 then (if c = j then 1 else 0) else if c = j then 0 else B (i - 1) (atR j c)
  by_cases h0 : i = 0
  · rw [if_pos h0, if_neg (show ¬ i = r + 1 by omega), if_pos h0]
  · rw [if_neg h0, if_neg h0]
    by_cases h1 : i = r + 1
    · rw [if_pos h1]
      by_cases h2 : c = j
      · rw [if_pos h2, if_pos h2]
      · rw [if_neg h2, if_neg h2, if_pos (by omega)]
    · rw [if_neg h1]
      by_cases h2 : c = j
      · rw [if_pos h2, if_pos h2]
      · rw [if_neg h2, if_neg h2, if_neg (by omega)]
theorem at_lt2 {j c n : Nat} (hc : c < n + 1) (hj : j < n + 1) (h : c ≠ j) : atR j c < n := by unfold atR; split <;> omega
theorem alt_under {F : (Nat → Nat → Int) → Int} {n j : Nat} (hF : AltF (n + 1) F) (hj : j < n + 1) : AltF n (fun B => F (underR j B)) := by
  refine ⟨fun A B h => hF.congr _ _ fun r c hr hc => ?_, fun x y A r u v h => ?_, fun A r h he => hF.adj _ (r + 1) (by omega) fun c => ?_⟩
  · unfold underR
    by_cases h0 : r = 0
    · rw [if_pos h0, if_pos h0]
    · rw [if_neg h0, if_neg h0]
      by_cases h1 : c = j
      · rw [if_pos h1, if_pos h1]
      · rw [if_neg h1, if_neg h1, h _ _ (by omega) (at_lt2 hc hj h1)]
  · rw [under_set, under_set, under_set, ← hF.lin x y _ (r + 1) _ _ (by omega)]
    refine congrArg F (congrArg (setRow (underR j A) (r + 1)) ?_)
    funext c
    by_cases h1 : c = j
    · rw [if_pos h1, if_pos h1, if_pos h1]; simp
    · rw [if_neg h1, if_neg h1, if_neg h1]
  · show (if r + 1 = 0 then (if c = j then (1 : Int) else 0) else if c = j then 0 else A (r + 1 - 1) (atR j c)) = if r + 1 + 1 = 0 then (if c = j then (1 : Int) else 0) else if c = j then 0 else A (r + 1 + 1 - 1) (atR j c)
    rw [if_neg (Nat.succ_ne_zero _), if_neg (Nat.succ_ne_zero _), show r + 1 - 1 = r by omega, show r + 1 + 1 - 1 = r + 1 by omega]
    by_cases h1 : c = j
    · rw [if_pos h1, if_pos h1]
    · rw [if_neg h1, if_neg h1]; exact he _
/-- the rows but the first, the columns but j -/
def minorC (A : Nat → Nat → Int) (j : Nat) : Nat → Nat → Int := fun r c => A (r + 1) (skipR j c)
def unitV (j : Nat) : Nat → Int := fun c => if c = j then 1 else 0
theorem alt_unit {F : (Nat → Nat → Int) → Int} {n j : Nat} (hF : AltF (n + 1) F) (hj : j < n + 1) (A : Nat → Nat → Int) : F (setRow A 0 (unitV j)) = F (underR j (minorC A j)) := by
  rw [← alt_clear hF (setRow A 0 (unitV j)) (fun i => A i j) n (by omega)]
  refine hF.congr _ _ fun r c hr hc => ?_
  show (if 0 < r ∧ r ≤ n then (if r = 0 then unitV j c else A r c) - A r j * (if (0 : Nat) = 0 then unitV j c else A 0 c) else (if r = 0 then unitV j c else A r c)) = if r = 0 then (if c = j then (1 : Int) else 0) else if c = j then 0 else A (r - 1 + 1) (skipR j (atR j c))
  by_cases h0 : r = 0
  · rw [if_neg (by omega), if_pos h0, if_pos h0]; rfl
  · rw [if_pos (by omega), if_neg h0, if_pos rfl, if_neg h0]
    unfold unitV
    by_cases h1 : c = j
    · rw [if_pos h1, if_pos h1, h1]; omega
    · rw [if_neg h1, if_neg h1, Int.mul_zero, Int.sub_zero, show r - 1 + 1 = r by omega]
      have e : skipR j (atR j c) = c := by
        by_cases h2 : c < j
        · have ea : atR j c = c := by unfold atR; rw [if_pos h2]
          rw [ea]; unfold skipR; rw [if_pos h2]
        · have ea : atR j c = c - 1 := by unfold atR; rw [if_neg h2]
          rw [ea]; unfold skipR; rw [if_neg (by omega)]; omega
      rw [e]
/-- the first row as a sum of unit vectors -/
theorem alt_first {F : (Nat → Nat → Int) → Int} {n : Nat} (hF : AltF (n + 1) F) (A : Nat → Nat → Int) : ∀ m, F (setRow A 0 (fun c => if c < m then A 0 c else 0)) = sumZ m fun j => A 0 j * F (setRow A 0 (unitV j))
  | 0 => by
    have h := hF.lin 0 0 A 0 (A 0) (A 0) (by omega)
    simp only [Int.zero_mul, Int.add_zero] at h
    show F _ = 0
    have e : (fun c => if c < 0 then A 0 c else 0) = fun _ : Nat => (0 : Int) := by
      funext c; rw [if_neg (Nat.not_lt_zero _)]
    rw [e]
    exact h
  | m + 1 => by
    have h := hF.lin 1 (A 0 m) A 0 (fun c => if c < m then A 0 c else 0) (unitV m) (by omega)
    show F _ = sumZ m _ + A 0 m * F (setRow A 0 (unitV m))
    rw [← alt_first hF A m, ← Int.one_mul (F (setRow A 0 fun c => if c < m then A 0 c else 0)), ← h]
    refine congrArg F (congrArg (setRow A 0) ?_)
    funext c
    unfold unitV
    by_cases h1 : c = m
    · subst h1; rw [if_pos (by omega), if_neg (by omega), if_pos rfl]; omega
    · rw [if_neg h1]
      by_cases h2 : c < m
      · rw [if_pos h2, if_pos (by omega)]; omega
      · rw [if_neg h2, if_neg (by omega)]; omega
theorem det_id : ∀ n, detZ n idM = 1
  | 0 => rfl
  | n + 1 => by
    rw [det_head fun i h1 h2 => by unfold idM; rw [if_neg (by omega)]]
    rw [show idM 0 0 = 1 from rfl, Int.one_mul]
    rw [← det_id n]
    refine congrArg (detZ n) ?_
    funext r c
    unfold idM
    by_cases h : r = c
    · rw [if_pos h, if_pos (by omega)]
    · rw [if_neg h, if_neg (by omega)]
def lapC (n : Nat) (A : Nat → Nat → Int) : Int := sumZ (n + 1) fun j => sgnN j * A 0 j * detZ n (minorC A j)
theorem alt_unique : ∀ (n : Nat) (F : (Nat → Nat → Int) → Int), AltF n F → ∀ A, F A = F idM * detZ n A
  | 0, F, hF, A => by
    show F A = F idM * 1
    rw [Int.mul_one]; exact hF.congr _ _ fun r c hr hc => by omega
  | n + 1, F, hF, A => by
    have key : ∀ G : (Nat → Nat → Int) → Int, AltF (n + 1) G → G A = G idM * lapC n A := by
      intro G hG
      have e : G A = G (setRow A 0 (fun c => if c < n + 1 then A 0 c else 0)) := hG.congr _ _ fun r c hr hc => by
        show A r c = if r = 0 then (if c < n + 1 then A 0 c else 0) else A r c
        by_cases h0 : r = 0
        · rw [if_pos h0, if_pos hc, h0]
        · rw [if_neg h0]
      rw [e, alt_first hG A (n + 1)]
      unfold lapC
      have hm : ∀ m, G idM * sumZ m (fun j => sgnN j * A 0 j * detZ n (minorC A j)) = sumZ m fun j => G idM * (sgnN j * A 0 j * detZ n (minorC A j)) := fun m => by
        have := sumZ_lin (G idM) 0 m (fun j => sgnN j * A 0 j * detZ n (minorC A j)) (fun _ => 0)
        simp only [Int.zero_mul, Int.add_zero] at this
        exact this.symm
      rw [hm]
      refine sumZ_congr fun j hj => ?_
      rw [alt_unit hG hj, alt_unique n _ (alt_under hG hj) (minorC A j), under_id, alt_top hG j hj]
      generalize sgnN j = s
      generalize G idM = g
      generalize A 0 j = a
      generalize detZ n (minorC A j) = d
      rw [← Int.mul_assoc, ← Int.mul_assoc, ← Int.mul_assoc, ← Int.mul_assoc, Int.mul_comm a s, Int.mul_assoc s a g, Int.mul_comm a g, ← Int.mul_assoc, Int.mul_comm s g]
    have k1 := key F hF
    have k2 := key (detZ (n + 1)) (alt_det (n + 1))
    rw [det_id, Int.one_mul] at k2
    rw [k1, k2]
end Go.Proofs.Ytbjkcoajabcibaa
