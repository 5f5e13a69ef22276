/- Plain mathematics of chapter 7: one step of the elimination by a prime, products, triangular matrices, rows turned round. -/
import Derived.Test.YtbjkcoajabcibaaDetAlt
namespace Go.Proofs.Ytbjkcoajabcibaa
set_option linter.unusedVariables false
set_option linter.unusedSimpArgs false
theorem det_sub_first {m : Nat} (B : Nat → Nat → Int) (k : Nat → Int) : detZ (m + 1) (clearR B k m) = detZ (m + 1) B := alt_clear (alt_det (m + 1)) B k m (by omega)
/-- one column of the elimination -/
theorem elim_step (p : Int) {m : Nat} {B B' : Nat → Nat → Int} {k : Nat → Int} (h0 : ∀ i, 0 < i → i < m + 1 → p ∣ B i 0 - k i * B 0 0)
    (h : ∀ r c, r < m → c < m → p ∣ B' r c - (B (r + 1) (c + 1) - k (r + 1) * B 0 (c + 1))) : p ∣ detZ (m + 1) B - B 0 0 * detZ m B' := by
  let C : Nat → Nat → Int := fun i c => if 0 < i ∧ c = 0 then 0 else clearR B k m i c
  have e1 : p ∣ detZ (m + 1) (clearR B k m) - detZ (m + 1) C := det_mod p fun r c hr hc => by
    show p ∣ clearR B k m r c - (if 0 < r ∧ c = 0 then 0 else clearR B k m r c)
    by_cases h1 : 0 < r ∧ c = 0
    · rw [if_pos h1, Int.sub_zero]
      show p ∣ (if 0 < r ∧ r ≤ m then B r c - k r * B 0 c else B r c)
      rw [if_pos (by omega), h1.2]
      exact h0 r h1.1 hr
    · rw [if_neg h1, Int.sub_self]; exact Int.dvd_zero p
  have e2 : detZ (m + 1) C = C 0 0 * detZ m (fun r c => C (r + 1) (c + 1)) := det_head fun i h1 h2 => by
    show (if 0 < i ∧ 0 = 0 then 0 else clearR B k m i 0) = 0
    rw [if_pos ⟨h1, rfl⟩]
  have e3 : C 0 0 = B 0 0 := by
    show (if 0 < 0 ∧ 0 = 0 then 0 else if 0 < 0 ∧ 0 ≤ m then B 0 0 - k 0 * B 0 0 else B 0 0) = B 0 0
    rw [if_neg (by omega), if_neg (by omega)]
  have e4 : p ∣ detZ m (fun r c => C (r + 1) (c + 1)) - detZ m B' := det_mod p fun r c hr hc => by
    show p ∣ (if 0 < r + 1 ∧ c + 1 = 0 then 0 else if 0 < r + 1 ∧ r + 1 ≤ m then B (r + 1) (c + 1) - k (r + 1) * B 0 (c + 1) else B (r + 1) (c + 1)) - B' r c
    rw [if_neg (by omega), if_pos (by omega), ← Int.neg_sub]
    exact Int.dvd_neg.2 (h r c hr hc)
  rw [e2, e3, det_sub_first] at e1
  have e5 : p ∣ B 0 0 * (detZ m (fun r c => C (r + 1) (c + 1)) - detZ m B') := Int.dvd_trans e4 (Int.dvd_mul_left _ _)
  rw [Int.mul_sub] at e5
  have := Int.dvd_add e1 e5
  rwa [show detZ (m + 1) B - B 0 0 * detZ m (fun r c => C (r + 1) (c + 1)) + (B 0 0 * detZ m (fun r c => C (r + 1) (c + 1)) - B 0 0 * detZ m B') = detZ (m + 1) B - B 0 0 * detZ m B' by omega] at this
/-- a matrix times another one -/
def mulM (n : Nat) (A T : Nat → Nat → Int) : Nat → Nat → Int := fun r c => sumZ n fun j => A r j * T j c
theorem alt_mul (n : Nat) (T : Nat → Nat → Int) : AltF n fun A => detZ n (mulM n A T) := by
  refine ⟨fun A B h => det_congr fun r c hr hc => sumZ_congr fun j hj => by rw [h r j hr hj], fun x y A r u v h => ?_, fun A r h he => det_adj h fun c => sumZ_congr fun j hj => by rw [he j]⟩
  have e : ∀ w : Nat → Int, mulM n (setRow A r w) T = setRow (mulM n A T) r (fun c => sumZ n fun j => w j * T j c) := fun w => by
    funext i c
    show sumZ n (fun j => (if i = r then w j else A i j) * T j c) = if i = r then sumZ n (fun j => w j * T j c) else sumZ n fun j => A i j * T j c
    by_cases h1 : i = r
    · rw [if_pos h1]; exact sumZ_congr fun j hj => by rw [if_pos h1]
    · rw [if_neg h1]; exact sumZ_congr fun j hj => by rw [if_neg h1]
  show detZ n (mulM n (setRow A r _) T) = x * detZ n (mulM n (setRow A r u) T) + y * detZ n (mulM n (setRow A r v) T)
  rw [e, e, e, ← det_lin x y (A := mulM n A T) (r := r) _ _ h]
  refine congrArg (detZ n) (congrArg (setRow (mulM n A T) r) ?_)
  funext c
  show _ = x * sumZ n (fun j => u j * T j c) + y * sumZ n (fun j => v j * T j c)
  rw [← sumZ_lin]
  exact sumZ_congr fun j hj => by rw [Int.add_mul, Int.mul_assoc, Int.mul_assoc]
theorem mul_id (n : Nat) (T : Nat → Nat → Int) : ∀ r c, r < n → mulM n idM T r c = T r c := fun r c hr => by
  show sumZ n (fun j => idM r j * T j c) = T r c
  rw [sumZ_one (r := r) hr fun j hj hne => by rw [show idM r j = 0 from if_neg (fun h => hne h.symm), Int.zero_mul], show idM r r = 1 from if_pos rfl, Int.one_mul]
theorem det_mulM (n : Nat) (A T : Nat → Nat → Int) : detZ n (mulM n A T) = detZ n A * detZ n T := by
  have h : detZ n (mulM n A T) = detZ n (mulM n idM T) * detZ n A := alt_unique n (fun A => detZ n (mulM n A T)) (alt_mul n T) A
  rw [h, det_congr (A := mulM n idM T) (B := T) fun r c hr hc => mul_id n T r c hr, Int.mul_comm]
/-- ones on the diagonal, nothing below it -/
theorem det_tri : ∀ {n : Nat} {A : Nat → Nat → Int}, (∀ r, r < n → A r r = 1) → (∀ r c, r < n → c < r → A r c = 0) → detZ n A = 1
  | 0, _, _, _ => rfl
  | n + 1, A, h1, h2 => by
    rw [det_head fun i hi hn => h2 i 0 hn hi, h1 0 (by omega), Int.one_mul]
    exact det_tri (fun r hr => h1 (r + 1) (by omega)) fun r c hr hc => h2 (r + 1) (c + 1) (by omega) (by omega)
/-- the last k rows of N go to the top -/
def rotR (N : Nat) (A : Nat → Nat → Int) (k : Nat) : Nat → Nat → Int := fun i c => if i < k then A (N - k + i) c else A (i - k) c
def powS (N : Nat) : Nat → Int
  | 0 => 1
  | k + 1 => sgnN (N - 1) * powS N k
theorem det_rot {N : Nat} (A : Nat → Nat → Int) : ∀ k, k ≤ N → detZ N (rotR N A k) = powS N k * detZ N A
  | 0, _ => by
    rw [show powS N 0 = 1 from rfl, Int.one_mul]
    refine det_congr fun r c hr hc => ?_
    show (if r < 0 then _ else A (r - 0) c) = A r c
    rw [if_neg (Nat.not_lt_zero _), Nat.sub_zero]
  | k + 1, h => by
    show _ = sgnN (N - 1) * powS N k * detZ N A
    rw [Int.mul_assoc, ← det_rot A k (by omega), ← alt_top (alt_det N) (N - 1) (by omega)]
    refine det_congr fun r c hr hc => ?_
    show (if r < k + 1 then A (N - (k + 1) + r) c else A (r - (k + 1)) c) = if r = 0 then (if N - 1 < k then A (N - k + (N - 1)) c else A (N - 1 - k) c) else if skipR (N - 1) (r - 1) < k then A (N - k + skipR (N - 1) (r - 1)) c else A (skipR (N - 1) (r - 1) - k) c
    have e : skipR (N - 1) (r - 1) = r - 1 ∨ r = 0 := by
      by_cases h0 : r = 0
      · exact .inr h0
      · exact .inl (by unfold skipR; rw [if_pos (by omega)])
    by_cases h0 : r = 0
    · rw [if_pos h0, if_pos (by omega), if_neg (by omega), h0, show N - (k + 1) + 0 = N - 1 - k by omega]
    · rw [if_neg h0]
      rcases e with e | e
      · rw [e]
        by_cases h1 : r < k + 1
        · rw [if_pos h1, if_pos (by omega), show N - (k + 1) + r = N - k + (r - 1) by omega]
        · rw [if_neg h1, if_neg (by omega), show r - (k + 1) = r - 1 - k by omega]
      · exact absurd e h0
end Go.Proofs.Ytbjkcoajabcibaa
