/- Plain mathematics of chapter 6: what has become too great in a shift belongs to a result that is not valid. -/
import Derived.Test.YtidcpmhbkldpeaaPolyMore
namespace Go.Proofs.Ytidcpmhbkldpeaa
set_option linter.unusedVariables false
set_option maxRecDepth 20000
theorem shiftP_stay (f : List Int) (a : Int) {i k : Nat} (hi : i < k) (hn : i < f.length) : ∀ j, (shiftP f a (k + j)).getD i 0 = (shiftP f a k).getD i 0
  | 0 => rfl
  | j + 1 => by
    show (tabL f.length fun i => if i < k + j then (shiftP f a (k + j)).getD i 0 else evalD (shiftP f a (k + j)) a (f.length - i)).getD i 0 = _
    rw [tabL_getD hn, if_pos (by omega)]
    exact shiftP_stay f a hi hn j
theorem shiftP_final (f : List Int) (a : Int) {i k : Nat} (hi : i < k) (hk : k ≤ f.length) : (shiftP f a k).getD i 0 = (shiftL f a).getD i 0 := by
  have h := shiftP_stay f a hi (by omega) (f.length - k)
  rw [show k + (f.length - k) = f.length by omega] at h
  exact h.symm
theorem back_bd {l : List Int} {a B : Int} {m : Nat} (hB : 1000000 ≤ B) (hl : ∀ i, -B ≤ l.getD i 0 ∧ l.getD i 0 ≤ B) (hm : -1000000 ≤ evalD l a m ∧ evalD l a m ≤ 1000000) :
    ∀ j : Nat, j ≤ m → -(1000000 + (j : Int) * B) ≤ evalD l a (m - j) ∧ evalD l a (m - j) ≤ 1000000 + (j : Int) * B
  | 0, _ => by simpa using hm
  | j + 1, h => by
    obtain ⟨x, y⟩ := back_bd hB hl hm j (by omega)
    have hjB : 0 ≤ (j : Int) * B := Int.mul_nonneg (by omega) (by omega)
    have e : ((j + 1 : Nat) : Int) * B = (j : Int) * B + B := by push_cast; rw [Int.add_mul, Int.one_mul]
    rw [e]
    rw [show m - j = (m - (j + 1)) + 1 by omega, evalD] at x y
    obtain ⟨c, d⟩ := hl (l.length - 1 - (m - (j + 1)))
    by_cases ha : a = 0
    · cases hm2 : m - (j + 1) with
      | zero => simp only [evalD]; omega
      | succ q =>
        obtain ⟨c2, d2⟩ := hl (l.length - 1 - q)
        simp only [evalD, ha, Int.mul_zero, Int.zero_add]; omega
    · generalize evalD l a (m - (j + 1)) = e at *
      generalize l.getD (l.length - 1 - (m - (j + 1))) 0 = z at *
      have p : e.natAbs ≤ (e * a).natAbs := by
        rw [Int.natAbs_mul]
        have := Nat.mul_le_mul_left e.natAbs (show 1 ≤ a.natAbs by omega)
        omega
      generalize e * a = t at *
      generalize (j : Int) * B = s at *
      omega
theorem shiftP_bd {f : List Int} {a : Int} (hf : ∀ i, -1000000 ≤ f.getD i 0 ∧ f.getD i 0 ≤ 1000000) (h9 : f.length ≤ 9) (hs : ∀ i, -1000000 ≤ (shiftL f a).getD i 0 ∧ (shiftL f a).getD i 0 ≤ 1000000) :
    ∀ k, k ≤ f.length → (∀ i, -(1000000 * 9 ^ k) ≤ (shiftP f a k).getD i 0 ∧ (shiftP f a k).getD i 0 ≤ 1000000 * 9 ^ k) ∧
      (k < f.length → ∀ i, k ≤ i → i < f.length → -(1000000 * 9 ^ (k + 1)) ≤ evalD (shiftP f a k) a (f.length - i) ∧ evalD (shiftP f a k) a (f.length - i) ≤ 1000000 * 9 ^ (k + 1)) := by
  have step : ∀ k, k < f.length → (∀ i, -(1000000 * 9 ^ k) ≤ (shiftP f a k).getD i 0 ∧ (shiftP f a k).getD i 0 ≤ 1000000 * 9 ^ k) →
      ∀ i, k ≤ i → i < f.length → -(1000000 * 9 ^ (k + 1)) ≤ evalD (shiftP f a k) a (f.length - i) ∧ evalD (shiftP f a k) a (f.length - i) ≤ 1000000 * 9 ^ (k + 1) := by
    intro k hk hb i hi hn
    have hp : (1 : Int) ≤ 9 ^ k := by have := Int.pow_pos (n := (9 : Int)) (m := k) (by omega); omega
    have he : evalD (shiftP f a k) a (f.length - k) = (shiftL f a).getD k 0 := by
      rw [← shiftP_final f a (Nat.lt_succ_self k) hk]
      show _ = (tabL f.length fun i => if i < k then (shiftP f a k).getD i 0 else evalD (shiftP f a k) a (f.length - i)).getD k 0
      rw [tabL_getD hk, if_neg (Nat.lt_irrefl _)]
    have hm := hs k
    rw [← he] at hm
    have := back_bd (B := 1000000 * 9 ^ k) (by omega) hb hm (i - k) (by omega)
    rw [show f.length - k - (i - k) = f.length - i by omega] at this
    have hq : ((i - k : Nat) : Int) ≤ 8 := by omega
    have h8 := Int.mul_le_mul_of_nonneg_right hq (show (0 : Int) ≤ 1000000 * 9 ^ k by omega)
    rw [Int.pow_succ]
    generalize (9 : Int) ^ k = q at *
    generalize ((i - k : Nat) : Int) * (1000000 * q) = s at *
    omega
  intro k
  induction k with
  | zero => exact fun _ => ⟨fun i => by simpa [shiftP] using hf i, fun h => step 0 h (fun i => by simpa [shiftP] using hf i)⟩
  | succ k ih =>
    intro hk
    obtain ⟨h1, h2⟩ := ih (by omega)
    have key : ∀ i, -(1000000 * 9 ^ (k + 1)) ≤ (shiftP f a (k + 1)).getD i 0 ∧ (shiftP f a (k + 1)).getD i 0 ≤ 1000000 * 9 ^ (k + 1) := by
      intro i
      have hp : (1 : Int) ≤ 9 ^ (k + 1) := by have := Int.pow_pos (n := (9 : Int)) (m := k + 1) (by omega); omega
      by_cases hi : i < f.length
      · show _ ≤ (tabL f.length fun i => if i < k then (shiftP f a k).getD i 0 else evalD (shiftP f a k) a (f.length - i)).getD i 0 ∧ (tabL f.length fun i => if i < k then (shiftP f a k).getD i 0 else evalD (shiftP f a k) a (f.length - i)).getD i 0 ≤ _
        rw [tabL_getD hi]
        split
        · rename_i hik
          rw [shiftP_final f a hik (by omega)]
          have := hs i
          omega
        · exact h2 (by omega) i (by omega) hi
      · rw [getD_out (by rw [shiftP_length]; omega)]; omega
    exact ⟨key, fun h => step (k + 1) h key⟩
theorem pow9_le : ∀ {j : Nat}, j ≤ 9 → (9 : Int) ^ j ≤ 387420489 := by decide
/-- the early end of a shift -/
theorem shift_stop {f : List Int} {a : Int} {k i : Nat} (hp : polyB f = true) (hk : k ≤ i) (hi : i < f.length) (hf : inB (evalD (shiftP f a k) a (f.length - i)) (-1000000000000000) 1000000000000000 = false) :
    resC (shiftL f a) = 3 ∧ resL (shiftL f a) = [] := by
  cases hr : polyB (trimL (shiftL f a))
  · simp [resC, resL, hr]
  · obtain ⟨h9, hb, _⟩ := polyB_of hp
    have hs : ∀ i, -1000000 ≤ (shiftL f a).getD i 0 ∧ (shiftL f a).getD i 0 ≤ 1000000 := fun i => by rw [← trimL_getD]; exact (polyB_of hr).2.1 i
    have h := (shiftP_bd hb h9 hs k (by omega)).2 (by omega) i hk hi
    have h2 := pow9_le (show k + 1 ≤ 9 by omega)
    rw [inB_t (by omega) (by omega)] at hf
    cases hf
end Go.Proofs.Ytidcpmhbkldpeaa
