/- Plain mathematics of chapter 10: lists of degrees, and how often each occurs. -/
import Derived.Test.YtjmecidbnoimnaaCntMath
namespace Go.Proofs.Ytjmecidbnoimnaa
set_option linter.unusedVariables false
set_option linter.unusedSimpArgs false
def sumP (l : List Int) : Nat → Int
  | 0 => 0
  | k + 1 => sumP l k + l.getD k 0
/-- the first k are degrees that do not decrease -/
def DegU (l : List Int) (k : Nat) : Prop := ∀ i, i < k → 1 ≤ l.getD i 0 ∧ l.getD i 0 ≤ 8 ∧ (0 < i → l.getD (i - 1) 0 ≤ l.getD i 0)
def DegOk (l : List Int) : Prop := DegU l l.length ∧ sumP l l.length ≤ 8
instance (l : List Int) (k : Nat) : Decidable (DegU l k) := by unfold DegU; exact Nat.decidableBallLT k _
instance (l : List Int) : Decidable (DegOk l) := by unfold DegOk; exact inferInstance
theorem degU_zero (l : List Int) : DegU l 0 := fun i h => by omega
theorem degU_succ {l : List Int} {k : Nat} (h : DegU l k) (h1 : 1 ≤ l.getD k 0) (h8 : l.getD k 0 ≤ 8) (h2 : 0 < k → l.getD (k - 1) 0 ≤ l.getD k 0) : DegU l (k + 1) := by
  intro i hi
  rcases Nat.lt_or_ge i k with h3 | h3
  · exact h i h3
  · rw [show i = k by omega]; exact ⟨h1, h8, h2⟩
theorem degU_le {l : List Int} {k m : Nat} (h : DegU l m) (hk : k ≤ m) : DegU l k := fun i hi => h i (by omega)
theorem degU_mono {l : List Int} {k : Nat} (h : DegU l k) : ∀ {i j : Nat}, i ≤ j → j < k → l.getD i 0 ≤ l.getD j 0
  | i, 0, h1, h2 => by rw [show i = 0 by omega]; exact Int.le_refl _
  | i, j + 1, h1, h2 => by
    rcases Nat.lt_or_ge j i with h3 | h3
    · rw [show i = j + 1 by omega]; exact Int.le_refl _
    · have a := degU_mono h h3 (by omega)
      have b := (h (j + 1) h2).2.2 (by omega)
      rw [Nat.add_sub_cancel] at b
      omega
theorem sumP_ge {l : List Int} : ∀ {k : Nat}, DegU l k → (k : Int) ≤ sumP l k
  | 0, _ => by simp [sumP]
  | k + 1, h => by
    have := sumP_ge (degU_le h (Nat.le_succ k))
    have := (h k (by omega)).1
    rw [sumP]; push_cast; omega
theorem sumP_mono {l : List Int} {i : Nat} : ∀ {k : Nat}, DegU l k → i ≤ k → sumP l i ≤ sumP l k
  | 0, _, h => by rw [show i = 0 by omega]; exact Int.le_refl _
  | k + 1, hd, h => by
    rcases Nat.lt_or_ge k i with h3 | h3
    · rw [show i = k + 1 by omega]; exact Int.le_refl _
    · have := sumP_mono (degU_le hd (Nat.le_succ k)) h3
      have := (hd k (by omega)).1
      rw [sumP]; omega
theorem sumP_le {l : List Int} : ∀ {k : Nat}, DegU l k → sumP l k ≤ 8 * (k : Int)
  | 0, _ => by simp [sumP]
  | k + 1, h => by
    have := sumP_le (degU_le h (Nat.le_succ k))
    have := (h k (by omega)).2.1
    rw [sumP]; push_cast; omega
theorem degOk_len {l : List Int} (h : DegOk l) : l.length ≤ 8 := by have := sumP_ge h.1; have := h.2; omega
theorem degOk_at {l : List Int} (h : DegOk l) {k : Nat} (hk : k < l.length) : 1 ≤ l.getD k 0 ∧ l.getD k 0 ≤ 8 - sumP l k ∧ (0 < k → l.getD (k - 1) 0 ≤ l.getD k 0) := by
  have h1 := h.1 k hk
  have h2 := sumP_mono (i := k + 1) h.1 (by omega)
  rw [sumP] at h2
  have := h.2
  exact ⟨h1.1, by omega, h1.2.2⟩
/-- how often e is among the first k -/
def cntP (l : List Int) : Nat → Nat → Nat
  | 0, _ => 0
  | k + 1, e => cntP l k e + (if l.getD k 0 = (e : Int) then 1 else 0)
theorem cntP_le (l : List Int) (e : Nat) : ∀ k, cntP l k e ≤ k
  | 0 => Nat.le_refl _
  | k + 1 => by rw [cntP]; have := cntP_le l e k; split <;> omega
theorem cntP_zero (l : List Int) : cntP l 0 = fun _ => 0 := rfl
theorem cntP_more (l : List Int) {k d : Nat} (h : l.getD k 0 = (d : Int)) : cntP l (k + 1) = updT (cntP l k) d (cntP l k d + 1) := by
  funext e
  rw [cntP, updT, h]
  by_cases he : e = d
  · subst he; simp
  · rw [if_neg (by omega), if_neg he]; rfl
theorem cntP_none {l : List Int} {d : Nat} : ∀ {k : Nat}, (∀ i, i < k → l.getD i 0 < (d : Int)) → cntP l k d = 0
  | 0, _ => rfl
  | k + 1, h => by
    rw [cntP, cntP_none (fun i hi => h i (by omega))]
    have := h k (by omega)
    rw [if_neg (by omega)]
theorem cntP_ws {l : List Int} : ∀ {k : Nat}, DegU l k → ((wsT (cntP l k) 8 : Nat) : Int) = sumP l k
  | 0, _ => by rw [cntP_zero, wsT_none]; rfl
  | k + 1, h => by
    have ih := cntP_ws (degU_le h (Nat.le_succ k))
    obtain ⟨h1, h8, _⟩ := h k (by omega)
    obtain ⟨d, hd⟩ : ∃ d : Nat, l.getD k 0 = d := ⟨(l.getD k 0).toNat, by omega⟩
    rw [cntP_more l hd, wsT_upd _ _ _ 8 (by omega) (by omega), sumP, hd]
    push_cast
    rw [ih]; omega
/-- the ways to choose as the list says -/
def wayL (p : Int) (l : List Int) (k : Nat) : Int := prT p (cntP l k) 8
theorem wayL_zero (p : Int) (l : List Int) : wayL p l 0 = 1 := by rw [wayL, cntP_zero, prT_none]
theorem wayL_bd {p : Int} (hp : 2 ≤ p) (h97 : p ≤ 97) {l : List Int} {k : Nat} (h : DegU l k) (h8 : sumP l k ≤ 8) : 0 ≤ wayL p l k ∧ wayL p l k ≤ 7837433594376961 :=
  ⟨prT_pos _ _ _, prT_bd hp h97 (by have := cntP_ws h; omega)⟩
/-- one round of impl: what is multiplied, and the quotient -/
theorem wayL_more {p : Int} (hp : 2 ≤ p) (h97 : p ≤ 97) {l : List Int} {k d : Nat} (hd : l.getD k 0 = (d : Int)) (h1 : 1 ≤ d) (h8 : d ≤ 8) :
    wayL p l k * (irrN p d - (cntP l k d : Int)) = ((cntP l k d : Int) + 1) * wayL p l (k + 1) ∧ wayL p l k * (irrN p d - (cntP l k d : Int)) / ((cntP l k d : Int) + 1) = wayL p l (k + 1) := by
  have h := prT_more p (cntP l k) h1 h8
  rw [nI_is hp h1 h8, ← cntP_more l hd] at h
  refine ⟨h, ?_⟩
  rw [show wayL p l k * (irrN p d - (cntP l k d : Int)) = ((cntP l k d : Int) + 1) * wayL p l (k + 1) from h]
  exact Int.mul_ediv_cancel_left _ (by omega)
/-- what impl's 'chosen' is, ahead of the round -/
def choP (l : List Int) (k : Nat) : Int := if k = 0 then 0 else (cntP l k (l.getD (k - 1) 0).toNat : Int)
theorem choP_next {l : List Int} {k d : Nat} (hd : l.getD k 0 = (d : Int)) : choP l (k + 1) = (cntP l k d : Int) + 1 := by
  rw [choP, if_neg (by omega), Nat.add_sub_cancel, hd, Int.toNat_natCast, cntP, if_pos hd]; push_cast; rfl
theorem choP_same {l : List Int} {k d : Nat} (hd : l.getD k 0 = (d : Int)) (h : k = 0 ∨ l.getD (k - 1) 0 = (d : Int)) : choP l k = (cntP l k d : Int) := by
  unfold choP
  split
  · rename_i h0; subst h0; rfl
  · rename_i h0
    rcases h with h | h
    · exact absurd h h0
    · rw [h, Int.toNat_natCast]
theorem choP_other {l : List Int} {k d : Nat} (hd : l.getD k 0 = (d : Int)) (hu : DegU l (k + 1)) (h0 : 0 < k) (h : l.getD (k - 1) 0 ≠ (d : Int)) : (cntP l k d : Int) = 0 := by
  rw [cntP_none]
  · rfl
  · intro i hi
    have a := degU_mono hu (i := i) (j := k - 1) (by omega) (by omega)
    have b := (hu k (by omega)).2.2 h0
    omega
theorem choP_bd (l : List Int) (k : Nat) : 0 ≤ choP l k ∧ choP l k ≤ k := by
  unfold choP
  split
  · omega
  · have := cntP_le l (l.getD (k - 1) 0).toNat k; omega
/-! what the function answers -/
def cntRes (q c : Int) : Int := if c = 0 then q else 0
def limC (n : Int) : Int := if 1000000000 < n then 3 else 0
def limQ (n : Int) : Int := if 1000000000 < n then 0 else n
/-- spec's numbers: as great as the limit allows -/
def capI (n : Int) : Int := if 1000000001 ≤ n then 1000000001 else n
theorem capI_bd {n : Int} (h : 0 ≤ n) : 0 ≤ capI n ∧ capI n ≤ 1000000001 := by
  unfold capI
  split <;> omega
theorem capI_zero {n : Int} (h : 0 ≤ n) : capI n = 0 ↔ n = 0 := by
  unfold capI
  split <;> omega
theorem capI_great {n : Int} (h : 1000000001 ≤ n) : capI n = 1000000001 := if_pos h
theorem capI_less {n : Int} (h : ¬ 1000000001 ≤ n) : capI n = n := if_neg h
theorem capI_mul {a b : Int} (ha : 1 ≤ a) (hb : 1 ≤ b) : capI (capI a * capI b) = capI (a * b) := by
  have e1 : a * 1 ≤ a * b := Int.mul_le_mul_of_nonneg_left hb (by omega)
  have e2 : 1 * b ≤ a * b := Int.mul_le_mul_of_nonneg_right ha (by omega)
  by_cases h1 : 1000000001 ≤ a
  · rw [capI_great h1, capI_great (n := a * b) (by omega)]
    have : 1 ≤ capI b := by unfold capI; split <;> omega
    exact capI_great (by omega)
  · by_cases h2 : 1000000001 ≤ b
    · rw [capI_great h2, capI_great (n := a * b) (by omega)]
      have : 1 ≤ capI a := by unfold capI; split <;> omega
      exact capI_great (by omega)
    · rw [capI_less h1, capI_less h2]
theorem lim_cap {n : Int} : limC (capI n) = limC n ∧ limQ (capI n) = limQ n := by
  by_cases h : 1000000001 ≤ n
  · rw [capI_great h]
    unfold limC limQ
    rw [if_pos (by omega), if_pos (by omega), if_pos (by omega), if_pos (by omega)]
    exact ⟨rfl, rfl⟩
  · rw [capI_less h]; exact ⟨rfl, rfl⟩
end Go.Proofs.Ytjmecidbnoimnaa
