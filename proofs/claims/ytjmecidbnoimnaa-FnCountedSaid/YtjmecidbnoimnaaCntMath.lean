/- Plain mathematics of chapter 10: Moebius numbers by the factors, and products of binomial coefficients. -/
import Derived.Test.YtjmecidbnoimnaaCountMath
import Derived.Test.YtjmecidbnoimnaaFactMath
import Derived.Test.YtjmecidbnoimnaaModFrob
namespace Go.Proofs.Ytjmecidbnoimnaa
set_option linter.unusedVariables false
set_option linter.unusedSimpArgs false
/-- the square of a prime number divides -/
def sqB (l : List (Int × Int)) : Bool := l.any fun a => decide (1 < a.2)
def mobL (l : List (Int × Int)) : Int := if sqB l then 0 else if l.length % 2 = 1 then -1 else 1
def sgN (k : Nat) : Int := if k % 2 = 1 then -1 else 1
theorem sgN_succ (k : Nat) : sgN (k + 1) = -sgN k := by unfold sgN; split <;> split <;> omega
def mobC (n : Int) : Int := if 1 ≤ n ∧ n ≤ 1000000 then 0 else 2
def mobQ (n : Int) : Int := if 1 ≤ n ∧ n ≤ 1000000 then mobL (factT n) else 0
theorem mobL_bd (l : List (Int × Int)) : -1 ≤ mobL l ∧ mobL l ≤ 1 := by
  unfold mobL
  split
  · omega
  · split <;> omega
theorem mob_small {d : Nat} (h1 : 1 ≤ d) (h8 : d ≤ 8) : mobL (factT (d : Int)) = moeT d := by
  have H : ∀ d : Fin 9, 1 ≤ d.1 → mobL (factT ((d.1 : Nat) : Int)) = moeT d.1 := by decide +kernel
  exact H ⟨d, by omega⟩ h1
theorem sq_take {l : List (Int × Int)} {k : Nat} (h : k < l.length) : sqB (l.take (k + 1)) = (sqB (l.take k) || decide (1 < (l.getD k (0, 0)).2)) := by
  unfold sqB
  rw [List.take_succ_eq_append_getElem h, List.any_append]
  simp [List.getD, h]
theorem sq_all {l : List (Int × Int)} {k : Nat} (hk : k < l.length) (h : 1 < (l.getD k (0, 0)).2) : sqB l = true := by
  unfold sqB
  rw [List.any_eq_true]
  refine ⟨l.getD k (0, 0), ?_, by simpa using h⟩
  simp [List.getD, hk]
/-! powers -/
theorem pow_step {p : Int} (hp : 2 ≤ p) (k : Nat) : 2 * p ^ k ≤ p ^ (k + 1) ∧ 1 ≤ p ^ k := by
  induction k with
  | zero => simp [Int.pow_succ]; omega
  | succ k ih =>
    have h : p ^ (k + 1 + 1) = p ^ (k + 1) * p := Int.pow_succ ..
    have h1 : 1 ≤ p ^ (k + 1) := by omega
    refine ⟨?_, h1⟩
    rw [h, Int.mul_comm 2]
    exact Int.mul_le_mul_of_nonneg_left hp (by omega)
theorem pow_up {p : Int} (hp : 2 ≤ p) {a b : Nat} (h : a ≤ b) : p ^ a ≤ p ^ b := by
  induction b with
  | zero => simp at h; subst h; exact Int.le_refl _
  | succ b ih =>
    rcases Nat.lt_or_ge b a with h2 | h2
    · rw [show a = b + 1 by omega]; exact Int.le_refl _
    · have := ih h2; have := pow_step hp b; omega
theorem pow_base {p : Int} (hp : 2 ≤ p) (h97 : p ≤ 97) : ∀ k : Nat, p ^ k ≤ 97 ^ k
  | 0 => by simp
  | k + 1 => by
    rw [Int.pow_succ, Int.pow_succ]
    have := pow_step hp k
    exact Int.mul_le_mul (pow_base hp h97 k) h97 (by omega) (by have := pow_base hp h97 k; omega)
theorem pow_97 {p : Int} (hp : 2 ≤ p) (h97 : p ≤ 97) {k : Nat} (h : k ≤ 8) : 1 ≤ p ^ k ∧ p ^ k ≤ 7837433594376961 := by
  refine ⟨(pow_step hp k).2, Int.le_trans (pow_up hp h) (Int.le_trans (pow_base hp h97 8) (by decide))⟩
theorem irr_bd {p : Int} (hp : 2 ≤ p) {n : Nat} (h1 : 1 ≤ n) (h8 : n ≤ 8) : 0 ≤ irrT p n n ∧ irrT p n n ≤ p ^ n := by
  have k1 := pow_step hp 1
  have k2 := pow_step hp 2
  have k3 := pow_step hp 3
  have k4 := pow_step hp 4
  have k5 := pow_step hp 5
  have k6 := pow_step hp 6
  have k7 := pow_step hp 7
  simp only [Nat.reduceAdd, pow_one'] at k1 k2 k3 k4 k5 k6 k7
  rcases (by omega : n = 1 ∨ n = 2 ∨ n = 3 ∨ n = 4 ∨ n = 5 ∨ n = 6 ∨ n = 7 ∨ n = 8) with rfl | rfl | rfl | rfl | rfl | rfl | rfl | rfl
  · rw [irr1, pow_one']; omega
  · rw [irr2]; omega
  · rw [irr3]; omega
  · rw [irr4]; omega
  · rw [irr5]; omega
  · rw [irr6]; omega
  · rw [irr7]; omega
  · rw [irr8]; omega
theorem irrN_bd {p : Int} (hp : 2 ≤ p) {n : Nat} (h1 : 1 ≤ n) (h8 : n ≤ 8) : 0 ≤ irrN p n ∧ irrN p n ≤ p ^ n := by
  obtain ⟨a, b⟩ := irr_bd hp h1 h8
  have h := irr_times p h1 h8
  have h0 : 0 ≤ irrN p n := by unfold irrN; exact Int.ediv_nonneg a (by omega)
  refine ⟨h0, Int.le_trans ?_ b⟩
  rw [← h]
  have : 1 * irrN p n ≤ (n : Int) * irrN p n := Int.mul_le_mul_of_nonneg_right (by omega) h0
  omega
/-- partial sums of spec -/
theorem moeT_bd (d : Nat) : -1 ≤ moeT d ∧ moeT d ≤ 1 := by
  unfold moeT
  split
  · omega
  · split <;> omega
theorem irrT_part {p : Int} (hp : 2 ≤ p) (h97 : p ≤ 97) {n : Nat} (h8 : n ≤ 8) : ∀ k : Nat, -((k : Int) * 7837433594376961) ≤ irrT p n k ∧ irrT p n k ≤ (k : Int) * 7837433594376961
  | 0 => by simp [irrT]
  | k + 1 => by
    have ih := irrT_part hp h97 h8 k
    rw [irrT]
    have hd : n / (k + 1) ≤ 8 := Nat.le_trans (Nat.div_le_self _ _) h8
    have hq := pow_97 hp h97 hd
    generalize p ^ (n / (k + 1)) = q at *
    have hm := moeT_bd (k + 1)
    have hmq : -7837433594376961 ≤ moeT (k + 1) * q ∧ moeT (k + 1) * q ≤ 7837433594376961 := by
      rcases (by omega : moeT (k + 1) = -1 ∨ moeT (k + 1) = 0 ∨ moeT (k + 1) = 1) with h | h | h <;> rw [h] <;> omega
    push_cast
    split <;> omega
/-- partial sums of impl -/
theorem cntT_part {p : Int} (hp : 2 ≤ p) (h97 : p ≤ 97) {n : Nat} : ∀ k : Nat, k ≤ 8 → 0 ≤ cntT p n k ∧ cntT p n k ≤ (k : Int) * 7837433594376961
  | 0, _ => by simp [cntT]
  | k + 1, h => by
    have ih := cntT_part hp h97 (n := n) k (by omega)
    rw [cntT]
    have hb := irr_bd hp (n := k + 1) (by omega) h
    have ht := irr_times p (n := k + 1) (by omega) h
    rw [ht]
    have hq := pow_97 hp h97 h
    push_cast
    split <;> omega
theorem cnt_last {p : Int} {n : Nat} (h1 : 1 ≤ n) (h8 : n ≤ 8) : (p ^ n - cntT p n (n - 1)) / (n : Int) = irrN p n := by
  have h := cnt_all p h1 h8
  obtain ⟨m, rfl⟩ : ∃ m, n = m + 1 := ⟨n - 1, by omega⟩
  rw [cntT, if_pos (Nat.mod_self _)] at h
  rw [← h, Nat.add_sub_cancel]
  rw [show cntT p (m + 1) m + ((m + 1 : Nat) : Int) * irrN p (m + 1) - cntT p (m + 1) m = ((m + 1 : Nat) : Int) * irrN p (m + 1) by omega]
  exact Int.mul_ediv_cancel_left _ (by omega)
/-! binomial coefficients -/
theorem bin_pos : ∀ n k : Nat, 0 ≤ binZ n k
  | n, 0 => by rw [bin_zero]; omega
  | 0, k + 1 => by rw [bin_out (by omega)]; omega
  | n + 1, k + 1 => by rw [binZ_succ]; have := bin_pos n k; have := bin_pos n (k + 1); omega
theorem bin_next (n k : Nat) : ((k : Int) + 1) * binZ n (k + 1) = ((n : Int) - k) * binZ n k := by
  have h := bin_mul n k
  rw [binZ_succ] at h
  grind
theorem bin_next' (n k : Nat) : binZ n k * ((n : Int) - k) = ((k : Int) + 1) * binZ n (k + 1) := by rw [bin_next, Int.mul_comm]
theorem bin_pow (n : Nat) : ∀ k : Nat, binZ n k ≤ (n : Int) ^ k
  | 0 => by rw [bin_zero]; simp
  | k + 1 => by
    have ih := bin_pow n k
    have h0 := bin_pos n (k + 1)
    have h1 := bin_pos n k
    have h := bin_next n k
    rcases Nat.lt_or_ge n k with hlt | hge
    · rw [bin_out (by omega)]; exact Int.pow_nonneg (by omega)
    · rw [Int.pow_succ]
      have a1 : 1 * binZ n (k + 1) ≤ ((k : Int) + 1) * binZ n (k + 1) := Int.mul_le_mul_of_nonneg_right (by omega) h0
      have a2 : ((n : Int) - k) * binZ n k ≤ (n : Int) * binZ n k := Int.mul_le_mul_of_nonneg_right (by omega) h1
      have a3 : (n : Int) * binZ n k ≤ (n : Int) * (n : Int) ^ k := Int.mul_le_mul_of_nonneg_left ih (by omega)
      have a4 : (n : Int) ^ k * (n : Int) = (n : Int) * (n : Int) ^ k := Int.mul_comm _ _
      omega
theorem bin_up {n i : Nat} (hn : 16 ≤ n) (hi : i < 8) : binZ n i ≤ binZ n (i + 1) := by
  have h := bin_next n i
  have h1 := bin_pos n i
  have a : ((i : Int) + 1) * binZ n i ≤ ((n : Int) - i) * binZ n i := Int.mul_le_mul_of_nonneg_right (by omega) h1
  rw [← h] at a
  exact Int.le_of_mul_le_mul_left a (by omega)
theorem bin_ups {n i : Nat} (hn : 16 ≤ n) : ∀ {j : Nat}, i ≤ j → j ≤ 8 → binZ n i ≤ binZ n j
  | 0, h, _ => by rw [show i = 0 by omega]; exact Int.le_refl _
  | j + 1, h, h8 => by
    rcases Nat.lt_or_ge j i with h2 | h2
    · rw [show i = j + 1 by omega]; exact Int.le_refl _
    · exact Int.le_trans (bin_ups hn h2 (by omega)) (bin_up hn (by omega))
theorem bin_small {n i : Nat} (hn : n ≤ 15) (hi : i ≤ 7) : binZ n i ≤ 1000000000 := by
  refine Int.le_trans (bin_pow n i) ?_
  have H : ∀ (n : Fin 16) (i : Fin 8), ((n.1 : Nat) : Int) ^ i.1 ≤ 1000000000 := by decide +kernel
  exact H ⟨n, by omega⟩ ⟨i, by omega⟩
/-- once greater than the limit, always greater -/
theorem bin_great {n i k : Nat} (h : 1000000000 < binZ n i) (hi : i ≤ k) (hk : k ≤ 8) (h7 : i ≤ 7) : 1000000000 < binZ n k := by
  have hn : 16 ≤ n := by
    rcases Nat.lt_or_ge n 16 with h2 | h2
    · have := bin_small (n := n) (by omega) h7; omega
    · exact h2
  have := bin_ups hn hi hk; omega
/-- the other way of being greater -/
theorem bin_great2 {n i k : Nat} {o : Int} (ho : binZ n i = o) (h0 : 1 ≤ o) (h1 : o ≤ 1000000000) (h : (1000000000000000 : Int) / o < (n : Int) - i) (hi : i < k) (hk : k ≤ 8) : 1000000000 < binZ n k := by
  have h2 := bin_next n i
  rw [ho] at h2
  have h3 : (1000000000000000 : Int) < ((n : Int) - i) * o := Int.lt_mul_of_ediv_lt (by omega) h
  have h4 : 1000000000 < binZ n (i + 1) := by
    have h8 : ((i : Int) + 1) * binZ n (i + 1) ≤ 8 * binZ n (i + 1) := Int.mul_le_mul_of_nonneg_right (by omega) (bin_pos _ _)
    omega
  rcases Nat.lt_or_ge (i + 1) 8 with h7 | h7
  · exact bin_great h4 hi hk (by omega)
  · rw [show k = i + 1 by omega]; exact h4
/-! products of choices -/
def nI (p : Int) (d : Nat) : Nat := (irrN p d).toNat
theorem nI_is {p : Int} (hp : 2 ≤ p) {d : Nat} (h1 : 1 ≤ d) (h8 : d ≤ 8) : (nI p d : Int) = irrN p d := by
  have := (irrN_bd hp h1 h8).1
  unfold nI; omega
/-- the product over the degrees up to k, with c d choices of the degree d -/
def prT (p : Int) (c : Nat → Nat) : Nat → Int
  | 0 => 1
  | k + 1 => prT p c k * binZ (nI p (k + 1)) (c (k + 1))
def wsT (c : Nat → Nat) : Nat → Nat
  | 0 => 0
  | k + 1 => wsT c k + (k + 1) * c (k + 1)
def updT (c : Nat → Nat) (d m : Nat) : Nat → Nat := fun e => if e = d then m else c e
theorem prT_pos (p : Int) (c : Nat → Nat) : ∀ k, 0 ≤ prT p c k
  | 0 => by simp [prT]
  | k + 1 => Int.mul_nonneg (prT_pos p c k) (bin_pos _ _)
theorem prT_congr (p : Int) {c c' : Nat → Nat} : ∀ k, (∀ e, 1 ≤ e → e ≤ k → c e = c' e) → prT p c k = prT p c' k
  | 0, _ => rfl
  | k + 1, h => by rw [prT, prT, prT_congr p k (fun e h1 h2 => h e h1 (by omega)), h (k + 1) (by omega) (Nat.le_refl _)]
theorem wsT_congr {c c' : Nat → Nat} : ∀ k, (∀ e, 1 ≤ e → e ≤ k → c e = c' e) → wsT c k = wsT c' k
  | 0, _ => rfl
  | k + 1, h => by rw [wsT, wsT, wsT_congr k (fun e h1 h2 => h e h1 (by omega)), h (k + 1) (by omega) (Nat.le_refl _)]
theorem wsT_upd (c : Nat → Nat) (d m : Nat) : ∀ k, d ≤ k → 1 ≤ d → wsT (updT c d (c d + m)) k = wsT c k + d * m
  | 0, h, h1 => by omega
  | k + 1, h, h1 => by
    rw [wsT, wsT]
    rcases Nat.lt_or_ge k d with h2 | h2
    · have e : d = k + 1 := by omega
      subst e
      rw [wsT_congr (c := updT c (k + 1) (c (k + 1) + m)) (c' := c) k (fun e h1 h2 => if_neg (by omega))]
      simp [updT]; rw [Nat.mul_add]; omega
    · rw [wsT_upd c d m k h2 h1]
      simp [updT, show k + 1 ≠ d by omega]; omega
theorem wsT_none : ∀ k, wsT (fun _ => 0) k = 0
  | 0 => rfl
  | k + 1 => by rw [wsT, wsT_none k]; simp
theorem prT_none (p : Int) : ∀ k, prT p (fun _ => 0) k = 1
  | 0 => rfl
  | k + 1 => by rw [prT, prT_none p k, bin_zero]; rfl
/-- one degree's choices turned: all but that factor stays -/
theorem prT_upd (p : Int) (c : Nat → Nat) (d : Nat) : ∀ k, 1 ≤ d → d ≤ k → ∃ A, 0 ≤ A ∧ ∀ m, prT p (updT c d m) k = A * binZ (nI p d) m
  | 0, h, h2 => by omega
  | k + 1, h, h2 => by
    rcases Nat.lt_or_ge k d with h3 | h3
    · have e : d = k + 1 := by omega
      subst e
      refine ⟨prT p c k, prT_pos _ _ _, fun m => ?_⟩
      rw [prT, prT_congr p (c := updT c (k + 1) m) (c' := c) k (fun e h1 h2 => if_neg (by omega))]
      simp [updT]
    · obtain ⟨A, hA, hm⟩ := prT_upd p c d k h h3
      refine ⟨A * binZ (nI p (k + 1)) (c (k + 1)), Int.mul_nonneg hA (bin_pos _ _), fun m => ?_⟩
      rw [prT, hm m]
      simp [updT, show k + 1 ≠ d by omega]
      rw [Int.mul_assoc, Int.mul_assoc, Int.mul_comm (binZ (nI p d) m)]
theorem updT_self (c : Nat → Nat) (d : Nat) : updT c d (c d) = c := by funext e; unfold updT; split <;> simp_all
/-- one more of the degree d -/
theorem prT_more (p : Int) (c : Nat → Nat) {d : Nat} (h1 : 1 ≤ d) (h8 : d ≤ 8) :
    prT p c 8 * ((nI p d : Int) - (c d : Int)) = ((c d : Int) + 1) * prT p (updT c d (c d + 1)) 8 := by
  obtain ⟨A, _, hm⟩ := prT_upd p c d 8 h1 h8
  have e1 := hm (c d)
  rw [updT_self] at e1
  rw [e1, hm, Int.mul_assoc, bin_next', ← Int.mul_assoc, ← Int.mul_assoc, Int.mul_comm A]
theorem prT_le {p : Int} (hp : 2 ≤ p) (c : Nat → Nat) : ∀ k, k ≤ 8 → prT p c k ≤ p ^ wsT c k
  | 0, _ => by simp [prT, wsT]
  | k + 1, h => by
    rw [prT, wsT, Int.pow_add]
    have ih := prT_le hp c k (by omega)
    refine Int.mul_le_mul ih ?_ (bin_pos _ _) (Int.le_trans (prT_pos p c k) ih)
    refine Int.le_trans (bin_pow _ _) ?_
    rw [Int.pow_mul]
    have hb := (irrN_bd hp (n := k + 1) (by omega) h).2
    rw [← nI_is hp (by omega) h] at hb
    generalize p ^ (k + 1) = q at *
    generalize c (k + 1) = m
    induction m with
    | zero => simp
    | succ m ihm =>
      rw [Int.pow_succ, Int.pow_succ]
      exact Int.mul_le_mul ihm hb (by omega) (Int.le_trans (Int.pow_nonneg (by omega)) ihm)
theorem prT_bd {p : Int} (hp : 2 ≤ p) (h97 : p ≤ 97) {c : Nat → Nat} (h : wsT c 8 ≤ 8) : prT p c 8 ≤ 7837433594376961 :=
  Int.le_trans (prT_le hp c 8 (Nat.le_refl _)) (pow_97 hp h97 h).2
end Go.Proofs.Ytjmecidbnoimnaa
