/- Plain mathematics: impl.readPower reads the text of a prime power back. -/
import Derived.Test.YtghhjeebcpcepaaDoorReadMath
import Derived.Test.YtghhjeebcpcepaaDoorReadPower
import Derived.Lib.IndexBytes
namespace Go.Proofs.YtghhjeebcpcepaaDoor
open Go.RowKit
set_option linter.unusedVariables false
theorem indexByte_no (b : UInt8) : ∀ (l : List UInt8), b ∉ l → Lib.indexByte l b = -1
  | [], _ => rfl
  | c :: r, h => by
    simp at h
    have ih := indexByte_no b r h.2
    unfold Lib.indexByte
    rw [if_neg (by simpa using fun e => h.1 e.symm), ih]; rfl
theorem indexByte_yes (b : UInt8) (r : List UInt8) : ∀ (l : List UInt8), b ∉ l → Lib.indexByte (l ++ b :: r) b = l.length
  | [], _ => by simp [Lib.indexByte]
  | c :: l, h => by
    simp at h
    have ih := indexByte_yes b r l h.2
    rw [List.cons_append]
    unfold Lib.indexByte
    rw [if_neg (by simpa using fun e => h.1 e.symm), ih, if_neg (by simp)]
    simp
theorem cut_no_byte (b : UInt8) (l : List UInt8) (h : b ∉ l) : Lib.cut l [b] = (l, [], false) := by
  unfold Lib.cut
  rw [Lib.index_one, indexByte_no b l h]; rfl
theorem cut_byte (b : UInt8) (l r : List UInt8) (h : b ∉ l) : Lib.cut (l ++ b :: r) [b] = (l, r, true) := by
  unfold Lib.cut
  rw [Lib.index_one, indexByte_yes b r l h, if_pos (by omega)]
  simp
theorem rdP_pwT {a k : Int} (hpi : ∀ n : Int, 0 ≤ n → n ≤ 1000000 → pI (Lib.itoa n) = some n) (a0 : 0 ≤ a) (a1 : a ≤ 1000000) (k0 : 1 ≤ k) (k1 : k ≤ 40) : rdP (bsOf (pwT (a, k))) = some (a, k) := by
  have na : (94 : UInt8) ∉ Lib.itoa a := by rw [itoa_nat a0]; exact dig_not (decDigits_val _).1 94 (by decide)
  unfold rdP
  show (match pI (Lib.cut (pwT (a, k)) [94]).1 with
    | none => none
    | some p => if (Lib.cut (pwT (a, k)) [94]).2.2 = true then (match pI (Lib.cut (pwT (a, k)) [94]).2.1 with
        | none => none
        | some k => some (p, k)) else some (p, 1)) = some (a, k)
  by_cases h : k = 1
  · subst h
    rw [pwT_one, cut_no_byte 94 _ na]
    simp [hpi a a0 a1]
  · have e : pwT (a, k) = Lib.itoa a ++ 94 :: Lib.itoa k := by unfold pwT; rw [if_neg h]
    rw [e, cut_byte 94 _ _ na]
    simp [hpi a a0 a1, hpi k (by omega) (by omega)]
theorem uintM_dig (M : Nat) (hM : 1000000000000000000 ≤ M) : ∀ (l : List UInt8) (acc : Nat), l.all isDig = true → (acc + 1) * 10 ^ l.length ≤ 1000000000000000000 →
    ∃ u, Lib.parseUintM M acc l = .ok u ∧ (u : Int) = l.foldl (fun n c => 10 * n + ((c.toNat : Int) - 48)) (acc : Int) ∧ u < 1000000000000000000
  | [], acc, _, h => ⟨acc, rfl, rfl, by simp at h; omega⟩
  | c :: r, acc, hd, h => by
    rw [List.all_cons, Bool.and_eq_true] at hd
    obtain ⟨hc, hr⟩ := hd
    simp only [isDig, decide_eq_true_eq] at hc
    rw [List.length_cons, Nat.pow_succ] at h
    have hp : 1 ≤ 10 ^ r.length := Nat.one_le_pow _ _ (by decide)
    have h2 : (acc + 1) * 10 * 10 ^ r.length ≤ 1000000000000000000 := by rw [Nat.mul_assoc, Nat.mul_comm 10]; exact h
    have h3 : (acc + 1) * 10 ≤ (acc + 1) * 10 * 10 ^ r.length := Nat.le_mul_of_pos_right _ hp
    have h4 : (acc * 10 + (c.toNat - 48) + 1) * 10 ^ r.length ≤ (acc + 1) * 10 * 10 ^ r.length := Nat.mul_le_mul_right _ (by omega)
    obtain ⟨u, e1, e2, e3⟩ := uintM_dig M hM r (acc * 10 + (c.toNat - 48)) hr (Nat.le_trans h4 h2)
    refine ⟨u, ?_, ?_, e3⟩
    · unfold Lib.parseUintM
      rw [if_pos (by omega), if_neg (by omega), if_neg (by omega)]; exact e1
    · rw [e2, List.foldl_cons]
      congr 1
      omega
theorem pI_itoa (n : Int) (h0 : 0 ≤ n) (h1 : n ≤ 1000000) : pI (Lib.itoa n) = some n := by
  obtain ⟨d1, d2⟩ := decDigits_val n.toNat
  have hl := decDigits_len 12 n.toNat (by omega)
  rw [itoa_nat h0]
  obtain ⟨l, hL⟩ : ∃ l, Lib.decDigits n.toNat = l := ⟨_, rfl⟩
  have hne : l ≠ [] := by rw [← hL, Lib.decDigits]; split <;> simp
  rw [hL] at d1 d2 hl ⊢
  match l, hne with
  | c :: r, _ =>
    have hc := d1
    rw [List.all_cons, Bool.and_eq_true] at hc
    have hc2 := hc.1
    simp only [isDig, decide_eq_true_eq] at hc2
    have hpow : (0 + 1) * 10 ^ (c :: r).length ≤ 1000000000000000000 := by
      rw [Nat.zero_add, Nat.one_mul]
      exact Nat.le_trans (Nat.pow_le_pow_right (by decide) hl) (by decide)
    obtain ⟨u, e1, e2, e3⟩ := uintM_dig (2 ^ 64 - 1) (by decide) (c :: r) 0 d1 hpow
    have hu : (u : Int) = n := by rw [e2]; show valL (c :: r) = n; rw [d2]; omega
    have hpu : Lib.parseUintB 64 (c :: r) = .ok u := by unfold Lib.parseUintB; rw [if_neg (by simp)]; exact e1
    have hpi : Lib.parseIntB 64 (c :: r) = .ok n := by
      unfold Lib.parseIntB
      simp only
      rw [if_neg (by omega), hpu]
      simp only
      rw [if_neg (by omega), if_neg (by omega), if_neg (by omega), hu]
    unfold pI
    rw [hpi]
theorem rdP_text {a k : Int} (a0 : 0 ≤ a) (a1 : a ≤ 1000000) (k0 : 1 ≤ k) (k1 : k ≤ 40) : rdP (bsOf (pwT (a, k))) = some (a, k) := rdP_pwT pI_itoa a0 a1 k0 k1
end Go.Proofs.YtghhjeebcpcepaaDoor
