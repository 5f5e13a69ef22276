/- Contract of the walk: spec.l01Value answers the number that a string writes, and whether it is written as l01Dec does. -/
import Derived.Test.YtejgcamogjgdkaaDoorDec
namespace Go.Proofs.YtejgcamogjgdkaaDoor
open Go.RowKit
set_option linter.unusedVariables false
def isDig (c : UInt8) : Bool := decide (48 ≤ (c.toNat : Int) ∧ (c.toNat : Int) ≤ 57)
def valL (l : List UInt8) : Int := l.foldl (fun n c => 10 * n + ((c.toNat : Int) - 48)) 0
theorem valL_snoc (l : List UInt8) (c : UInt8) : valL (l ++ [c]) = 10 * valL l + ((c.toNat : Int) - 48) := by simp [valL]
theorem fold_bd : ∀ (l : List UInt8) (n : Int), 0 ≤ n → l.all isDig = true → 0 ≤ l.foldl (fun n c => 10 * n + ((c.toNat : Int) - 48)) n ∧ l.foldl (fun n c => 10 * n + ((c.toNat : Int) - 48)) n < (n + 1) * 10 ^ l.length
  | [], n, h0, _ => by simp; omega
  | c :: r, n, h0, h => by
    rw [List.all_cons, Bool.and_eq_true] at h
    obtain ⟨hc, hr⟩ := h
    simp only [isDig, decide_eq_true_eq] at hc
    have ih := fold_bd r (10 * n + ((c.toNat : Int) - 48)) (by omega) hr
    refine ⟨ih.1, Int.lt_of_lt_of_le ih.2 ?_⟩
    rw [List.length_cons, Int.pow_succ, Int.mul_comm ((10 : Int) ^ r.length) 10, ← Int.mul_assoc]
    exact Int.mul_le_mul_of_nonneg_right (by omega) (Int.le_of_lt (Int.pow_pos (by decide)))
theorem valL_bd (l : List UInt8) (h : l.all isDig = true) : 0 ≤ valL l ∧ valL l < 10 ^ l.length := by
  have := fold_bd l 0 (Int.le_refl _) h
  unfold valL; simpa using this
theorem takeS (s : ByteArray) (k : Nat) (h : k < s.size) : s.data.toList.take (k + 1) = s.data.toList.take k ++ [s[k]] := by
  rw [List.take_succ_eq_append_getElem (by simpa using h)]; rfl
theorem dig_bd (s : ByteArray) (k : Nat) (hk : k ≤ 13) (h : (s.data.toList.take k).all isDig = true) : 0 ≤ valL (s.data.toList.take k) ∧ valL (s.data.toList.take k) ≤ 10000000000000 := by
  have hb := valL_bd _ h
  have hl : (s.data.toList.take k).length ≤ 13 := Nat.le_trans (List.length_take_le _ _) hk
  have hp : (10 : Int) ^ (s.data.toList.take k).length ≤ 10 ^ 13 := by
    have h2 : (10 : Nat) ^ (s.data.toList.take k).length ≤ 10 ^ 13 := Nat.pow_le_pow_right (by decide) hl
    exact_mod_cast h2
  omega
theorem bs_beq (a b : ByteArray) : (a.toList == b.toList) = decide (a = b) := by
  rw [ByteArray.toList_eq, ByteArray.toList_eq]
  by_cases h : a = b
  · simp [h]
  · have : ¬ a.data = b.data := fun e => h (by cases a; cases b; simp at e; rw [e])
    simp [h, this]
/-- the value and whether the text is the number's own -/
def rdV (s : ByteArray) : Int := if 1 ≤ s.size ∧ s.size ≤ 13 ∧ s.data.toList.all isDig = true then valL s.data.toList else 0
def rdOk (s : ByteArray) : Bool := if 1 ≤ s.size ∧ s.size ≤ 13 ∧ s.data.toList.all isDig = true then decide (bsOf (Lib.itoa (valL s.data.toList)) = s) else false
theorem rd_len {s : ByteArray} (h : s.size < 1 ∨ 13 < s.size) : rdV s = 0 ∧ rdOk s = false := by
  unfold rdV rdOk
  rw [if_neg (by omega), if_neg (by omega)]; exact ⟨rfl, rfl⟩
theorem rd_bad {s : ByteArray} {k : Nat} (hk : k < s.size) (h : isDig s[k] = false) : rdV s = 0 ∧ rdOk s = false := by
  have hn : ¬ (s.data.toList.all isDig = true) := by
    intro ha
    rw [List.all_eq_true] at ha
    have := ha s[k] (by show s.data[k] ∈ s.data.toList; simp)
    rw [h] at this; cases this
  unfold rdV rdOk
  rw [if_neg (fun x => hn x.2.2), if_neg (fun x => hn x.2.2)]; exact ⟨rfl, rfl⟩
theorem rd_good {s : ByteArray} (h1 : 1 ≤ s.size) (h2 : s.size ≤ 13) (h : s.data.toList.all isDig = true) : rdV s = valL s.data.toList ∧ rdOk s = decide (bsOf (Lib.itoa (valL s.data.toList)) = s) := by
  unfold rdV rdOk
  rw [if_pos ⟨h1, h2, h⟩, if_pos ⟨h1, h2, h⟩]; exact ⟨rfl, rfl⟩
theorem ret_intbool {k : IntKind} {a b : Int} {c d : Bool} (h : a = b) (h' : c = d) : Ending.returned (.tuple #[.int k a, .bool c]) = .returned (.tuple #[.int k b, .bool d]) := by rw [h, h']
end Go.Proofs.YtejgcamogjgdkaaDoor
