/- Contracts of the walk: spec.l01In, spec.l01Prime, impl.IsPrime, spec.IsPrime answer the Bool functions of the plain mathematics, for every integer argument (l01Prime: from 2 to 1000000). -/
import Derived.Test.YtbjkcoajabcibaaRows
import Derived.Test.YtbjkcoajabcibaaMath
import Derived.WalkKit
import Derived.ProofKit
import Derived.Lib.Hide
namespace Go.Proofs.Ytbjkcoajabcibaa
open Go.RowKit
set_option linter.unusedVariables false

theorem ret_bool {a b : Bool} (h : a = b) : Ending.returned (.bool a) = .returned (.bool b) := by rw [h]
theorem ret_int {k : IntKind} {a b : Int} (h : a = b) : Ending.returned (.int k a) = .returned (.int k b) := by rw [h]
theorem in_yes (n lo hi : Int) (w : World) (h1 : lo ≤ n) (h2 : n ≤ hi) :
    Calls Try.prog 102 #[.int .i64 n, .int .i64 lo, .int .i64 hi] w fun e w' => e = .returned (.bool true) ∧ w = w' := by
  go_enter Try.func102, Try.ntmps102
  go_wp2
  go_ret
  exact ⟨rfl, rfl⟩
theorem in_no (n lo hi : Int) (w : World) (h : n < lo ∨ hi < n) :
    Calls Try.prog 102 #[.int .i64 n, .int .i64 lo, .int .i64 hi] w fun e w' => e = .returned (.bool false) ∧ w = w' := by
  by_cases h1 : lo ≤ n
  · have h2 : hi < n := by omega
    clear h
    go_enter Try.func102, Try.ntmps102
    go_wp2
    go_ret
    exact ⟨ret_bool (decide_eq_false (by omega)), rfl⟩
  · clear h
    go_enter Try.func102, Try.ntmps102
    go_wp2
    go_ret
    exact ⟨rfl, rfl⟩
theorem in_any (n lo hi : Int) (w : World) :
    Calls Try.prog 102 #[.int .i64 n, .int .i64 lo, .int .i64 hi] w fun e w' => e = .returned (.bool (inB n lo hi)) ∧ w = w' := by
  by_cases h : lo ≤ n ∧ n ≤ hi
  · rw [inB_t h.1 h.2]; exact in_yes n lo hi w h.1 h.2
  · have h' : n < lo ∨ hi < n := by omega
    rw [inB_f h']; exact in_no n lo hi w h'
set_option maxHeartbeats 400000 in
theorem l01Prime_any (n : Int) (w : World) (h1 : 2 ≤ n) (h2 : n ≤ 1000000) :
    Calls Try.prog 154 #[.int .i64 n] w fun e w' => e = .returned (.bool (primeB n)) ∧ w = w' := by
  go_enter Try.func154, Try.ntmps154
  go_wp2
  go_loop [3] (fun d => ∃ k : Nat, 2 ≤ k ∧ k ≤ 1001 ∧ d = .int .i64 k ∧ NoDiv n k) (fun d => 2000 - (intOf d).toNat)
  case atStart => exact ⟨2, by omega, by omega, rfl, noDiv_two n⟩
  case round =>
    obtain ⟨k, hk2, hk3, rfl, hnd⟩ := hrel
    have hb := sq_bd hk3
    have HN := Lib.hid hnd
    clear hnd
    by_cases hle : (k : Int) * k ≤ n
    · have hk4 := sq_le_1000 h2 hle
      by_cases h0 : n % (k : Int) = 0
      · have HE := Lib.hid (primeB_false hk2 hle h0)
        go_wp2
        go_ret
        exact ⟨ret_bool HE.out.symm, rfl⟩
      · have HE := Lib.hid (noDiv_succ HN.out h0)
        go_wp2
        go_round
        case rel => exact ⟨k + 1, by omega, by omega, by go_num, HE.out⟩
        case measure => simp [intOf]; omega
    · have HE := Lib.hid (primeB_true HN.out (by omega))
      go_wp2
      go_ret
      exact ⟨ret_bool HE.out.symm, rfl⟩
set_option maxHeartbeats 400000 in
theorem implIsPrime_in (n : Int) (w : World) (h1 : 2 ≤ n) (h2 : n ≤ 1000000) :
    Calls Try.prog 157 #[.int .i64 n] w fun e w' => e = .returned (.bool (primeB n)) ∧ w = w' := by
  go_enter Try.func157, Try.ntmps157
  go_wp2
  go_loop [3] (fun d => ∃ k : Nat, 2 ≤ k ∧ k ≤ 1001 ∧ d = .int .i64 k ∧ NoDiv n k) (fun d => 2000 - (intOf d).toNat)
  case atStart => exact ⟨2, by omega, by omega, rfl, noDiv_two n⟩
  case round =>
    obtain ⟨k, hk2, hk3, rfl, hnd⟩ := hrel
    have hb := sq_bd hk3
    have HN := Lib.hid hnd
    clear hnd
    by_cases hle : (k : Int) * k ≤ n
    · have hk4 := sq_le_1000 h2 hle
      by_cases h0 : n % (k : Int) = 0
      · have HE := Lib.hid (primeB_false hk2 hle h0)
        go_wp2
        go_ret
        exact ⟨ret_bool HE.out.symm, rfl⟩
      · have HE := Lib.hid (noDiv_succ HN.out h0)
        go_wp2
        go_round
        case rel => exact ⟨k + 1, by omega, by omega, by go_num, HE.out⟩
        case measure => simp [intOf]; omega
    · have HE := Lib.hid (primeB_true HN.out (by omega))
      go_wp2
      go_ret
      exact ⟨ret_bool HE.out.symm, rfl⟩
theorem implIsPrime_any (n : Int) (w : World) :
    Calls Try.prog 157 #[.int .i64 n] w fun e w' => e = .returned (.bool (isPrimeB n)) ∧ w = w' := by
  by_cases h1 : 2 ≤ n
  · by_cases h2 : n ≤ 1000000
    · rw [isPrimeB_in h1 h2]; exact implIsPrime_in n w h1 h2
    · rw [isPrimeB_out (Or.inr (by omega))]
      go_enter Try.func157, Try.ntmps157
      go_wp2
      go_ret
      exact ⟨rfl, rfl⟩
  · rw [isPrimeB_out (Or.inl (by omega))]
    go_enter Try.func157, Try.ntmps157
    go_wp2
    go_ret
    exact ⟨rfl, rfl⟩
end Go.Proofs.Ytbjkcoajabcibaa
