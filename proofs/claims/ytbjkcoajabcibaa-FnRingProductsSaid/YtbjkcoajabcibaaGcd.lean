/- Contracts of the walk: impl.isValue, spec.l01Is, impl.greatestDivisor, spec.l01Abs, spec.l01Gcd, and both CommonDivisor. Values are integers from -10^12 to 10^12; gcd's contracts ask for values. -/
import Derived.Test.YtbjkcoajabcibaaPrime
import Derived.Deep.QuietTactic
import Derived.BigQuiet
import Derived.IntWalk
namespace Go.Proofs.Ytbjkcoajabcibaa
open Go.RowKit
set_option linter.unusedVariables false

theorem grown_drewN {W w : World} (h : Grown W w) (n : Nat) : Grown W (w.drewN n) := h
theorem isValue_yes (n : Int) (w : World) (h1 : -1000000000000 ≤ n) (h2 : n ≤ 1000000000000) :
    Calls Try.prog 181 #[.int .i64 n] w fun e w' => e = .returned (.bool true) ∧ w = w' := by
  go_enter Try.func181, Try.ntmps181
  go_wp2
  go_ret
  exact ⟨rfl, rfl⟩
theorem isValue_no (n : Int) (w : World) (h : n < -1000000000000 ∨ 1000000000000 < n) :
    Calls Try.prog 181 #[.int .i64 n] w fun e w' => e = .returned (.bool false) ∧ w = w' := by
  by_cases h1 : -1000000000000 ≤ n
  · have h2 : 1000000000000 < n := by omega
    clear h
    go_enter Try.func181, Try.ntmps181
    go_wp2
    go_ret
    exact ⟨ret_bool (decide_eq_false (by omega)), rfl⟩
  · clear h
    go_enter Try.func181, Try.ntmps181
    go_wp2
    go_ret
    exact ⟨rfl, rfl⟩
theorem isValue_any (n : Int) (w : World) :
    Calls Try.prog 181 #[.int .i64 n] w fun e w' => e = .returned (.bool (valueB n)) ∧ w = w' := by
  by_cases h : -1000000000000 ≤ n ∧ n ≤ 1000000000000
  · rw [valueB_t h.1 h.2]; exact isValue_yes n w h.1 h.2
  · rw [valueB_f h]; exact isValue_no n w (by omega)
set_option maxHeartbeats 400000 in
theorem gd_any (a b : Int) (w : World) (ha1 : -1000000000000 ≤ a) (ha2 : a ≤ 1000000000000) (hb1 : -1000000000000 ≤ b) (hb2 : b ≤ 1000000000000) :
    Calls Try.prog 129 #[.int .i64 a, .int .i64 b] w fun e w' => e = .returned (.int .i64 (Int.gcd a b)) ∧ ∃ n, w' = w.drewN n := by
  go_enter Try.func129, Try.ntmps129
  go_wp2
  go_loopw [0, 1] (fun s t wr => ∃ x y : Int, -1000000000000 ≤ x ∧ x ≤ 1000000000000 ∧ -1000000000000 ≤ y ∧ y ≤ 1000000000000 ∧ s = .int .i64 x ∧ t = .int .i64 y ∧ Int.gcd x y = Int.gcd a b ∧ ∃ n, wr = w.drewN n) (fun _ t _ => (intOf t).natAbs)
  case atStart => exact ⟨a, b, ha1, ha2, hb1, hb2, rfl, rfl, rfl, 0, rfl⟩
  case round =>
    obtain ⟨x, y, hx1, hx2, hy1, hy2, rfl, rfl, hg, n, rfl⟩ := hrel
    have HG := Lib.hid hg
    clear hg ha1 ha2 hb1 hb2
    by_cases hy : y = 0
    · subst hy
      go_wp2
      · go_ret
        exact ⟨ret_int (by have h := HG.out; rw [Int.gcd_zero_right] at h; rw [← h]; omega), n, rfl⟩
      · go_ret
        exact ⟨ret_int (by have h := HG.out; rw [Int.gcd_zero_right] at h; rw [← h]; omega), n, rfl⟩
    · have hy' : (y == 0) = false := by simpa using hy
      have hy'' : (y != 0) = true := by simpa using hy
      go_wp2
      go_quiet (fail)
      go_wp2
      have h1 := tmod_lt x hy
      have h2 := tmod_le x y
      refine ⟨⟨y, x.tmod y, by omega, by omega, by omega, by omega, rfl, rfl, by rw [gcd_tmod, HG.out], n + nq, by rw [World.drewN_drewN]⟩, by simpa [intOf] using h1⟩
end Go.Proofs.Ytbjkcoajabcibaa
