/- Contracts of the walk: chapter 10: powers, codes, Moebius numbers, the counts of square-free polynomials. -/
import Derived.Test.YtjmecidbnoimnaaFact
import Derived.Test.YtjmecidbnoimnaaCntDeg
import Derived.Test.YtjmecidbnoimnaaVal
namespace Go.Proofs.Ytjmecidbnoimnaa
open Go.RowKit
set_option linter.unusedVariables false
set_option linter.unusedSimpArgs false
set_option maxRecDepth 20000
theorem powN_round {p : Int} (hp2 : 2 ≤ p) (hp97 : p ≤ 97) {i k : Nat} (h : i < k) (h8 : k ≤ 8) : p ^ (i + 1) = p ^ i * p ∧ 1 ≤ p ^ i ∧ p ^ i * p ≤ 7837433594376961 := by
  have e := Int.pow_succ p i
  have a := pow_97 hp2 hp97 (k := i + 1) (by omega)
  have b := pow_97 hp2 hp97 (k := i) (by omega)
  exact ⟨e, b.1, by rw [← e]; exact a.2⟩
theorem primePowN_any (p : Int) (k : Nat) (w : World) (hp2 : 2 ≤ p) (hp97 : p ≤ 97) (h8 : k ≤ 8) :
    Calls Try.prog 57 #[.int .i64 p, .int .i64 k] w fun e w' => e = .returned (.int .i64 (p ^ k)) ∧ w = w' := by
  go_enter Try.func57, Try.ntmps57
  go_wp2
  go_loop [5, 7] (fun m i => ∃ I : Nat, m = .int .i64 (p ^ I) ∧ i = .int .i64 I ∧ I ≤ k) (fun _ i => k - (intOf i).toNat)
  case atStart => exact ⟨0, by simp, rfl, by omega⟩
  case round =>
    obtain ⟨I, rfl, rfl, h3⟩ := hrel
    by_cases hlt : I < k
    · obtain ⟨e1, e2, e3⟩ := powN_round hp2 hp97 hlt h8
      obtain ⟨x, hx⟩ : ∃ x, p ^ I = x := ⟨_, rfl⟩
      rw [hx] at e1 e2 e3 ⊢
      have HS := Lib.hid e1
      have h0 : 0 ≤ x * p := Int.mul_nonneg (by omega) (by omega)
      have hik : (I : Int) < (k : Int) := by omega
      clear hx e1
      go_wp2
      exact ⟨⟨I + 1, by rw [HS.out], rfl, by omega⟩, by simp only [intOf]; omega⟩
    · obtain rfl : I = k := by omega
      obtain ⟨x, hx⟩ : ∃ x, p ^ I = x := ⟨_, rfl⟩
      rw [hx]
      have HX := Lib.hid hx
      clear hx
      go_wp2
      go_ret
      rw [HX.out]; exact ⟨rfl, rfl⟩
theorem l10Power_any (p : Int) (k : Nat) (w : World) (hp2 : 2 ≤ p) (hp97 : p ≤ 97) (h8 : k ≤ 8) :
    Calls Try.prog 58 #[.int .i64 p, .int .i64 k] w fun e w' => e = .returned (.int .i64 (p ^ k)) ∧ w = w' := by
  go_enter Try.func58, Try.ntmps58
  go_wp2
  go_loop [1, 5] (fun n m => ∃ (I : Nat) (y : Int), m = .int .i64 (p ^ I) ∧ n = .int .i64 y ∧ y = (k : Int) - I ∧ I ≤ k) (fun n _ => (intOf n).toNat)
  case atStart => exact ⟨0, k, by simp, rfl, by omega, by omega⟩
  case round =>
    obtain ⟨I, y, rfl, rfl, hy, h3⟩ := hrel
    by_cases hlt : I < k
    · obtain ⟨e1, e2, e3⟩ := powN_round hp2 hp97 hlt h8
      obtain ⟨x, hx⟩ : ∃ x, p ^ I = x := ⟨_, rfl⟩
      rw [hx] at e1 e2 e3 ⊢
      have HS := Lib.hid e1
      have HY := Lib.hid hy
      have h0 : 0 ≤ x * p := Int.mul_nonneg (by omega) (by omega)
      have hy1 : 0 < y := by omega
      have hy2 : y ≤ 8 := by omega
      clear hx e1 hy
      go_wp2
      exact ⟨⟨I + 1, y - 1, by rw [HS.out], rfl, by have := HY.out; omega, by omega⟩, by simp only [intOf]; omega⟩
    · obtain rfl : I = k := by omega
      have hy0 : y = 0 := by omega
      obtain ⟨x, hx⟩ : ∃ x, p ^ I = x := ⟨_, rfl⟩
      rw [hx]
      have HX := Lib.hid hx
      clear hx hy
      subst hy0
      go_wp2
      go_ret
      rw [HX.out]; exact ⟨rfl, rfl⟩
/-! codes -/
def numC (p n lo hi : Int) : Int := if smallB p then (if inB n lo hi then 0 else 2) else 1
theorem l10Code_any (p n lo hi : Int) (w : World) :
    Calls Try.prog 54 #[.int .i64 p, .int .i64 n, .int .i64 lo, .int .i64 hi] w fun e w' => e = .returned (.int .i64 (numC p n lo hi)) ∧ w = w' := by
  unfold numC
  cases hs : smallB p
  · go_enter Try.func54, Try.ntmps54
    go_wp2_with (go_at_call 63; refine (l01Small_any _ _).mono ?_; rw [hs]; rintro e w' ⟨rfl, rfl⟩)
    go_ret
    exact ⟨rfl, rfl⟩
  · cases hi' : inB n lo hi
    · go_enter Try.func54, Try.ntmps54
      go_wp2_with (first | (go_at_call 63; refine (l01Small_any _ _).mono ?_; rw [hs]; rintro e w' ⟨rfl, rfl⟩) | (go_at_call 64; refine (in_any _ _ _ _).mono ?_; rw [hi']; rintro e w' ⟨rfl, rfl⟩))
      go_ret
      exact ⟨rfl, rfl⟩
    · go_enter Try.func54, Try.ntmps54
      go_wp2_with (first | (go_at_call 63; refine (l01Small_any _ _).mono ?_; rw [hs]; rintro e w' ⟨rfl, rfl⟩) | (go_at_call 64; refine (in_any _ _ _ _).mono ?_; rw [hi']; rintro e w' ⟨rfl, rfl⟩))
      go_ret
      exact ⟨rfl, rfl⟩
theorem checkNumber_any (p n lo hi : Int) (w : World) :
    Calls Try.prog 51 #[.int .i64 p, .int .i64 n, .int .i64 lo, .int .i64 hi] w fun e w' => e = .returned (.int .i64 (numC p n lo hi)) ∧ w = w' := by
  unfold numC
  cases hs : smallB p
  · go_enter Try.func51, Try.ntmps51
    go_wp2_with (go_at_call 60; refine (basePrime_any _ _).mono ?_; rw [hs]; rintro e w' ⟨rfl, rfl⟩)
    go_ret
    exact ⟨rfl, rfl⟩
  · by_cases h1 : n < lo
    · rw [inB_f (.inl h1)]
      go_enter Try.func51, Try.ntmps51
      go_wp2_with (go_at_call 60; refine (basePrime_any _ _).mono ?_; rw [hs]; rintro e w' ⟨rfl, rfl⟩)
      go_ret
      exact ⟨rfl, rfl⟩
    · by_cases h2 : hi < n
      · rw [inB_f (.inr h2)]
        go_enter Try.func51, Try.ntmps51
        go_wp2_with (go_at_call 60; refine (basePrime_any _ _).mono ?_; rw [hs]; rintro e w' ⟨rfl, rfl⟩)
        go_ret
        exact ⟨rfl, rfl⟩
      · rw [inB_t (by omega) (by omega)]
        go_enter Try.func51, Try.ntmps51
        go_wp2_with (go_at_call 60; refine (basePrime_any _ _).mono ?_; rw [hs]; rintro e w' ⟨rfl, rfl⟩)
        go_ret
        exact ⟨rfl, rfl⟩
theorem l10Result_any (n : Int) (w : World) :
    Calls Try.prog 55 #[.int .i64 n] w fun e w' => e = .returned (.tuple #[.int .i64 (limQ n), .int .i64 (limC n)]) ∧ w = w' := by
  unfold limQ limC
  by_cases h : 1000000000 < n
  · rw [if_pos h, if_pos h]
    go_enter Try.func55, Try.ntmps55
    go_wp2
    go_ret2
    exact ⟨rfl, rfl⟩
  · rw [if_neg h, if_neg h]
    go_enter Try.func55, Try.ntmps55
    go_wp2
    go_ret2
    exact ⟨rfl, rfl⟩
theorem countOrLimit_any (n : Int) (w : World) :
    Calls Try.prog 52 #[.int .i64 n] w fun e w' => e = .returned (.tuple #[.int .i64 (limQ n), .int .i64 (limC n)]) ∧ w = w' := by
  unfold limQ limC
  by_cases h : 1000000000 < n
  · rw [if_pos h, if_pos h]
    go_enter Try.func52, Try.ntmps52
    go_wp2
    go_ret2
    exact ⟨rfl, rfl⟩
  · rw [if_neg h, if_neg h]
    go_enter Try.func52, Try.ntmps52
    go_wp2
    go_ret2
    exact ⟨rfl, rfl⟩
end Go.Proofs.Ytjmecidbnoimnaa
