/- Contracts of the walk: chapter 5's methods in impl and spec's l05Make: valid rational numbers, lowest terms, results, the codes of two numbers, sums, products, made numbers. -/
import Derived.Test.YtgckamlibbjgcaaRatLow
import Derived.Test.YtgckamlibbjgcaaPadExp2
import Derived.RegionTactic
namespace Go.Proofs.Ytgckamlibbjgcaa
open Go.RowKit
set_option linter.unusedVariables false
set_option linter.unusedSimpArgs false
set_option maxRecDepth 20000
set_option maxHeartbeats 400000 in
theorem gdW_any (a b : Int) (w : World) (ha1 : -4000000000000000000 ≤ a) (ha2 : a ≤ 4000000000000000000) (hb1 : -4000000000000000000 ≤ b) (hb2 : b ≤ 4000000000000000000) :
    Calls Try.prog 128 #[.int .i64 a, .int .i64 b] w fun e w' => e = .returned (.int .i64 (Int.gcd a b)) ∧ ∃ n, w' = w.drewN n := by
  go_enter Try.func128, Try.ntmps128
  go_wp2
  go_loopw [0, 1] (fun s t wr => ∃ x y : Int, -4000000000000000000 ≤ x ∧ x ≤ 4000000000000000000 ∧ -4000000000000000000 ≤ y ∧ y ≤ 4000000000000000000 ∧ s = .int .i64 x ∧ t = .int .i64 y ∧ Int.gcd x y = Int.gcd a b ∧ ∃ n, wr = w.drewN n) (fun _ t _ => (intOf t).natAbs)
  case atStart => exact ⟨a, b, ha1, ha2, hb1, hb2, rfl, rfl, rfl, 0, rfl⟩
  case round =>
    obtain ⟨x, y, hx1, hx2, hy1, hy2, rfl, rfl, hg, n, rfl⟩ := hrel
    have HG := Lib.hid hg
    clear hg ha1 ha2 hb1 hb2
    by_cases hy : y = 0
    · subst hy
      go_wp2
      · go_ret
        exact ⟨ret_int (by have h := HG.out; rw [Int.gcd_zero_right] at h; rw [← h]; omega), n, rfl⟩
      · go_ret
        exact ⟨ret_int (by have h := HG.out; rw [Int.gcd_zero_right] at h; rw [← h]; omega), n, rfl⟩
    · have hy' : (y == 0) = false := by simpa using hy
      have hy'' : (y != 0) = true := by simpa using hy
      go_wp2
      go_quiet (fail)
      go_wp2
      have h1 := tmod_lt x hy
      have h2 := tmod_le x y
      refine ⟨⟨y, x.tmod y, by omega, by omega, by omega, by omega, rfl, rfl, by rw [gcd_tmod, HG.out], n + nq, by rw [World.drewN_drewN]⟩, by simpa [intOf] using h1⟩
theorem l01AbsW_any (a : Int) (w : World) (h1 : -4000000000000000000 ≤ a) (h2 : a ≤ 4000000000000000000) :
    Calls Try.prog 126 #[.int .i64 a] w fun e w' => e = .returned (.int .i64 (a.natAbs : Int)) ∧ w = w' := by
  by_cases h : 0 ≤ a
  all_goals
    go_enter Try.func126, Try.ntmps126
    go_wp2
    go_ret
    exact ⟨ret_int (by omega), rfl⟩
set_option maxHeartbeats 400000 in
theorem l01GcdW_any (a b : Int) (w : World) (ha1 : -4000000000000000000 ≤ a) (ha2 : a ≤ 4000000000000000000) (hb1 : -4000000000000000000 ≤ b) (hb2 : b ≤ 4000000000000000000) :
    Calls Try.prog 94 #[.int .i64 a, .int .i64 b] w fun e w' => e = .returned (.int .i64 (Int.gcd a b)) ∧ ∃ n, w' = w.drewN n := by
  go_enter Try.func94, Try.ntmps94
  go_wp2_with (go_at_call 126; refine (l01AbsW_any _ _ (by omega) (by omega)).mono ?_; rintro e w' ⟨rfl, rfl⟩)
  go_loopw [0, 1] (fun s t wr => ∃ x y : Nat, x ≤ 4000000000000000000 ∧ y ≤ 4000000000000000000 ∧ s = .int .i64 x ∧ t = .int .i64 y ∧ Int.gcd x y = Int.gcd a b ∧ ∃ n, wr = w.drewN n) (fun _ t _ => (intOf t).natAbs)
  case atStart => exact ⟨a.natAbs, b.natAbs, by omega, by omega, rfl, rfl, rfl, 0, rfl⟩
  case round =>
    obtain ⟨x, y, hx2, hy2, rfl, rfl, hg, n, rfl⟩ := hrel
    have HG := Lib.hid hg
    clear hg ha1 ha2 hb1 hb2
    by_cases hy : y = 0
    · subst hy
      go_wp2
      go_ret
      exact ⟨ret_int (by rw [← HG.out, Int.natCast_zero, Int.gcd_zero_right]; omega), n, rfl⟩
    · have hy' : ((y : Int) == 0) = false := by simpa using hy
      have hy'' : ((y : Int) != 0) = true := by simpa using hy
      go_wp2
      go_quiet (fail)
      go_wp2
      have h1 : x % y < y := Nat.mod_lt _ (by omega)
      exact ⟨⟨y, x % y, by omega, by omega, rfl, by rw [Int.natCast_emod], by rw [← HG.out]; exact gcd_nmod x y, n + nq, by rw [World.drewN_drewN]⟩, by simp only [intOf]; omega⟩
theorem ratValid_any (n d : Int) (w : World) :
    Calls Try.prog 95 #[.agg (P2 n d)] w fun e w' => e = .returned (.bool (isRatB n d)) ∧ Below w.heap.size w w' := by
  cases hn : valueB n
  · have HE := Lib.hid (isRat_val (d := d) hn)
    go_enter Try.func95, Try.ntmps95
    go_wp2_with (first | (go_at_call 127; refine (isValue_any _ _).mono ?_; rintro e w' ⟨rfl, rfl⟩))
    go_ret
    exact ⟨ret_bool HE.out.symm, by first | exact below_a1 w _ | exact below_drewN (below_a1 w _) _⟩
  · cases hd : valueB d
    · have HE := Lib.hid (show isRatB n d = false by
        cases h : isRatB n d
        · rfl
        · obtain ⟨_, _, h3, h4, _⟩ := isRat_of h
          rw [valueB_t (by omega) h4] at hd; cases hd)
      go_enter Try.func95, Try.ntmps95
      go_wp2_with (first | (go_at_call 127; refine (isValue_any _ _).mono ?_; rintro e w' ⟨rfl, rfl⟩))
      go_ret
      exact ⟨ret_bool HE.out.symm, by first | exact below_a1 w _ | exact below_drewN (below_a1 w _) _⟩
    · by_cases h0 : 0 < d
      · have bn := valueB_bd hn
        have bd := valueB_bd hd
        have HE := Lib.hid (show isRatB n d = ((Int.gcd n d : Int) == 1) by
          rw [isRatB, hn, inB_t (by omega) bd.2]
          cases hg : ((Int.gcd n d : Int) == 1)
          · rw [decide_eq_false (by simp at hg; omega)]; rfl
          · rw [decide_eq_true (by simp at hg; omega)]; rfl)
        obtain ⟨bn1, bn2⟩ := bn
        obtain ⟨bd1, bd2⟩ := bd
        go_enter Try.func95, Try.ntmps95
        go_wp2_with (first | (go_at_call 127; refine (isValue_any _ _).mono ?_; rintro e w' ⟨rfl, rfl⟩) | (go_at_call 128; refine (gdW_any _ _ _ (by omega) (by omega) (by omega) (by omega)).mono ?_; rintro e w' ⟨rfl, nd, rfl⟩))
        go_ret
        exact ⟨ret_bool HE.out.symm, by first | exact below_a1 w _ | exact below_drewN (below_a1 w _) _⟩
      · have HE := Lib.hid (show isRatB n d = false by
          cases h : isRatB n d
          · rfl
          · obtain ⟨_, _, h3, h4, _⟩ := isRat_of h
            omega)
        go_enter Try.func95, Try.ntmps95
        go_wp2_with (first | (go_at_call 127; refine (isValue_any _ _).mono ?_; rintro e w' ⟨rfl, rfl⟩))
        go_ret
        exact ⟨ret_bool HE.out.symm, by first | exact below_a1 w _ | exact below_drewN (below_a1 w _) _⟩
theorem specIsRational_any (n d : Int) (w : World) :
    Calls Try.prog 104 #[.agg (P2 n d)] w fun e w' => e = .returned (.bool (isRatB n d)) ∧ Below w.heap.size w w' := by
  cases hn : valueB n
  · have HE := Lib.hid (isRat_val (d := d) hn)
    go_enter Try.func104, Try.ntmps104
    go_wp2_with (first | (go_at_call 102; refine (l01Is_any _ _).mono ?_; rintro e w' ⟨rfl, rfl⟩))
    go_ret
    exact ⟨ret_bool HE.out.symm, by first | exact below_a1 w _ | exact below_drewN (below_a1 w _) _⟩
  · cases hd : inB d 1 1000000000000
    · have HE := Lib.hid (show isRatB n d = false by simp [isRatB, hd])
      go_enter Try.func104, Try.ntmps104
      go_wp2_with (first | (go_at_call 102; refine (l01Is_any _ _).mono ?_; rintro e w' ⟨rfl, rfl⟩) | (go_at_call 70; refine (in_any _ _ _ _).mono ?_; rintro e w' ⟨rfl, rfl⟩))
      go_ret
      exact ⟨ret_bool HE.out.symm, by first | exact below_a1 w _ | exact below_drewN (below_a1 w _) _⟩
    · obtain ⟨bn1, bn2⟩ := valueB_bd hn
      have bd : 1 ≤ d ∧ d ≤ 1000000000000 := by simpa [inB] using hd
      obtain ⟨bd1, bd2⟩ := bd
      have HE := Lib.hid (show isRatB n d = ((Int.gcd n d : Int) == 1) by
        rw [isRatB, hn, hd]
        cases hg : ((Int.gcd n d : Int) == 1)
        · rw [decide_eq_false (by simp at hg; omega)]; rfl
        · rw [decide_eq_true (by simp at hg; omega)]; rfl)
      go_enter Try.func104, Try.ntmps104
      go_wp2_with (first | (go_at_call 102; refine (l01Is_any _ _).mono ?_; rintro e w' ⟨rfl, rfl⟩) | (go_at_call 70; refine (in_any _ _ _ _).mono ?_; rintro e w' ⟨rfl, rfl⟩) | (go_at_call 94; refine (l01GcdW_any _ _ _ (by omega) (by omega) (by omega) (by omega)).mono ?_; rintro e w' ⟨rfl, nd, rfl⟩))
      go_ret
      exact ⟨ret_bool HE.out.symm, by first | exact below_a1 w _ | exact below_drewN (below_a1 w _) _⟩
theorem implIsRational_any (n d : Int) (w : World) :
    Calls Try.prog 40 #[.agg (P2 n d)] w fun e w' => e = .returned (.bool (isRatB n d)) ∧ Below w.heap.size w w' := by
  go_enter Try.func40, Try.ntmps40
  go_wp2_with (go_at_call 95; refine (ratValid_any _ _ _).mono ?_; rintro e wn ⟨rfl, hb⟩)
  go_ret
  exact ⟨rfl, (k1_first hb).1⟩
theorem ratZero_any (n d : Int) (w : World) :
    Calls Try.prog 96 #[.agg (P2 n d)] w fun e w' => e = .returned (.bool (n == 0)) ∧ Below w.heap.size w w' := by
  go_enter Try.func96, Try.ntmps96
  go_wp2
  go_ret
  exact ⟨rfl, below_a1 w _⟩
end Go.Proofs.Ytgckamlibbjgcaa
