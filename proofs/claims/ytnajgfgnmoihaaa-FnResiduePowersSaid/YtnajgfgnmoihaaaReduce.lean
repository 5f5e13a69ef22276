/- Contracts of the walk: both ReduceTo, both CountUnits, and the remainders that they use. -/
import Derived.Test.YtnajgfgnmoihaaaRingOf
import Derived.Test.YtnajgfgnmoihaaaOrdMath2
import Derived.BigQuiet
namespace Go.Proofs.Ytnajgfgnmoihaaa
open Go.RowKit
set_option linter.unusedVariables false
theorem remainder_any (x m : Int) (w : World) (h1 : 2 ≤ m) (h2 : m ≤ 1000000000) :
    Calls Try.prog 54 #[.int .i64 x, .int .i64 m] w fun e w' => e = .returned (.int .i64 (x % m)) ∧ w = w' := by
  have hm : (m == 0) = false := by simp; omega
  have hb := tmod_bd (x := x) (show 0 < m by omega)
  by_cases h : x.tmod m < 0
  · have HE := Lib.hid (rem_neg (by omega) h)
    go_enter Try.func54, Try.ntmps54
    go_wp2
    go_ret
    exact ⟨ret_int HE.out, rfl⟩
  · have HE := Lib.hid (rem_pos (by omega) h)
    go_enter Try.func54, Try.ntmps54
    go_wp2
    go_ret
    exact ⟨ret_int HE.out, rfl⟩
theorem l01Mod_any (x m : Int) (w : World) (h1 : 2 ≤ m) (h2 : m ≤ 1000000000) :
    Calls Try.prog 71 #[.int .i64 x, .int .i64 m] w fun e w' => e = .returned (.int .i64 (x % m)) ∧ w = w' := by
  have hm : (m == 0) = false := by simp; omega
  have hb := tmod_bd (x := x) (show 0 < m by omega)
  have HE := Lib.hid (mod_twice2 (x := x) (show 0 < m by omega))
  go_enter Try.func71, Try.ntmps71
  go_wp2
  go_ret
  exact ⟨ret_int HE.out, rfl⟩
def redV (p n x : Int) : Int := if ringM p n = 0 then 0 else if valueB x then x % ringM p n else 0
def redC (p n x : Int) : Int := if ringM p n = 0 then 1 else if valueB x then 0 else 2
theorem implReduceTo_any (p n x : Int) (w : World) :
    Calls Try.prog 35 #[.agg #[.int .i64 p, .int .i64 n], .int .i64 x] w fun e w' => e = .returned (.tuple #[.int .i64 (redV p n x), .int .i64 (redC p n x)]) ∧ Below w.heap.size w w' := by
  by_cases h0 : ringM p n = 0
  · have hc : ringC p n = 1 := by simp [ringC, h0]
    have hk : (ringC p n == 0) = false := by simp [hc]
    simp only [redV, redC, h0, if_true]
    clear h0
    go_enter Try.func35, Try.ntmps35
    go_wp2_with (go_at_call 50; refine (checkNil_any _ _ _).mono ?_; rintro e wn ⟨rfl, hb⟩; (first | have hH := keep_first hb | have hH := keep_next ⟨hB, c0, c1⟩ hb); obtain ⟨hB, c0, c1⟩ := hH)
    go_ret2
    exact ⟨ret_int2 rfl (by omega), hB⟩
  · have hc : ringC p n = 0 := by simp [ringC, h0]
    have hk : (ringC p n == 0) = true := by simp [hc]
    obtain ⟨_, _, _, _, hm1, hm2, _⟩ := ringM_bd h0
    cases hv : valueB x
    · simp only [redV, redC, h0, hv, if_false]
      clear h0
      go_enter Try.func35, Try.ntmps35
      go_wp2_with (first | (go_at_call 50; refine (checkNil_any _ _ _).mono ?_; rintro e wn ⟨rfl, hb⟩; (first | have hH := keep_first hb | have hH := keep_next ⟨hB, c0, c1⟩ hb); obtain ⟨hB, c0, c1⟩ := hH) | (go_at_call 69; refine (isValue_any _ _).mono ?_; rintro e wn ⟨rfl, rfl⟩))
      go_ret2
      exact ⟨rfl, hB⟩
    · simp only [redV, redC, h0, hv, if_true, if_false]
      clear h0
      go_enter Try.func35, Try.ntmps35
      go_wp2_with (first | (go_at_call 50; refine (checkNil_any _ _ _).mono ?_; rintro e wn ⟨rfl, hb⟩; (first | have hH := keep_first hb | have hH := keep_next ⟨hB, c0, c1⟩ hb); obtain ⟨hB, c0, c1⟩ := hH) | (go_at_call 69; refine (isValue_any _ _).mono ?_; rintro e wn ⟨rfl, rfl⟩) | (go_at_call 52; refine (implModulus_any _ _ _).mono ?_; rintro e wn ⟨rfl, hb⟩; (first | have hH := keep_first hb | have hH := keep_next ⟨hB, c0, c1⟩ hb); obtain ⟨hB, c0, c1⟩ := hH) | (go_at_call 54; refine (remainder_any _ _ _ hm1 hm2).mono ?_; rintro e wn ⟨rfl, rfl⟩))
      go_ret2
      exact ⟨rfl, hB⟩
theorem specReduceTo_any (p n x : Int) (w : World) :
    Calls Try.prog 36 #[.agg #[.int .i64 p, .int .i64 n], .int .i64 x] w fun e w' => e = .returned (.tuple #[.int .i64 (redV p n x), .int .i64 (redC p n x)]) ∧ Below w.heap.size w w' := by
  by_cases h0 : ringM p n = 0
  · have hd := ringB_f h0
    simp only [redV, redC, h0, if_true]
    clear h0
    go_enter Try.func36, Try.ntmps36
    go_wp2_with (go_at_call 27; refine (specIsRing_any _ _ _).mono ?_; rintro e wn ⟨rfl, hb⟩; (first | have hH := keep_first hb | have hH := keep_next ⟨hB, c0, c1⟩ hb); obtain ⟨hB, c0, c1⟩ := hH)
    go_ret2
    exact ⟨rfl, hB⟩
  · have hd := ringB_t h0
    obtain ⟨_, _, hn1, hn2, hm1, hm2, _⟩ := ringM_bd h0
    have H := Lib.hid (And.intro (ringM_in h0).1 (And.intro hn1 (show n ≤ 1000 by omega)))
    cases hv : valueB x
    · simp only [redV, redC, h0, hv, if_false]
      clear h0
      go_enter Try.func36, Try.ntmps36
      go_wp2_with (first | (go_at_call 27; refine (specIsRing_any _ _ _).mono ?_; rintro e wn ⟨rfl, hb⟩; (first | have hH := keep_first hb | have hH := keep_next ⟨hB, c0, c1⟩ hb); obtain ⟨hB, c0, c1⟩ := hH) | (go_at_call 70; refine (l01Is_any _ _).mono ?_; rintro e wn ⟨rfl, rfl⟩))
      go_ret2
      exact ⟨rfl, hB⟩
    · simp only [redV, redC, h0, hv, if_true, if_false]
      clear h0
      go_enter Try.func36, Try.ntmps36
      go_wp2_with (first | (go_at_call 27; refine (specIsRing_any _ _ _).mono ?_; rintro e wn ⟨rfl, hb⟩; (first | have hH := keep_first hb | have hH := keep_next ⟨hB, c0, c1⟩ hb); obtain ⟨hB, c0, c1⟩ := hH) | (go_at_call 70; refine (l01Is_any _ _).mono ?_; rintro e wn ⟨rfl, rfl⟩) | (go_at_call 57; refine (l02Modulus_any _ _ _ H.out.1 H.out.2.1 H.out.2.2).mono ?_; rintro e wn ⟨rfl, rfl⟩) | (go_at_call 71; refine (l01Mod_any _ _ _ hm1 hm2).mono ?_; rintro e wn ⟨rfl, rfl⟩))
      go_ret2
      exact ⟨rfl, hB⟩
end Go.Proofs.Ytnajgfgnmoihaaa
