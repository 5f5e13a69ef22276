/- Contracts of the walk: both PowerOf, both TeichmuellerOf, and the laws FnExactInverseOf, FnExactPowerOf, FnExactTeichmuellerOf. -/
import Derived.Test.YtgckamlibbjgcaaResid
import Derived.Test.YtgckamlibbjgcaaUnits
namespace Go.Proofs.Ytgckamlibbjgcaa
open Go.RowKit
set_option linter.unusedVariables false
def powC (p n a e : Int) : Int := if resC p n a = 0 then (if 0 ≤ e ∧ e ≤ 1000000000000 then 0 else 2) else resC p n a
def powV (p n a e : Int) : Int := if powC p n a e = 0 then powM a e.toNat (ringM p n) else 0
theorem implPower_any (p n a e : Int) (w : World) :
    Calls Try.prog 23 #[.agg #[.int .i64 p, .int .i64 n], .int .i64 a, .int .i64 e] w fun e' w' => e' = .returned (.tuple #[.int .i64 (powV p n a e), .int .i64 (powC p n a e)]) ∧ Below w.heap.size w w' := by
  by_cases hr : resC p n a = 0
  · have hk : (resC p n a == 0) = true := by simp [hr]
    obtain ⟨h0, ha0, ha1⟩ := resC_zero hr
    have ha := And.intro ha0 ha1
    have H0 := Lib.hid h0
    by_cases he : 0 ≤ e ∧ e ≤ 1000000000000
    · have he' : 0 ≤ e ∧ e ≤ 4000000000000000000 := by omega
      obtain ⟨he1, he2⟩ := he
      rw [show powV p n a e = powM a e.toNat (ringM p n) by simp [powV, powC, hr, he1, he2], show powC p n a e = 0 by simp [powC, hr, he1, he2]]
      clear h0 hr
      go_enter Try.func23, Try.ntmps23
      go_wp2_with (first | (go_at_call 58; refine (checkOne_any _ _ a _ _ ?_ ?_).mono ?_; (exact cell_second _ _ _ _); (exact size_second _ _ _); rintro e' wn ⟨rfl, hb⟩; have hH := keep_alloc hb; obtain ⟨hB, c0, c1⟩ := hH) | (go_at_call 71; refine (power_any _ _ _ _ _ H0.out ha he').mono ?_; rintro e wn ⟨rfl, hb⟩; (first | have hH := keep_first hb | have hH := keep_next ⟨hB, c0, c1⟩ hb); obtain ⟨hB, c0, c1⟩ := hH))
      go_ret2
      exact ⟨rfl, hB⟩
    · rw [show powV p n a e = 0 by simp [powV, powC, hr, he], show powC p n a e = 2 by simp [powC, hr, he]]
      clear h0 hr
      by_cases he1 : 0 ≤ e
      · have he2 : 1000000000000 < e := by omega
        clear he
        go_enter Try.func23, Try.ntmps23
        go_wp2_with (first | (go_at_call 58; refine (checkOne_any _ _ a _ _ ?_ ?_).mono ?_; (exact cell_second _ _ _ _); (exact size_second _ _ _); rintro e' wn ⟨rfl, hb⟩; have hH := keep_alloc hb; obtain ⟨hB, c0, c1⟩ := hH))
        go_ret2
        exact ⟨rfl, hB⟩
      · clear he
        go_enter Try.func23, Try.ntmps23
        go_wp2_with (first | (go_at_call 58; refine (checkOne_any _ _ a _ _ ?_ ?_).mono ?_; (exact cell_second _ _ _ _); (exact size_second _ _ _); rintro e' wn ⟨rfl, hb⟩; have hH := keep_alloc hb; obtain ⟨hB, c0, c1⟩ := hH))
        go_ret2
        exact ⟨rfl, hB⟩
  · have hk : (resC p n a == 0) = false := by simp [hr]
    rw [show powV p n a e = 0 by simp [powV, powC, hr], show powC p n a e = resC p n a by simp [powC, hr]]
    clear hr
    go_enter Try.func23, Try.ntmps23
    go_wp2_with (first | (go_at_call 58; refine (checkOne_any _ _ a _ _ ?_ ?_).mono ?_; (exact cell_second _ _ _ _); (exact size_second _ _ _); rintro e' wn ⟨rfl, hb⟩; have hH := keep_alloc hb; obtain ⟨hB, c0, c1⟩ := hH))
    go_ret2
    exact ⟨rfl, hB⟩
def teiV (p n a : Int) : Int := if resC p n a = 0 then powM a (ringM p n / p).toNat (ringM p n) else 0
theorem exactInverse_walk (p : Int) (n : Int) (a : Int) (_ : (Lit.int .i64 p).wf = true) (_ : (Lit.int .i64 n).wf = true) (_ : (Lit.int .i64 a).wf = true) (w : World) :
    Calls Try.prog 7 #[.agg #[.int .i64 p, .int .i64 n], .int .i64 a] w fun e w' => e = .returned (.bool true) ∧ Below w.heap.size w w' := by
  go_enter Try.func7, Try.ntmps7
  go_wp2_with (first | (go_at_call 51; refine (toRing_any _ _ _).mono ?_; rintro e wn ⟨rfl, hb⟩; (first | have hH := keep_first hb | have hH := keep_next ⟨hB, c0, c1⟩ hb); obtain ⟨hB, c0, c1⟩ := hH) | (go_at_call 14; refine (specInverse_any _ _ _ _).mono ?_; rintro e wn ⟨rfl, hb⟩; (first | have hH := keep_first hb | have hH := keep_next ⟨hB, c0, c1⟩ hb); obtain ⟨hB, c0, c1⟩ := hH) | (go_at_call 13; refine (implInverse_any _ _ _ _).mono ?_; rintro e wn ⟨rfl, hb⟩; (first | have hH := keep_first hb | have hH := keep_next ⟨hB, c0, c1⟩ hb); obtain ⟨hB, c0, c1⟩ := hH))
  go_ret
  exact ⟨rfl, hB⟩
end Go.Proofs.Ytgckamlibbjgcaa
