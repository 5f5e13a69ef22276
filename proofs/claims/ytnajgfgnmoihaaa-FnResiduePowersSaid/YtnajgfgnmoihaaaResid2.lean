/- Contracts of the walk: both PowerOf, both TeichmuellerOf, and the laws FnExactInverseOf, FnExactPowerOf, FnExactTeichmuellerOf. -/
import Derived.Test.YtnajgfgnmoihaaaResid
namespace Go.Proofs.Ytnajgfgnmoihaaa
open Go.RowKit
set_option linter.unusedVariables false
def powC (p n a e : Int) : Int := if resC p n a = 0 then (if 0 ≤ e ∧ e ≤ 1000000000000 then 0 else 2) else resC p n a
def powV (p n a e : Int) : Int := if powC p n a e = 0 then powM a e.toNat (ringM p n) else 0
theorem implPower_any (p n a e : Int) (w : World) :
    Calls Try.prog 28 #[.agg #[.int .i64 p, .int .i64 n], .int .i64 a, .int .i64 e] w fun e' w' => e' = .returned (.tuple #[.int .i64 (powV p n a e), .int .i64 (powC p n a e)]) ∧ Below w.heap.size w w' := by
  by_cases hr : resC p n a = 0
  · have hk : (resC p n a == 0) = true := by simp [hr]
    obtain ⟨h0, ha0, ha1⟩ := resC_zero hr
    have ha := And.intro ha0 ha1
    have H0 := Lib.hid h0
    by_cases he : 0 ≤ e ∧ e ≤ 1000000000000
    · have he' : 0 ≤ e ∧ e ≤ 4000000000000000000 := by omega
      obtain ⟨he1, he2⟩ := he
      rw [show powV p n a e = powM a e.toNat (ringM p n) by simp [powV, powC, hr, he1, he2], show powC p n a e = 0 by simp [powC, hr, he1, he2]]
      clear h0 hr
      go_enter Try.func28, Try.ntmps28
      go_wp2_with (first | (go_at_call 50; refine (checkOne_any _ _ a _ _ ?_ ?_).mono ?_; (exact cell_second _ _ _ _); (exact size_second _ _ _); rintro e' wn ⟨rfl, hb⟩; have hH := keep_alloc hb; obtain ⟨hB, c0, c1⟩ := hH) | (go_at_call 64; refine (power_any _ _ _ _ _ H0.out ha he').mono ?_; rintro e wn ⟨rfl, hb⟩; (first | have hH := keep_first hb | have hH := keep_next ⟨hB, c0, c1⟩ hb); obtain ⟨hB, c0, c1⟩ := hH))
      go_ret2
      exact ⟨rfl, hB⟩
    · rw [show powV p n a e = 0 by simp [powV, powC, hr, he], show powC p n a e = 2 by simp [powC, hr, he]]
      clear h0 hr
      by_cases he1 : 0 ≤ e
      · have he2 : 1000000000000 < e := by omega
        clear he
        go_enter Try.func28, Try.ntmps28
        go_wp2_with (first | (go_at_call 50; refine (checkOne_any _ _ a _ _ ?_ ?_).mono ?_; (exact cell_second _ _ _ _); (exact size_second _ _ _); rintro e' wn ⟨rfl, hb⟩; have hH := keep_alloc hb; obtain ⟨hB, c0, c1⟩ := hH))
        go_ret2
        exact ⟨rfl, hB⟩
      · clear he
        go_enter Try.func28, Try.ntmps28
        go_wp2_with (first | (go_at_call 50; refine (checkOne_any _ _ a _ _ ?_ ?_).mono ?_; (exact cell_second _ _ _ _); (exact size_second _ _ _); rintro e' wn ⟨rfl, hb⟩; have hH := keep_alloc hb; obtain ⟨hB, c0, c1⟩ := hH))
        go_ret2
        exact ⟨rfl, hB⟩
  · have hk : (resC p n a == 0) = false := by simp [hr]
    rw [show powV p n a e = 0 by simp [powV, powC, hr], show powC p n a e = resC p n a by simp [powC, hr]]
    clear hr
    go_enter Try.func28, Try.ntmps28
    go_wp2_with (first | (go_at_call 50; refine (checkOne_any _ _ a _ _ ?_ ?_).mono ?_; (exact cell_second _ _ _ _); (exact size_second _ _ _); rintro e' wn ⟨rfl, hb⟩; have hH := keep_alloc hb; obtain ⟨hB, c0, c1⟩ := hH))
    go_ret2
    exact ⟨rfl, hB⟩
theorem specPower_any (p n a e : Int) (w : World) :
    Calls Try.prog 30 #[.agg #[.int .i64 p, .int .i64 n], .int .i64 a, .int .i64 e] w fun e' w' => e' = .returned (.tuple #[.int .i64 (powV p n a e), .int .i64 (powC p n a e)]) ∧ Below w.heap.size w w' := by
  by_cases hr : resC p n a = 0
  · have hk : (resC p n a == 0) = true := by simp [hr]
    obtain ⟨h0, ha0, ha1⟩ := resC_zero hr
    have ha := And.intro ha0 ha1
    obtain ⟨hp2, _, hn1, hn2, hm1, hm2, _⟩ := ringM_bd h0
    have H := Lib.hid (And.intro (ringM_in h0).1 (And.intro hn1 (show n ≤ 1000 by omega)))
    by_cases he : 0 ≤ e ∧ e ≤ 1000000000000
    · have he' : 0 ≤ e ∧ e ≤ 4000000000000000000 := by omega
      have hi := inB_t he.1 he.2
      obtain ⟨he1, he2⟩ := he
      rw [show powV p n a e = powM a e.toNat (ringM p n) by simp [powV, powC, hr, he1, he2], show powC p n a e = 0 by simp [powC, hr, he1, he2]]
      clear h0 hr
      go_enter Try.func30, Try.ntmps30
      go_wp2_with (first | (go_at_call 55; refine (l02Code_any _ _ _ _).mono ?_; rintro e wn ⟨rfl, hb⟩; (first | have hH := keep_first hb | have hH := keep_next ⟨hB, c0, c1⟩ hb); obtain ⟨hB, c0, c1⟩ := hH) | (go_at_call 63; refine (in_any _ _ _ _).mono ?_; rintro e wn ⟨rfl, rfl⟩) | (go_at_call 57; refine (l02Modulus_any _ _ _ H.out.1 H.out.2.1 H.out.2.2).mono ?_; rintro e wn ⟨rfl, rfl⟩) | (go_at_call 67; refine (l02Power_any _ _ _ _ hm1 hm2 ha he').mono ?_; rintro e wn ⟨rfl, rfl⟩))
      go_ret2
      exact ⟨rfl, hB⟩
    · rw [show powV p n a e = 0 by simp [powV, powC, hr, he], show powC p n a e = 2 by simp [powC, hr, he]]
      have hi : inB e 0 1000000000000 = false := inB_f (by omega)
      clear h0 hr he
      go_enter Try.func30, Try.ntmps30
      go_wp2_with (first | (go_at_call 55; refine (l02Code_any _ _ _ _).mono ?_; rintro e wn ⟨rfl, hb⟩; (first | have hH := keep_first hb | have hH := keep_next ⟨hB, c0, c1⟩ hb); obtain ⟨hB, c0, c1⟩ := hH) | (go_at_call 63; refine (in_any _ _ _ _).mono ?_; rintro e wn ⟨rfl, rfl⟩))
      go_ret2
      exact ⟨rfl, hB⟩
  · have hk : (resC p n a == 0) = false := by simp [hr]
    rw [show powV p n a e = 0 by simp [powV, powC, hr], show powC p n a e = resC p n a by simp [powC, hr]]
    clear hr
    go_enter Try.func30, Try.ntmps30
    go_wp2_with (first | (go_at_call 55; refine (l02Code_any _ _ _ _).mono ?_; rintro e wn ⟨rfl, hb⟩; (first | have hH := keep_first hb | have hH := keep_next ⟨hB, c0, c1⟩ hb); obtain ⟨hB, c0, c1⟩ := hH))
    go_ret2
    exact ⟨rfl, hB⟩
def teiV (p n a : Int) : Int := if resC p n a = 0 then powM a (ringM p n / p).toNat (ringM p n) else 0
theorem implTei_any (p n a : Int) (w : World) :
    Calls Try.prog 32 #[.agg #[.int .i64 p, .int .i64 n], .int .i64 a] w fun e' w' => e' = .returned (.tuple #[.int .i64 (teiV p n a), .int .i64 (resC p n a)]) ∧ Below w.heap.size w w' := by
  by_cases hr : resC p n a = 0
  · have hk : (resC p n a == 0) = true := by simp [hr]
    obtain ⟨h0, ha0, ha1⟩ := resC_zero hr
    have ha := And.intro ha0 ha1
    have H0 := Lib.hid h0
    obtain ⟨hp0, q0, q1, u0, u1⟩ := unit_bd h0
    obtain ⟨hp2, hp97, _, _, hm1, hm2, _⟩ := ringM_bd h0
    have wq : IntKind.i64.wrap (ringM p n / p) = ringM p n / p := IntWalk.i64_in _ ⟨by omega, by omega⟩
    have wt : (ringM p n).tdiv p = ringM p n / p := Int.tdiv_eq_ediv_of_nonneg (by omega)
    have hz : ¬ p = 0 := by omega
    have he' : 0 ≤ ringM p n / p ∧ ringM p n / p ≤ 4000000000000000000 := by omega
    rw [show teiV p n a = powM a (ringM p n / p).toNat (ringM p n) by simp [teiV, hr], hr]
    have HR := Lib.hid hr
    clear h0 u0 u1 hr
    go_enter Try.func32, Try.ntmps32
    go_wp2_with (first | (go_at_call 50; refine (checkOne_any _ _ a _ _ ?_ ?_).mono ?_; (exact cell_second _ _ _ _); (exact size_second _ _ _); rintro e' wn ⟨rfl, hb⟩; have hH := keep_alloc hb; obtain ⟨hB, c0, c1⟩ := hH))
    go_region_held3 (fun w' => Below w.heap.size w w' ∧ w'.cell? ⟨w.heap.size, 0, none⟩ = some (.int .i64 p) ∧ w'.cell? ⟨w.heap.size, 1, none⟩ = some (.int .i64 n)) (first | exact keep_start 1 | exact ⟨below_drewN hB 1, c0, c1⟩ | exact keep_next ‹_› hb | assumption) (first | (go_at_call 52; refine (implModulus_any _ _ _).mono ?_; rintro e wn ⟨rfl, hb⟩) | (go_at_call 64; refine (power_any _ _ _ _ _ H0.out ha he').mono ?_; rintro e wn ⟨rfl, hb⟩))
    all_goals (obtain ⟨hB, c0, c1⟩ := ‹Below w.heap.size w _ ∧ _›)
    all_goals go_wp2_with fail
    all_goals go_ret2
    all_goals exact ⟨rfl, hB⟩
  · have hk : (resC p n a == 0) = false := by simp [hr]
    rw [show teiV p n a = 0 by simp [teiV, hr]]
    clear hr
    go_enter Try.func32, Try.ntmps32
    go_wp2_with (first | (go_at_call 50; refine (checkOne_any _ _ a _ _ ?_ ?_).mono ?_; (exact cell_second _ _ _ _); (exact size_second _ _ _); rintro e' wn ⟨rfl, hb⟩; have hH := keep_alloc hb; obtain ⟨hB, c0, c1⟩ := hH))
    go_ret2
    exact ⟨rfl, hB⟩
theorem specTei_any (p n a : Int) (w : World) :
    Calls Try.prog 33 #[.agg #[.int .i64 p, .int .i64 n], .int .i64 a] w fun e' w' => e' = .returned (.tuple #[.int .i64 (teiV p n a), .int .i64 (resC p n a)]) ∧ Below w.heap.size w w' := by
  by_cases hr : resC p n a = 0
  · have hk : (resC p n a == 0) = true := by simp [hr]
    obtain ⟨h0, ha0, ha1⟩ := resC_zero hr
    have ha := And.intro ha0 ha1
    obtain ⟨hp0, q0, q1, u0, u1⟩ := unit_bd h0
    obtain ⟨hp2, _, hn1, hn2, hm1, hm2, _⟩ := ringM_bd h0
    have H := Lib.hid (And.intro (ringM_in h0).1 (And.intro hn1 (show n ≤ 1000 by omega)))
    have he' : 0 ≤ ringM p n / p ∧ ringM p n / p ≤ 4000000000000000000 := by omega
    have wq : IntKind.i64.wrap (ringM p n / p) = ringM p n / p := IntWalk.i64_in _ ⟨by omega, by omega⟩
    have wt : (ringM p n).tdiv p = ringM p n / p := Int.tdiv_eq_ediv_of_nonneg (by omega)
    have hz : ¬ p = 0 := by omega
    rw [show teiV p n a = powM a (ringM p n / p).toNat (ringM p n) by simp [teiV, hr], hr]
    have HR := Lib.hid hr
    clear h0 u0 u1 hr
    go_enter Try.func33, Try.ntmps33
    go_wp2_with (first | (go_at_call 55; refine (l02Code_any _ _ _ _).mono ?_; rintro e wn ⟨rfl, hb⟩; (first | have hH := keep_first hb | have hH := keep_next ⟨hB, c0, c1⟩ hb); obtain ⟨hB, c0, c1⟩ := hH) | (go_at_call 57; refine (l02Modulus_any _ _ _ H.out.1 H.out.2.1 H.out.2.2).mono ?_; rintro e wn ⟨rfl, rfl⟩) | (go_at_call 67; refine (l02Power_any _ _ _ _ hm1 hm2 ha he').mono ?_; rintro e wn ⟨rfl, rfl⟩))
    go_ret2
    exact ⟨rfl, hB⟩
  · have hk : (resC p n a == 0) = false := by simp [hr]
    rw [show teiV p n a = 0 by simp [teiV, hr]]
    clear hr
    go_enter Try.func33, Try.ntmps33
    go_wp2_with (first | (go_at_call 55; refine (l02Code_any _ _ _ _).mono ?_; rintro e wn ⟨rfl, hb⟩; (first | have hH := keep_first hb | have hH := keep_next ⟨hB, c0, c1⟩ hb); obtain ⟨hB, c0, c1⟩ := hH))
    go_ret2
    exact ⟨rfl, hB⟩
theorem exactInverse_walk (p : Int) (n : Int) (a : Int) (_ : (Lit.int .i64 p).wf = true) (_ : (Lit.int .i64 n).wf = true) (_ : (Lit.int .i64 a).wf = true) (w : World) :
    Calls Try.prog 9 #[.agg #[.int .i64 p, .int .i64 n], .int .i64 a] w fun e w' => e = .returned (.bool true) ∧ Below w.heap.size w w' := by
  go_enter Try.func9, Try.ntmps9
  go_wp2_with (first | (go_at_call 46; refine (toRing_any _ _ _).mono ?_; rintro e wn ⟨rfl, hb⟩; (first | have hH := keep_first hb | have hH := keep_next ⟨hB, c0, c1⟩ hb); obtain ⟨hB, c0, c1⟩ := hH) | (go_at_call 19; refine (specInverse_any _ _ _ _).mono ?_; rintro e wn ⟨rfl, hb⟩; (first | have hH := keep_first hb | have hH := keep_next ⟨hB, c0, c1⟩ hb); obtain ⟨hB, c0, c1⟩ := hH) | (go_at_call 18; refine (implInverse_any _ _ _ _).mono ?_; rintro e wn ⟨rfl, hb⟩; (first | have hH := keep_first hb | have hH := keep_next ⟨hB, c0, c1⟩ hb); obtain ⟨hB, c0, c1⟩ := hH))
  go_ret
  exact ⟨rfl, hB⟩
theorem exactPower_walk (p : Int) (n : Int) (a : Int) (e : Int) (_ : (Lit.int .i64 p).wf = true) (_ : (Lit.int .i64 n).wf = true) (_ : (Lit.int .i64 a).wf = true) (_ : (Lit.int .i64 e).wf = true) (w : World) :
    Calls Try.prog 10 #[.agg #[.int .i64 p, .int .i64 n], .int .i64 a, .int .i64 e] w fun e w' => e = .returned (.bool true) ∧ Below w.heap.size w w' := by
  go_enter Try.func10, Try.ntmps10
  go_wp2_with (first | (go_at_call 46; refine (toRing_any _ _ _).mono ?_; rintro e wn ⟨rfl, hb⟩; (first | have hH := keep_first hb | have hH := keep_next ⟨hB, c0, c1⟩ hb); obtain ⟨hB, c0, c1⟩ := hH) | (go_at_call 30; refine (specPower_any _ _ _ _ _).mono ?_; rintro e' wn ⟨rfl, hb⟩; (first | have hH := keep_first hb | have hH := keep_next ⟨hB, c0, c1⟩ hb); obtain ⟨hB, c0, c1⟩ := hH) | (go_at_call 28; refine (implPower_any _ _ _ _ _).mono ?_; rintro e' wn ⟨rfl, hb⟩; (first | have hH := keep_first hb | have hH := keep_next ⟨hB, c0, c1⟩ hb); obtain ⟨hB, c0, c1⟩ := hH))
  go_ret
  exact ⟨rfl, hB⟩
theorem exactTei_walk (p : Int) (n : Int) (a : Int) (_ : (Lit.int .i64 p).wf = true) (_ : (Lit.int .i64 n).wf = true) (_ : (Lit.int .i64 a).wf = true) (w : World) :
    Calls Try.prog 14 #[.agg #[.int .i64 p, .int .i64 n], .int .i64 a] w fun e w' => e = .returned (.bool true) ∧ Below w.heap.size w w' := by
  go_enter Try.func14, Try.ntmps14
  go_wp2_with (first | (go_at_call 46; refine (toRing_any _ _ _).mono ?_; rintro e wn ⟨rfl, hb⟩; (first | have hH := keep_first hb | have hH := keep_next ⟨hB, c0, c1⟩ hb); obtain ⟨hB, c0, c1⟩ := hH) | (go_at_call 33; refine (specTei_any _ _ _ _).mono ?_; rintro e wn ⟨rfl, hb⟩; (first | have hH := keep_first hb | have hH := keep_next ⟨hB, c0, c1⟩ hb); obtain ⟨hB, c0, c1⟩ := hH) | (go_at_call 32; refine (implTei_any _ _ _ _).mono ?_; rintro e wn ⟨rfl, hb⟩; (first | have hH := keep_first hb | have hH := keep_next ⟨hB, c0, c1⟩ hb); obtain ⟨hB, c0, c1⟩ := hH))
  go_ret
  exact ⟨rfl, hB⟩
end Go.Proofs.Ytnajgfgnmoihaaa
