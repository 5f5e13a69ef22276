/- Contracts of the walk: both OrderOf and the law FnExactOrderOf. -/
import Derived.Test.YtbolmmgkmgmfeaaSpecOrder
namespace Go.Proofs.Ytbolmmgkmgmfeaa
open Go.RowKit
set_option linter.unusedVariables false
noncomputable def ordR (p n a : Int) : Int := if unitC p n a = 0 then ordV a (ringM p n) else 0
theorem implOrder_any (p n a : Int) (w : World) :
    Calls Try.prog 20 #[.agg #[.int .i64 p, .int .i64 n], .int .i64 a] w fun e w' => e = .returned (.tuple #[.int .i64 (ordR p n a), .int .i64 (unitC p n a)]) ∧ Below w.heap.size w w' := by
  by_cases hr : resC p n a = 0
  · have hk : (resC p n a == 0) = true := by simp [hr]
    obtain ⟨h0, ha0, ha1⟩ := resC_zero hr
    obtain ⟨hp2, _, _, _, hm1, hm2, _⟩ := ringM_bd h0
    have hz : (p == 0) = false := by simp; omega
    by_cases hu : a % p = 0
    · have hq : (a % p == 0) = true := by simp [hu]
      rw [show ordR p n a = 0 by simp [ordR, unitC, hr, hu], show unitC p n a = 5 by simp [unitC, hr, hu]]
      clear h0 hr hu
      go_enter Try.func20, Try.ntmps20
      go_wp2_with (first | (go_at_call 43; refine (checkOne_any _ _ a _ _ ?_ ?_).mono ?_; (exact cell_second _ _ _ _); (exact size_second _ _ _); rintro e' wn ⟨rfl, hb⟩; have hH := keep_alloc hb; obtain ⟨hB, c0, c1⟩ := hH) | (go_at_call 55; refine (isUnit_any _ _ _ _ hp2 ha0).mono ?_; rintro e wn ⟨rfl, hb⟩; (first | have hH := keep_first hb | have hH := keep_next ⟨hB, c0, c1⟩ hb); obtain ⟨hB, c0, c1⟩ := hH))
      go_ret2
      exact ⟨rfl, hB⟩
    · have hq : (a % p == 0) = false := by simp [hu]
      have ha := And.intro ha0 ha1
      have H0 := Lib.hid h0
      have HU := Lib.hid hu
      rw [show ordR p n a = ordV a (ringM p n) by simp [ordR, unitC, hr, hu], show unitC p n a = 0 by simp [unitC, hr, hu]]
      clear h0 hr hu
      go_enter Try.func20, Try.ntmps20
      go_wp2_with (first | (go_at_call 43; refine (checkOne_any _ _ a _ _ ?_ ?_).mono ?_; (exact cell_second _ _ _ _); (exact size_second _ _ _); rintro e' wn ⟨rfl, hb⟩; have hH := keep_alloc hb; obtain ⟨hB, c0, c1⟩ := hH) | (go_at_call 55; refine (isUnit_any _ _ _ _ hp2 ha0).mono ?_; rintro e wn ⟨rfl, hb⟩; (first | have hH := keep_first hb | have hH := keep_next ⟨hB, c0, c1⟩ hb); obtain ⟨hB, c0, c1⟩ := hH) | (go_at_call 44; refine (order_any _ _ _ _ H0.out ha HU.out).mono ?_; rintro e' wn ⟨rfl, hb⟩; (first | have hH := keep_first hb | have hH := keep_next ⟨hB, c0, c1⟩ hb); obtain ⟨hB, c0, c1⟩ := hH))
      go_ret2
      exact ⟨rfl, hB⟩
  · have hk : (resC p n a == 0) = false := by simp [hr]
    rw [show ordR p n a = 0 by simp [ordR, unitC, hr], show unitC p n a = resC p n a by simp [unitC, hr]]
    clear hr
    go_enter Try.func20, Try.ntmps20
    go_wp2_with (first | (go_at_call 43; refine (checkOne_any _ _ a _ _ ?_ ?_).mono ?_; (exact cell_second _ _ _ _); (exact size_second _ _ _); rintro e' wn ⟨rfl, hb⟩; have hH := keep_alloc hb; obtain ⟨hB, c0, c1⟩ := hH))
    go_ret2
    exact ⟨rfl, hB⟩
end Go.Proofs.Ytbolmmgkmgmfeaa
