/- Contracts of the walk: chapter 3's exported functions in spec. -/
import Derived.Test.YtgckamlibbjgcaaPadSpec3
import Derived.Test.YtgckamlibbjgcaaPadExp3
namespace Go.Proofs.Ytgckamlibbjgcaa
open Go.RowKit
set_option linter.unusedVariables false
set_option maxRecDepth 20000
set_option linter.unusedSimpArgs false
theorem specMul_any (p v u n q v' u' n' : Int) (w : World) :
    Calls Try.prog 26 #[.agg (P4 p v u n), .agg (P4 q v' u' n')] w fun e w' => e = .returned (.tuple #[.agg (A4 (proQ p v u n q v' u' n')), .int .i64 (proC p v u n q v' u' n')]) ∧ Below w.heap.size w w' := by
  by_cases hc : twoC p v u n q v' u' n' = 0
  · obtain ⟨h, h', rfl⟩ := twoC_zero hc
    have HC := Lib.hid hc
    have H := Lib.hid (And.intro h h')
    rw [show proQ p v u n p v' u' n' = resQ p (v + v') (mulU p u n u' n') (mulN n n') by simp [proQ, hc], show proC p v u n p v' u' n' = limC p (v + v') (mulU p u n u' n') (mulN n n') by simp [proC, hc]]
    clear hc h h'
    go_enter Try.func26, Try.ntmps26
    go_wp2_with (first | (go_at_call 76; refine (l03Two_any _ _ _ _ _ _ _ _ _).mono ?_; rw [HC.out]; rintro e wn ⟨rfl, hb⟩; (first | have K := k3_first hb | have K := k3_next K hb); obtain ⟨c0, c1, c2, c3⟩ := lies_four K.2.1; obtain ⟨d0, d1, d2, d3⟩ := lies_four K.2.2.1; obtain ⟨e0, e1, e2, e3⟩ := lies_four K.2.2.2; obtain ⟨ef0, ef1, ef2, ef3⟩ := lies_ice K.2.2.2) | (go_at_call 78; refine (l03Multiply_any _ _ _ _ _ _ _ _ H.out.1 H.out.2).mono ?_; rintro e wn ⟨rfl, hb⟩; (first | have K := k3_first hb | have K := k3_next K hb); obtain ⟨e0, e1, e2, e3⟩ := lies_four K.2.2.2; obtain ⟨ef0, ef1, ef2, ef3⟩ := lies_ice K.2.2.2) | (go_at_call 77; refine (l03Result_any _ _ _ _ _).mono ?_; rintro e wn ⟨rfl, hb⟩; (first | have K := k3_first hb | have K := k3_next K hb); obtain ⟨e0, e1, e2, e3⟩ := lies_four K.2.2.2; obtain ⟨ef0, ef1, ef2, ef3⟩ := lies_ice K.2.2.2))
    refine bodyPost_ret (v := .tuple #[.agg (A4 (resQ p (v + v') (mulU p u n u' n') (mulN n n'))), .int .i64 (limC p (v + v') (mulU p u n u' n') (mulN n n'))]) (by simp [results, Try.results26, go_sem, e0, e1, e2, e3]) rfl ?_
    exact ⟨rfl, below_set4 K.1 (by omega)⟩
  · have hc' : (twoC p v u n q v' u' n' == 0) = false := by simpa using hc
    rw [show proQ p v u n q v' u' n' = (0, 0, 0, 0) by simp [proQ, hc], show proC p v u n q v' u' n' = twoC p v u n q v' u' n' by simp [proC, hc]]
    clear hc
    go_enter Try.func26, Try.ntmps26
    go_wp2_with (first | (go_at_call 76; refine (l03Two_any _ _ _ _ _ _ _ _ _).mono ?_; rintro e wn ⟨rfl, hb⟩; (first | have K := k3_first hb | have K := k3_next K hb); obtain ⟨c0, c1, c2, c3⟩ := lies_four K.2.1; obtain ⟨d0, d1, d2, d3⟩ := lies_four K.2.2.1; obtain ⟨e0, e1, e2, e3⟩ := lies_four K.2.2.2; obtain ⟨ef0, ef1, ef2, ef3⟩ := lies_ice K.2.2.2))
    refine bodyPost_ret (v := .tuple #[.agg (P4 0 0 0 0), .int .i64 (twoC p v u n q v' u' n')]) (by simp [results, Try.results26, go_sem, e0, e1, e2, e3]) rfl ?_
    exact ⟨rfl, below_set4 K.1 (by omega)⟩
theorem invV_eq {p n u : Int} (h0 : ringM p n ≠ 0) (hu : 1 ≤ u) (hu2 : u < ringM p n) (hp : u % p ≠ 0) : invV p n u = bezX u (ringM p n) % ringM p n := by
  have : unitC p n u = 0 := by simp [unitC, resC, h0, show 0 ≤ u by omega, hu2, hp]
  simp [invV, this]
theorem specInvert_any (p v u n : Int) (w : World) :
    Calls Try.prog 29 #[.agg (P4 p v u n)] w fun e w' => e = .returned (.tuple #[.agg (A4 (invQ p v u n)), .int .i64 (invC p v u n)]) ∧ Below w.heap.size w w' := by
  cases hx : padB p v u n
  · rw [show invQ p v u n = (0, 0, 0, 0) by simp [invQ, hx], show invC p v u n = 1 by simp [invC, hx]]
    go_enter Try.func29, Try.ntmps29
    go_wp2_with (first | (go_at_call 83; refine (specIsPadic_any _ _ _ _ _).mono ?_; rintro e wn ⟨rfl, hb⟩; (first | have K := k2_first hb | have K := k2_next K hb); obtain ⟨c0, c1, c2, c3⟩ := lies_four K.2.1; obtain ⟨cf0, cf1, cf2, cf3⟩ := lies_ice K.2.1; obtain ⟨d0, d1, d2, d3⟩ := lies_four K.2.2; obtain ⟨df0, df1, df2, df3⟩ := lies_ice K.2.2))
    refine bodyPost_ret (v := .tuple #[.agg (P4 0 0 0 0), .int .i64 1]) (by simp [results, Try.results29, go_sem, d0, d1, d2, d3]) rfl ?_
    exact ⟨rfl, below_set4 K.1 (by omega)⟩
  · have hk := padB_ok hx
    by_cases hn : n = 0
    · have hn' : (n == 0) = true := by simp [hn]
      rw [show invQ p v u n = (0, 0, 0, 0) by simp [invQ, hn], show invC p v u n = 4 by rw [invC, hx]; simp [hn]]
      clear hn hk
      go_enter Try.func29, Try.ntmps29
      go_wp2_with (first | (go_at_call 83; refine (specIsPadic_any _ _ _ _ _).mono ?_; rintro e wn ⟨rfl, hb⟩; (first | have K := k2_first hb | have K := k2_next K hb); obtain ⟨c0, c1, c2, c3⟩ := lies_four K.2.1; obtain ⟨cf0, cf1, cf2, cf3⟩ := lies_ice K.2.1; obtain ⟨d0, d1, d2, d3⟩ := lies_four K.2.2; obtain ⟨df0, df1, df2, df3⟩ := lies_ice K.2.2))
      refine bodyPost_ret (v := .tuple #[.agg (P4 0 0 0 0), .int .i64 4]) (by simp [results, Try.results29, go_sem, d0, d1, d2, d3]) rfl ?_
      exact ⟨rfl, below_set4 K.1 (by omega)⟩
    · have hn' : (n == 0) = false := by simpa using hn
      have hv0 := hk.2.1
      have hv1 := hk.2.2.1
      obtain ⟨e1, e2, e3, e4, e5, e6⟩ := pok_ring hk hn
      obtain ⟨_, _, _, e7, e8, e9, _⟩ := ringM_bd e2
      rw [show invQ p v u n = (p, -v, invV p n u, n) by simp [invQ, hx, hn], show invC p v u n = 0 by simp [invC, hx, hn], invV_eq e2 e4 e5 e6]
      have HP := Lib.hid fun w => l02Modulus_any p n w hk.1 e3 (by omega)
      have HI := Lib.hid fun w => l02Inverse_any u (ringM p n) w (by omega) e5 e8 e9
      have hw : IntKind.i64.wrap (-v) = -v := IntWalk.i64_in _ (by omega)
      clear hn hk e1 e2 e4 e5 e6
      go_enter Try.func29, Try.ntmps29
      go_wp2_with (first | (go_at_call 83; refine (specIsPadic_any _ _ _ _ _).mono ?_; rintro e wn ⟨rfl, hb⟩; (first | have K := k2_first hb | have K := k2_next K hb); obtain ⟨c0, c1, c2, c3⟩ := lies_four K.2.1; obtain ⟨cf0, cf1, cf2, cf3⟩ := lies_ice K.2.1; obtain ⟨d0, d1, d2, d3⟩ := lies_four K.2.2; obtain ⟨df0, df1, df2, df3⟩ := lies_ice K.2.2))
      refine wp_region_still_tail 16 (by kernel_rfl) (by kernel_rfl) ?_
      simp only [List.take_succ_cons, List.take_zero, List.drop_succ_cons, List.drop_zero]
      repeat still_step
      still_call ((HP.out _).mono fun e w' h => ⟨h.1, h.2.symm⟩)
      repeat still_step
      still_call ((HI.out _).mono fun e w' h => ⟨h.1, h.2.symm⟩)
      repeat still_step
      refine wpStill_nil ?_
      have KW := k2_drew K
      change wpList _ _ _ _ _ (World.drew _)
      clear c0 c1 c2 c3 d0 d1 d2 d3 cf0 cf1 cf2 cf3 df0 df1 df2 df3 K hb
      generalize World.drew _ = W2 at KW ⊢
      obtain ⟨d0, d1, d2, d3⟩ := lies_four KW.2.2
      obtain ⟨df0, df1, df2, df3⟩ := lies_ice KW.2.2
      go_wp2
      refine bodyPost_ret (v := .tuple #[.agg (P4 p (-v) (bezX u (ringM p n) % ringM p n) n), .int .i64 0]) (by simp [results, Try.results29, go_sem, d0, d1, d2, d3]) rfl ?_
      exact ⟨rfl, below_set4 KW.1 (by omega)⟩
theorem specCut_any (p v u n k : Int) (w : World) :
    Calls Try.prog 32 #[.agg (P4 p v u n), .int .i64 k] w fun e w' => e = .returned (.tuple #[.agg (A4 (cutQ p v u n k)), .int .i64 (cutC p v u n k)]) ∧ Below w.heap.size w w' := by
  cases hx : padB p v u n
  · rw [show cutQ p v u n k = (0, 0, 0, 0) by simp [cutQ, hx], show cutC p v u n k = 1 by simp [cutC, hx]]
    go_enter Try.func32, Try.ntmps32
    go_wp2_with (first | (go_at_call 83; refine (specIsPadic_any _ _ _ _ _).mono ?_; rintro e wn ⟨rfl, hb⟩; (first | have K := k2_first hb | have K := k2_next K hb); obtain ⟨c0, c1, c2, c3⟩ := lies_four K.2.1; obtain ⟨cf0, cf1, cf2, cf3⟩ := lies_ice K.2.1; obtain ⟨d0, d1, d2, d3⟩ := lies_four K.2.2; obtain ⟨df0, df1, df2, df3⟩ := lies_ice K.2.2))
    refine bodyPost_ret (v := .tuple #[.agg (P4 0 0 0 0), .int .i64 1]) (by simp [results, Try.results32, go_sem, d0, d1, d2, d3]) rfl ?_
    exact ⟨rfl, below_set4 K.1 (by omega)⟩
  · by_cases hk : 1 ≤ k ∧ k ≤ n
    · have hi := inB_t hk.1 hk.2
      rw [show cutQ p v u n k = (p, v, u % pw p k, k) by simp [cutQ, hx, hk], show cutC p v u n k = 0 by simp [cutC, hx, hk]]
      obtain ⟨hp2, hp97, hn0, hn1, hm0, hm1, hu0, hu1, hu2⟩ := pok_bd (padB_ok hx)
      have hpart := pw_part (p := p) (n := n) (e := k) hp2 hm1 hk.2
      have HP := l02Pow_any p k
      generalize pw p k = m at *
      replace HP := Lib.hid fun w => HP w hp2 hp97 (by omega) hpart.2
      obtain ⟨ht, hz2, hw3, hz⟩ := rem_facts hu0 hpart.1 hpart.2
      generalize u % m = r at *
      clear hm0 hm1 hu1 hpart hk
      go_enter Try.func32, Try.ntmps32
      go_wp2_with (first | (go_at_call 83; refine (specIsPadic_any _ _ _ _ _).mono ?_; rintro e wn ⟨rfl, hb⟩; (first | have K := k2_first hb | have K := k2_next K hb); obtain ⟨c0, c1, c2, c3⟩ := lies_four K.2.1; obtain ⟨cf0, cf1, cf2, cf3⟩ := lies_ice K.2.1; obtain ⟨d0, d1, d2, d3⟩ := lies_four K.2.2; obtain ⟨df0, df1, df2, df3⟩ := lies_ice K.2.2) | (go_at_call 70; refine (in_any _ _ _ _).mono ?_; rintro e wn ⟨rfl, rfl⟩))
      refine wp_region_still_tail 13 (by kernel_rfl) (by kernel_rfl) ?_
      simp only [List.take_succ_cons, List.take_zero, List.drop_succ_cons, List.drop_zero]
      repeat still_step
      still_call ((HP.out _).mono fun e w' h => ⟨h.1, h.2.symm⟩)
      repeat still_step
      refine wpStill_nil ?_
      have KW := k2_drew K
      change wpList _ _ _ _ _ (World.drew _)
      clear c0 c1 c2 c3 d0 d1 d2 d3 cf0 cf1 cf2 cf3 df0 df1 df2 df3 K hb
      generalize World.drew _ = W2 at KW ⊢
      obtain ⟨d0, d1, d2, d3⟩ := lies_four KW.2.2
      obtain ⟨df0, df1, df2, df3⟩ := lies_ice KW.2.2
      go_wp2
      refine bodyPost_ret (v := .tuple #[.agg (P4 p v r k), .int .i64 0]) (by simp [results, Try.results32, go_sem, d0, d1, d2, d3]) rfl ?_
      exact ⟨rfl, below_set4 KW.1 (by omega)⟩
    · have hi : inB k 1 n = false := inB_f (by omega)
      rw [show cutQ p v u n k = (0, 0, 0, 0) by simp [cutQ, hk], show cutC p v u n k = 2 by simp [cutC, hx, hk]]
      clear hk
      go_enter Try.func32, Try.ntmps32
      go_wp2_with (first | (go_at_call 83; refine (specIsPadic_any _ _ _ _ _).mono ?_; rintro e wn ⟨rfl, hb⟩; (first | have K := k2_first hb | have K := k2_next K hb); obtain ⟨c0, c1, c2, c3⟩ := lies_four K.2.1; obtain ⟨cf0, cf1, cf2, cf3⟩ := lies_ice K.2.1; obtain ⟨d0, d1, d2, d3⟩ := lies_four K.2.2; obtain ⟨df0, df1, df2, df3⟩ := lies_ice K.2.2) | (go_at_call 70; refine (in_any _ _ _ _).mono ?_; rintro e wn ⟨rfl, rfl⟩))
      refine bodyPost_ret (v := .tuple #[.agg (P4 0 0 0 0), .int .i64 2]) (by simp [results, Try.results32, go_sem, d0, d1, d2, d3]) rfl ?_
      exact ⟨rfl, below_set4 K.1 (by omega)⟩
end Go.Proofs.Ytgckamlibbjgcaa
