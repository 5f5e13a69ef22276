/- Contracts of the walk: chapter 3's functions in spec: opposites, products, digits. -/
import Derived.Test.YtgckamlibbjgcaaPadSpec2
namespace Go.Proofs.Ytgckamlibbjgcaa
open Go.RowKit
set_option linter.unusedVariables false
set_option maxRecDepth 20000
set_option linter.unusedSimpArgs false
theorem l03Negate_any (p v u n : Int) (w : World) (h : POk p v u n) :
    Calls Try.prog 120 #[.agg (P4 p v u n)] w fun e w' => e = .returned (.agg (P4 p v (negU p u n) n)) ∧ Below w.heap.size w w' := by
  by_cases hn : n = 0
  · rw [negU_zero h hn]
    have hn' : (n == 0) = true := by simp [hn]
    clear hn
    go_enter Try.func120, Try.ntmps120
    go_wp2_with fail
    refine bodyPost_ret (v := .agg (P4 p v u n)) (by simp [results, Try.results120, go_sem]) rfl ?_
    exact ⟨rfl, below_a2 w _ _⟩
  · have HE := negU_sub h hn
    have hn' : (n == 0) = false := by simpa using hn
    obtain ⟨hp2, hp97, hn0, hn1, hm0, hm1, hu0, hu1, hu2⟩ := pok_bd h
    rw [(pok_ring h hn).1] at HE
    have HP := l02Pow_any p n
    generalize pw p n = m at *
    replace HP := Lib.hid fun w => HP w hp2 hp97 hn0 hm1
    have hw := IntWalk.i64_in (m - u) (by omega)
    replace HE := Lib.hid HE
    clear h hn
    go_enter Try.func120, Try.ntmps120
    go_wp2_with fail
    have K := k2_new w (P4 p v u n) (P4 0 0 0 0) 34 34
    generalize ((w.alloc (.cells (P4 p v u n) 34)).alloc (.cells (P4 0 0 0 0) 34)) = W at K ⊢
    obtain ⟨c0, c1, c2, c3⟩ := lies_four K.2.1
    obtain ⟨d0, d1, d2, d3⟩ := lies_four K.2.2
    refine wp_region_still_tail 15 (by kernel_rfl) (by kernel_rfl) ?_
    simp only [List.take_succ_cons, List.take_zero, List.drop_succ_cons, List.drop_zero]
    repeat still_step
    still_call ((HP.out _).mono fun e w' h => ⟨h.1, h.2.symm⟩)
    repeat still_step
    refine wpStill_nil ?_
    have KW := k2_drew K
    change wpList _ _ _ _ _ W.drew
    clear c0 c1 c2 c3 d0 d1 d2 d3 K
    generalize W.drew = W2 at KW ⊢
    obtain ⟨d0, d1, d2, d3⟩ := lies_four KW.2.2
    obtain ⟨df0, df1, df2, df3⟩ := lies_ice KW.2.2
    go_wp2
    refine bodyPost_ret (v := .agg (P4 p v (m - u) n)) (by simp [results, Try.results120, go_sem, d0, d1, d2, d3]) rfl ?_
    exact ⟨by rw [HE.out], below_set4 KW.1 (by omega)⟩
theorem l03Multiply_any (p v u n v' u' n' : Int) (w : World) (h : POk p v u n) (h' : POk p v' u' n') :
    Calls Try.prog 78 #[.agg (P4 p v u n), .agg (P4 p v' u' n')] w fun e w' => e = .returned (.agg (P4 p (v + v') (mulU p u n u' n') (mulN n n'))) ∧ Below w.heap.size w w' := by
  obtain ⟨hp2, hp97, hn0, hn1, hm0, hm1, hu0, hu1, hu2⟩ := pok_bd h
  obtain ⟨_, _, hn0', hn1', hm0', hm1', hu0', hu1', hu2'⟩ := pok_bd h'
  have hv0 := h.2.1
  have hv1 := h.2.2.1
  have hv0' := h'.2.1
  have hv1' := h'.2.2.1
  have hw2 : IntKind.i64.wrap (v + v') = v + v' := IntWalk.i64_in _ (by omega)
  have HE : mulU p u n u' n' = u * u' % pw p (mulN n n') := rfl
  have hmin : min n n' = mulN n n' := rfl
  have hm2 : 0 ≤ mulN n n' := by unfold mulN; omega
  have hm3 : mulN n n' ≤ n := by unfold mulN; omega
  generalize mulN n n' = m at *
  by_cases hz : m = 0
  · subst hz
    rw [HE, pw_zero, show u * u' % 1 = 0 by omega]
    clear h h' HE
    go_enter Try.func78, Try.ntmps78
    go_wp2_with fail
    refine bodyPost_ret (v := .agg (P4 p (v + v') 0 0)) (by simp [results, Try.results78, go_sem]) rfl ?_
    exact ⟨rfl, (below_a3 w _ _ _).trans ((below_a1 _ _).mono (below_a3 w _ _ _).size)⟩
  · have hpart := pw_part (p := p) (n := n) (e := m) hp2 hm1 hm3
    have HP := l02Pow_any p m
    have hmul := Int.mul_emod u u' (pw p m)
    rw [HE, hmul]
    generalize pw p m = x at *
    replace HP := Lib.hid fun w => HP w hp2 hp97 hm2 hpart.2
    obtain ⟨hx0, hx1⟩ := hpart
    obtain ⟨ht1, hz2, hw3, hzx⟩ := rem_facts hu0 hx0 hx1
    obtain ⟨ht2, _, hw4, _⟩ := rem_facts hu0' hx0 hx1
    have r0 := Int.emod_nonneg u hz2
    have r1 := Int.emod_lt_of_pos u (show 0 < x by omega)
    have s0 := Int.emod_nonneg u' hz2
    have s1 := Int.emod_lt_of_pos u' (show 0 < x by omega)
    clear hmul HE
    generalize u % x = a at *
    generalize u' % x = b at *
    have q0 := Int.mul_nonneg r0 s0
    have q1 : a * b ≤ 1000000000000000000 := by
      have := Int.mul_le_mul (show a ≤ 1000000000 by omega) (show b ≤ 1000000000 by omega) s0 (by omega)
      omega
    have hw5 := IntWalk.i64_in (a * b) (by omega)
    obtain ⟨ht3, _, hw6, _⟩ := rem_facts q0 hx0 hx1
    generalize a * b % x = c at *
    have hpos : 0 < m := by omega
    clear h h' hz
    go_enter Try.func78, Try.ntmps78
    go_wp2_with (first | (go_at_call 64; refine (HP.out _).mono ?_; rintro e wn ⟨rfl, rfl⟩))
    have K := k4_new w (P4 p v u n) (P4 p v' u' n') (P4 0 0 0 0) (P4 p (v + v') 0 m) 34 34 34 34
    generalize ((((w.alloc (.cells (P4 p v u n) 34)).alloc (.cells (P4 p v' u' n') 34)).alloc (.cells (P4 0 0 0 0) 34)).alloc (.cells (P4 p (v + v') 0 m) 34)) = W at K ⊢
    obtain ⟨c0, c1, c2, c3⟩ := lies_four K.1.2.1
    obtain ⟨d0, d1, d2, d3⟩ := lies_four K.1.2.2.1
    refine wp_region_still_tail 12 (by kernel_rfl) (by kernel_rfl) ?_
    simp only [List.take_succ_cons, List.take_zero, List.drop_succ_cons, List.drop_zero]
    repeat still_step
    refine wpStill_nil ?_
    have KW := k4_drew K
    change wpList _ _ _ _ _ W.drew
    clear c0 c1 c2 c3 d0 d1 d2 d3 K
    generalize W.drew = W2 at KW ⊢
    obtain ⟨e0, e1, e2, e3⟩ := lies_four KW.1.2.2.2
    obtain ⟨ef0, ef1, ef2, ef3⟩ := lies_ice KW.1.2.2.2
    obtain ⟨g0, g1, g2, g3⟩ := lies_four KW.2
    obtain ⟨gf0, gf1, gf2, gf3⟩ := lies_ice KW.2
    go_wp2
    refine bodyPost_ret (v := .agg (P4 p (v + v') c m)) (by simp [results, Try.results78, go_sem, e0, e1, e2, e3]) rfl ?_
    exact ⟨rfl, below_set4 (KW.1.1.setCell (show w.heap.size ≤ w.heap.size + 1 + 1 + 1 by omega) _) (by omega)⟩
end Go.Proofs.Ytgckamlibbjgcaa
