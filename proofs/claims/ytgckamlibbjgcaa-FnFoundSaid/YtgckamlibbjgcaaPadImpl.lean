/- Contracts of the walk: chapter 3's methods in impl: the end, the codes of two numbers, the result, sums, opposites and products. -/
import Derived.Test.YtgckamlibbjgcaaPadKeep
import Derived.StillTailTactics
namespace Go.Proofs.Ytgckamlibbjgcaa
open Go.RowKit
set_option linter.unusedVariables false
set_option maxRecDepth 20000
theorem end_any (p v u n : Int) (w : World) (hv0 : -1000 ≤ v) (hv1 : v ≤ 1000) (hn0 : -1000 ≤ n) (hn1 : n ≤ 1000) :
    Calls Try.prog 89 #[.agg (P4 p v u n)] w fun e w' => e = .returned (.int .i64 (v + n)) ∧ Below w.heap.size w w' := by
  go_enter Try.func89, Try.ntmps89
  go_wp2
  go_ret
  exact ⟨rfl, below_a1 w _⟩
theorem twoC_left {p v u n q v' u' n' : Int} (h : padB p v u n = false) : twoC p v u n q v' u' n' = 1 := by simp [twoC, h]
theorem twoC_right {p v u n q v' u' n' : Int} (h : padB q v' u' n' = false) : twoC p v u n q v' u' n' = 1 := by simp [twoC, h]
theorem checkWith_any (p v u n q v' u' n' : Int) (w : World) :
    Calls Try.prog 73 #[.agg (P4 p v u n), .agg (P4 q v' u' n')] w fun e w' => e = .returned (.int .i64 (twoC p v u n q v' u' n')) ∧ Below w.heap.size w w' := by
  cases hx : padB p v u n
  · rw [twoC_left hx]
    go_enter Try.func73, Try.ntmps73
    go_wp2_with (first | (go_at_call 80; refine (isValid_any _ _ _ _ _).mono ?_; rintro e wn ⟨rfl, hb⟩; (first | have K := k2_first hb | have K := k2_next K hb); obtain ⟨c0, c1, c2, c3⟩ := lies_four K.2.1; obtain ⟨d0, d1, d2, d3⟩ := lies_four K.2.2))
    go_ret
    exact ⟨rfl, K.1⟩
  · cases hy : padB q v' u' n'
    · rw [twoC_right hy]
      go_enter Try.func73, Try.ntmps73
      go_wp2_with (first | (go_at_call 80; refine (isValid_any _ _ _ _ _).mono ?_; rintro e wn ⟨rfl, hb⟩; (first | have K := k2_first hb | have K := k2_next K hb); obtain ⟨c0, c1, c2, c3⟩ := lies_four K.2.1; obtain ⟨d0, d1, d2, d3⟩ := lies_four K.2.2))
      go_ret
      exact ⟨rfl, K.1⟩
    · by_cases hpq : p = q
      · subst hpq
        have HE := Lib.hid (show twoC p v u n p v' u' n' = 0 by simp [twoC, hx, hy])
        go_enter Try.func73, Try.ntmps73
        go_wp2_with (first | (go_at_call 80; refine (isValid_any _ _ _ _ _).mono ?_; rintro e wn ⟨rfl, hb⟩; (first | have K := k2_first hb | have K := k2_next K hb); obtain ⟨c0, c1, c2, c3⟩ := lies_four K.2.1; obtain ⟨d0, d1, d2, d3⟩ := lies_four K.2.2))
        go_ret
        exact ⟨ret_int HE.out.symm, K.1⟩
      · have HE := Lib.hid (show twoC p v u n q v' u' n' = 5 by simp [twoC, hx, hy, hpq])
        have hpq' : (p == q) = false := by simpa using hpq
        clear hpq
        go_enter Try.func73, Try.ntmps73
        go_wp2_with (first | (go_at_call 80; refine (isValid_any _ _ _ _ _).mono ?_; rintro e wn ⟨rfl, hb⟩; (first | have K := k2_first hb | have K := k2_next K hb); obtain ⟨c0, c1, c2, c3⟩ := lies_four K.2.1; obtain ⟨d0, d1, d2, d3⟩ := lies_four K.2.2))
        go_ret
        exact ⟨ret_int HE.out.symm, K.1⟩
/-- a number that comes back, or the code that it is not valid -/
def resV (p v u n : Int) : Array Value := if padB p v u n then P4 p v u n else P4 0 0 0 0
def limC (p v u n : Int) : Int := if padB p v u n then 0 else 3
theorem asResult_any (p v u n : Int) (w : World) :
    Calls Try.prog 75 #[.agg (P4 p v u n)] w fun e w' => e = .returned (.tuple #[.agg (resV p v u n), .int .i64 (limC p v u n)]) ∧ Below w.heap.size w w' := by
  cases hx : padB p v u n
  · rw [show resV p v u n = P4 0 0 0 0 by simp [resV, hx], show limC p v u n = 3 by simp [limC, hx]]
    go_enter Try.func75, Try.ntmps75
    go_wp2_with (first | (go_at_call 80; refine (isValid_any _ _ _ _ _).mono ?_; rintro e wn ⟨rfl, hb⟩; (first | have K := k2_first hb | have K := k2_next K hb); obtain ⟨c0, c1, c2, c3⟩ := lies_four K.2.1; obtain ⟨d0, d1, d2, d3⟩ := lies_four K.2.2; obtain ⟨df0, df1, df2, df3⟩ := lies_ice K.2.2))
    refine bodyPost_ret (v := .tuple #[.agg (P4 0 0 0 0), .int .i64 3]) (by simp [results, Try.results75, go_sem, d0, d1, d2, d3]) rfl ?_
    exact ⟨rfl, below_set4 K.1 (by omega)⟩
  · rw [show resV p v u n = P4 p v u n by simp [resV, hx], show limC p v u n = 0 by simp [limC, hx]]
    go_enter Try.func75, Try.ntmps75
    go_wp2_with (first | (go_at_call 80; refine (isValid_any _ _ _ _ _).mono ?_; rintro e wn ⟨rfl, hb⟩; (first | have K := k2_first hb | have K := k2_next K hb); obtain ⟨c0, c1, c2, c3⟩ := lies_four K.2.1; obtain ⟨d0, d1, d2, d3⟩ := lies_four K.2.2; obtain ⟨df0, df1, df2, df3⟩ := lies_ice K.2.2))
    refine bodyPost_ret (v := .tuple #[.agg (P4 p v u n), .int .i64 0]) (by simp [results, Try.results75, go_sem, d0, d1, d2, d3]) rfl ?_
    exact ⟨rfl, below_set4 K.1 (by omega)⟩
theorem remainder1_any (x m : Int) (w : World) (h1 : 1 ≤ m) (h2 : m ≤ 1000000000) :
    Calls Try.prog 111 #[.int .i64 x, .int .i64 m] w fun e w' => e = .returned (.int .i64 (x % m)) ∧ w = w' := by
  have hm : (m == 0) = false := by simp; omega
  have hb := tmod_bd (x := x) (show 0 < m by omega)
  by_cases h : x.tmod m < 0
  · have HE := Lib.hid (rem_neg (by omega) h)
    go_enter Try.func111, Try.ntmps111
    go_wp2
    go_ret
    exact ⟨ret_int HE.out, rfl⟩
  · have HE := Lib.hid (rem_pos (by omega) h)
    go_enter Try.func111, Try.ntmps111
    go_wp2
    go_ret
    exact ⟨ret_int HE.out, rfl⟩
/-- the number with the opposite unit -/
theorem negative_any (p v u n : Int) (w : World) (h : POk p v u n) :
    Calls Try.prog 88 #[.agg (P4 p v u n)] w fun e w' => e = .returned (.agg (P4 p v (negU p u n) n)) ∧ Below w.heap.size w w' := by
  obtain ⟨hp2, hp97, hn0, hn1, hm0, hm1, hu0, hu1, hu2⟩ := pok_bd h
  have HE := Lib.hid (show -u % pw p n = negU p u n from rfl)
  clear h
  obtain ⟨x, hx⟩ : ∃ x, pw p n = x := ⟨_, rfl⟩
  have HX := Lib.hid hx
  have hw : IntKind.i64.wrap (-u) = -u := by rw [IntWalk.i64_in] <;> omega
  have HP := primePower_any p n
  rw [hx] at hm0 hm1 hu1 HE HP
  replace HP := Lib.hid fun w => HP w hp2 hp97 hn0 hm1
  clear hx
  go_enter Try.func88, Try.ntmps88
  go_wp2_with fail
  have K := k2_new w (P4 p v u n) (P4 0 0 0 0) 34 34
  generalize ((w.alloc (.cells (P4 p v u n) 34)).alloc (.cells (P4 0 0 0 0) 34)) = W at K ⊢
  obtain ⟨c0, c1, c2, c3⟩ := lies_four K.2.1; obtain ⟨d0, d1, d2, d3⟩ := lies_four K.2.2; obtain ⟨cf0, cf1, cf2, cf3⟩ := lies_ice K.2.1; obtain ⟨df0, df1, df2, df3⟩ := lies_ice K.2.2
  refine wp_region_still_tail 10 (by kernel_rfl) (by kernel_rfl) ?_
  simp only [List.take_succ_cons, List.take_zero, List.drop_succ_cons, List.drop_zero]
  repeat still_step
  still_call ((HP.out _).mono fun e w' h => ⟨h.1, h.2.symm⟩)
  repeat still_step
  still_call ((remainder1_any _ _ _ hm0 hm1).mono fun e w' h => ⟨h.1, h.2.symm⟩)
  repeat still_step
  refine wpStill_nil ?_
  have KW := k2_drew K
  change wpList _ _ _ _ _ W.drew
  clear c0 c1 c2 c3 d0 d1 d2 d3 cf0 cf1 cf2 cf3 df0 df1 df2 df3 K
  generalize W.drew = W2 at KW ⊢
  obtain ⟨c0, c1, c2, c3⟩ := lies_four KW.2.1; obtain ⟨d0, d1, d2, d3⟩ := lies_four KW.2.2; obtain ⟨cf0, cf1, cf2, cf3⟩ := lies_ice KW.2.1; obtain ⟨df0, df1, df2, df3⟩ := lies_ice KW.2.2
  go_wp2
  refine bodyPost_ret (v := .agg (P4 p v (-u % x) n)) (by simp [results, Try.results88, go_sem, d0, d1, d2, d3]) rfl ?_
  exact ⟨by rw [HE.out], below_set4 (KW.1.setCell (Nat.le_refl _) _) (by omega)⟩
/-- the product -/
def mulN (n n' : Int) : Int := min n n'
def mulU (p u n u' n' : Int) : Int := u * u' % pw p (mulN n n')
theorem times_any (p v u n v' u' n' : Int) (w : World) (h : POk p v u n) (h' : POk p v' u' n') :
    Calls Try.prog 74 #[.agg (P4 p v u n), .agg (P4 p v' u' n')] w fun e w' => e = .returned (.agg (P4 p (v + v') (mulU p u n u' n') (mulN n n'))) ∧ Below w.heap.size w w' := by
  obtain ⟨hp2, hp97, hn0, hn1, hm0, hm1, hu0, hu1, hu2⟩ := pok_bd h
  obtain ⟨_, _, hn0', hn1', hm0', hm1', hu0', hu1', hu2'⟩ := pok_bd h'
  have hv0 := h.2.1
  have hv1 := h.2.2.1
  have hv0' := h'.2.1
  have hv1' := h'.2.2.1
  obtain ⟨m, hm⟩ : ∃ m, min n n' = m := ⟨_, rfl⟩
  have hm2 : 0 ≤ m := by omega
  have hpart := pw_part (p := p) (n := n) (e := m) hp2 hm1 (by omega)
  have HM := Lib.hid hm
  have HP := primePower_any p m
  have HE := show u * u' % pw p m = mulU p u n u' n' by unfold mulU mulN; rw [hm]
  obtain ⟨x, hx⟩ : ∃ x, pw p m = x := ⟨_, rfl⟩
  rw [hx] at hpart HP HE
  obtain ⟨hx0, hx1⟩ := hpart
  obtain ⟨r, hr⟩ : ∃ r, u * u' % x = r := ⟨_, rfl⟩
  rw [hr] at HE
  replace HE := Lib.hid HE
  replace HP := Lib.hid fun w => HP w hp2 hp97 hm2 hx1
  have hq0 := Int.mul_nonneg hu0 hu0'
  have hq1 : u * u' ≤ 1000000000000000000 := by
    have := Int.mul_le_mul hu2 hu2' hu0' (by omega)
    omega
  have hw1 : IntKind.i64.wrap (u * u') = u * u' := IntWalk.i64_in _ (by omega)
  have hw2 : IntKind.i64.wrap (v + v') = v + v' := IntWalk.i64_in _ (by omega)
  have hz : (x == 0) = false := by simp; omega
  have hz2 : ¬ x = 0 := by omega
  have ht : (u * u').tmod x = r := by rw [tmod_nonneg hq0]; exact hr
  have hr0 := Int.emod_nonneg (u * u') hz2
  have hr1 := Int.emod_lt_of_pos (u * u') (show 0 < x by omega)
  have hw3 : IntKind.i64.wrap r = r := IntWalk.i64_in _ (by omega)
  have hmin : min n n' = m := hm
  clear hr0 hr1 hr
  clear h h' hx hm hm0 hm1 hu1 hm0' hm1' hu1'
  go_enter Try.func74, Try.ntmps74
  go_wp2_with fail
  have K := k3_new w (P4 p v u n) (P4 p v' u' n') (P4 0 0 0 0) 34 34 34 
  generalize (((w.alloc (.cells (P4 p v u n) 34)).alloc (.cells (P4 p v' u' n') 34)).alloc (.cells (P4 0 0 0 0) 34)) = W at K ⊢
  obtain ⟨c0, c1, c2, c3⟩ := lies_four K.2.1
  obtain ⟨d0, d1, d2, d3⟩ := lies_four K.2.2.1
  obtain ⟨e0, e1, e2, e3⟩ := lies_four K.2.2.2
  obtain ⟨ef0, ef1, ef2, ef3⟩ := lies_ice K.2.2.2
  refine wp_region_still_tail 19 (by kernel_rfl) (by kernel_rfl) ?_
  simp only [List.take_succ_cons, List.take_zero, List.drop_succ_cons, List.drop_zero]
  repeat still_step
  still_call ((HP.out _).mono fun e w' h => ⟨h.1, h.2.symm⟩)
  repeat still_step
  refine wpStill_nil ?_
  have KW := k3_drew K
  change wpList _ _ _ _ _ W.drew
  clear c0 c1 c2 c3 d0 d1 d2 d3 e0 e1 e2 e3 ef0 ef1 ef2 ef3 K
  generalize W.drew = W2 at KW ⊢
  obtain ⟨c0, c1, c2, c3⟩ := lies_four KW.2.1
  obtain ⟨d0, d1, d2, d3⟩ := lies_four KW.2.2.1
  obtain ⟨e0, e1, e2, e3⟩ := lies_four KW.2.2.2
  obtain ⟨ef0, ef1, ef2, ef3⟩ := lies_ice KW.2.2.2
  go_wp2
  refine bodyPost_ret (v := .agg (P4 p (v + v') r m)) (by simp [results, Try.results74, go_sem, e0, e1, e2, e3]) rfl ?_
  exact ⟨by rw [HE.out, ← HM.out]; rfl, below_set4 KW.1 (by omega)⟩
/-- the number with an end: p to the power of v times r -/
def numT (p v r e : Int) : Int × Int × Int := if r = 0 then (e, 0, 0) else (v + valCount r p, valRest r p, e - (v + valCount r p))
theorem add0_num (p v u n v' u' n' : Int) : add0 p v u n v' u' n' = numT p v (addR p v u n v' u' n') (addE v n v' n') := rfl
theorem numEnd_any (p v r e : Int) (w : World) (hp2 : 2 ≤ p) (hr : r.natAbs ≤ 1000000000000) (hv0 : -1000 ≤ v) (hv1 : v ≤ 1000) (he0 : -1000 ≤ e) (he1 : e ≤ 1000) :
    Calls Try.prog 91 #[.int .i64 p, .int .i64 v, .int .i64 r, .int .i64 e] w fun x w' => x = .returned (.agg (P4 p (numT p v r e).1 (numT p v r e).2.1 (numT p v r e).2.2)) ∧ Below w.heap.size w w' := by
  by_cases h0 : r = 0
  · have HT := Lib.hid (show numT p v r e = (e, 0, 0) by simp [numT, h0])
    have h0' : (r == 0) = true := by simpa using h0
    rw [HT.out]
    clear h0
    go_enter Try.func91, Try.ntmps91
    go_wp2_with (first | (go_at_call 122; refine (zeroAt_any _ _ _).mono ?_; rintro e5 w5 ⟨rfl, hb⟩; have K := k1_first hb; obtain ⟨c0, c1, c2, c3⟩ := lies_four K.2; obtain ⟨cf0, cf1, cf2, cf3⟩ := lies_ice K.2))
    refine bodyPost_ret (v := .agg (P4 p e 0 0)) (by simp [results, Try.results91, go_sem, c0, c1, c2, c3]) rfl ?_
    exact ⟨rfl, below_set4 K.1 (by omega)⟩
  · obtain ⟨_, _, k0, k1⟩ := pad_val hp2 h0 hr
    have HT := Lib.hid (show numT p v r e = (v + valCount r p, valRest r p, e - (v + valCount r p)) by simp [numT, h0])
    have HD := divideOut_any r p
    rw [HT.out]
    generalize valCount r p = k at *
    generalize valRest r p = q at *
    replace HD := Lib.hid fun w => HD w hp2 h0 hr
    have h0' : (r == 0) = false := by simpa using h0
    clear h0 hr
    go_enter Try.func91, Try.ntmps91
    go_wp2_with (first | (go_at_call 124; refine (HD.out _).mono ?_; rintro e wn ⟨rfl, rfl⟩))
    refine bodyPost_ret (v := .agg (P4 p (v + k) q (e - (v + k)))) (by simp [results, Try.results91, go_sem]) rfl ?_
    exact ⟨rfl, below_a1 w _⟩
/-- three blocks, two of which hold numbers that are read -/
abbrev SP (w : World) (p v u n q v' u' n' : Int) (w1 : World) : Prop :=
  K3 w (P4 p v u n) (P4 q v' u' n') (P4 0 0 0 0) w1 ∧ w1.cell? ⟨w.heap.size, 0, none⟩ = some (.int .i64 p) ∧ w1.cell? ⟨w.heap.size, 1, none⟩ = some (.int .i64 v) ∧ w1.cell? ⟨w.heap.size, 2, none⟩ = some (.int .i64 u) ∧ w1.cell? ⟨w.heap.size, 3, none⟩ = some (.int .i64 n) ∧
  w1.cell? ⟨w.heap.size + 1, 0, none⟩ = some (.int .i64 q) ∧ w1.cell? ⟨w.heap.size + 1, 1, none⟩ = some (.int .i64 v') ∧ w1.cell? ⟨w.heap.size + 1, 2, none⟩ = some (.int .i64 u') ∧ w1.cell? ⟨w.heap.size + 1, 3, none⟩ = some (.int .i64 n')
theorem sp_of {w : World} {p v u n q v' u' n' : Int} {w1 : World} (K : K3 w (P4 p v u n) (P4 q v' u' n') (P4 0 0 0 0) w1) : SP w p v u n q v' u' n' w1 := by
  obtain ⟨c0, c1, c2, c3⟩ := lies_four K.2.1
  obtain ⟨d0, d1, d2, d3⟩ := lies_four K.2.2.1
  exact ⟨K, c0, c1, c2, c3, d0, d1, d2, d3⟩
theorem sp_next {w : World} {p v u n q v' u' n' : Int} {w1 w2 : World} (h : SP w p v u n q v' u' n' w1) (hb : Below w1.heap.size w1 w2) : SP w p v u n q v' u' n' w2 := sp_of (k3_next h.1 hb)
theorem k3_drewN {w w1 : World} {a b c : Array Value} (h : K3 w a b c w1) (k : Nat) : K3 w a b c (w1.drewN k) := ⟨below_drewN h.1 k, h.2⟩
theorem k3_swap {w W : World} {a0 a1 a2 a3 b0 b1 b2 b3 : Value} {c : Array Value} (K : K3 w #[a0, a1, a2, a3] #[b0, b1, b2, b3] c W) :
    K3 w #[b0, b1, b2, b3] #[a0, a1, a2, a3] c ((((((((W.setCell ⟨w.heap.size, 0, none⟩ b0).setCell ⟨w.heap.size, 1, none⟩ b1).setCell ⟨w.heap.size, 2, none⟩ b2).setCell ⟨w.heap.size, 3, none⟩ b3).setCell ⟨w.heap.size + 1, 0, none⟩ a0).setCell ⟨w.heap.size + 1, 1, none⟩ a1).setCell ⟨w.heap.size + 1, 2, none⟩ a2).setCell ⟨w.heap.size + 1, 3, none⟩ a3) :=
  ⟨below_set4 (below_set4 K.1 (by omega)) (by omega), lies_other4 (lies_set4 K.2.1) (by omega), lies_set4 (lies_other4 K.2.2.1 (by omega)), lies_other4 (lies_other4 K.2.2.2 (by omega)) (by omega)⟩
theorem plus_stay_low (p v u n v' u' n' : Int) (w : World) (h : POk p v u n) (h' : POk p v' u' n') (hv : v ≤ v') (hl : v' < addE v n v' n') :
    Calls Try.prog 87 #[.agg (P4 p v u n), .agg (P4 p v' u' n')] w fun e w' => e = .returned (.agg (P4 p (numT p v (addR p v u n v' u' n') (addE v n v' n')).1 (numT p v (addR p v u n v' u' n') (addE v n v' n')).2.1 (numT p v (addR p v u n v' u' n') (addE v n v' n')).2.2)) ∧ Below w.heap.size w w' := by
  obtain ⟨f1, f2, f3, f4, f5, f6, f7, f8, f9, f10, f11, f12, f13⟩ := add_facts h h' (by omega)
  obtain ⟨hp2, hp97, hn0, hn1, _, _, hu0, _, hu2⟩ := pok_bd h
  obtain ⟨_, _, hn0', hn1', _, _, hu0', _, hu2'⟩ := pok_bd h'
  have hv0 := h.2.1
  have hv1 := h.2.2.1
  have hv0' := h'.2.1
  have hv1' := h'.2.2.1
  obtain ⟨j1, j2, j3, j4⟩ := f13 hl
  have hS : addS p v u n v' u' n' = u + u' * pw p (v' - v) := by unfold addS; rw [if_pos hl]
  have hR : addS p v u n v' u' n' % pw p (addE v n v' n' - v) = addR p v u n v' u' n' := rfl
  have hE : min (v + n) (v' + n') = addE v n v' n' := rfl
  have HM := fun w hp hq ha hb => primePower_any p (addE v n v' n' - v) w hp hq ha hb
  have HN := Lib.hid fun w => numEnd_any p v (addR p v u n v' u' n') (addE v n v' n') w hp2 (by omega) (by omega) (by omega) (by omega) (by omega)
  generalize numT p v (addR p v u n v' u' n') (addE v n v' n') = z at *
  generalize addR p v u n v' u' n' = r at *
  generalize addS p v u n v' u' n' = s at *
  generalize addE v n v' n' = E at *
  generalize pw p (E - v) = m at *
  have HQ := fun w hp hq ha hb => primePower_any p (v' - v) w hp hq ha hb
  generalize pw p (v' - v) = y at *
  have hS2 := hS.symm
  clear hS
  subst hS2
  replace HM := Lib.hid fun w => HM w hp2 hp97 f3 f8
  replace HQ := Lib.hid fun w => HQ w hp2 hp97 (by omega) j2
  have hw1 : IntKind.i64.wrap (u' * y) = u' * y := IntWalk.i64_in _ (by omega)
  have hw2 : IntKind.i64.wrap (u + u' * y) = u + u' * y := IntWalk.i64_in _ (by omega)
  have hw3 : IntKind.i64.wrap (v' - v) = v' - v := IntWalk.i64_in _ (by omega)
  have hw4 : IntKind.i64.wrap (v + n) = v + n := IntWalk.i64_in _ (by omega)
  have hw5 : IntKind.i64.wrap (v' + n') = v' + n' := IntWalk.i64_in _ (by omega)
  have hz : (m == 0) = false := by simp; omega
  clear h h' f13
  go_enter Try.func87, Try.ntmps87
  go_wp2_with fail
  have K := k3_new w (P4 p v u n) (P4 p v' u' n') (P4 0 0 0 0) 34 34 34 
  generalize (((w.alloc (.cells (P4 p v u n) 34)).alloc (.cells (P4 p v' u' n') 34)).alloc (.cells (P4 0 0 0 0) 34)) = W at K ⊢
  go_region_held3 (fun w' => K3 w (P4 p v u n) (P4 p v' u' n') (P4 0 0 0 0) w' ∧ w'.cell? ⟨w.heap.size, 0, none⟩ = some (.int .i64 p) ∧ w'.cell? ⟨w.heap.size, 1, none⟩ = some (.int .i64 v) ∧ w'.cell? ⟨w.heap.size, 2, none⟩ = some (.int .i64 u) ∧ w'.cell? ⟨w.heap.size, 3, none⟩ = some (.int .i64 n) ∧ w'.cell? ⟨w.heap.size + 1, 0, none⟩ = some (.int .i64 p) ∧ w'.cell? ⟨w.heap.size + 1, 1, none⟩ = some (.int .i64 v') ∧ w'.cell? ⟨w.heap.size + 1, 2, none⟩ = some (.int .i64 u') ∧ w'.cell? ⟨w.heap.size + 1, 3, none⟩ = some (.int .i64 n'))
    (first | with_reducible assumption | exact sp_of (k3_drew K) | exact sp_next ‹_› hb)
    (first | (go_at_call 89; refine (end_any _ _ _ _ _ (by omega) (by omega) (by omega) (by omega)).mono ?_; rintro e1 wn ⟨rfl, hb⟩))
  rename_i hHeld
  obtain ⟨K3', c0, c1, c2, c3, d0, d1, d2, d3⟩ := hHeld
  obtain ⟨e0, e1, e2, e3⟩ := lies_four K3'.2.2.2
  obtain ⟨ef0, ef1, ef2, ef3⟩ := lies_ice K3'.2.2.2
  clear hb K
  go_wp2_with fail
  go_quiet ((go_at_call 86; exact (HQ.out _).mono fun e w' h => ⟨h.1, _, h.2.symm⟩))
  go_wp2_with (first | (go_at_call 86; refine (HM.out _).mono ?_; rintro e wn ⟨rfl, rfl⟩) | (go_at_call 91; refine (HN.out _).mono ?_; rintro e5 w5 ⟨rfl, hb⟩; (first | have K := k3_next K3' hb | have K := k3_next (k3_drewN K3' _) hb); obtain ⟨e0, e1, e2, e3⟩ := lies_four K.2.2.2; obtain ⟨ef0, ef1, ef2, ef3⟩ := lies_ice K.2.2.2))
  refine bodyPost_ret (v := .agg (P4 p z.1 z.2.1 z.2.2)) (by simp [results, Try.results87, go_sem, e0, e1, e2, e3]) rfl ?_
  exact ⟨rfl, below_set4 K.1 (by omega)⟩
theorem plus_stay_high (p v u n v' u' n' : Int) (w : World) (h : POk p v u n) (h' : POk p v' u' n') (hv : v ≤ v') (hl : ¬ v' < addE v n v' n') :
    Calls Try.prog 87 #[.agg (P4 p v u n), .agg (P4 p v' u' n')] w fun e w' => e = .returned (.agg (P4 p (numT p v (addR p v u n v' u' n') (addE v n v' n')).1 (numT p v (addR p v u n v' u' n') (addE v n v' n')).2.1 (numT p v (addR p v u n v' u' n') (addE v n v' n')).2.2)) ∧ Below w.heap.size w w' := by
  obtain ⟨f1, f2, f3, f4, f5, f6, f7, f8, f9, f10, f11, f12, f13⟩ := add_facts h h' (by omega)
  obtain ⟨hp2, hp97, hn0, hn1, _, _, hu0, _, hu2⟩ := pok_bd h
  obtain ⟨_, _, hn0', hn1', _, _, hu0', _, hu2'⟩ := pok_bd h'
  have hv0 := h.2.1
  have hv1 := h.2.2.1
  have hv0' := h'.2.1
  have hv1' := h'.2.2.1
  have hS : addS p v u n v' u' n' = u := by unfold addS; rw [if_neg hl]
  have hR : addS p v u n v' u' n' % pw p (addE v n v' n' - v) = addR p v u n v' u' n' := rfl
  have hE : min (v + n) (v' + n') = addE v n v' n' := rfl
  have HM := fun w hp hq ha hb => primePower_any p (addE v n v' n' - v) w hp hq ha hb
  have HN := Lib.hid fun w => numEnd_any p v (addR p v u n v' u' n') (addE v n v' n') w hp2 (by omega) (by omega) (by omega) (by omega) (by omega)
  generalize numT p v (addR p v u n v' u' n') (addE v n v' n') = z at *
  generalize addR p v u n v' u' n' = r at *
  generalize addS p v u n v' u' n' = s at *
  generalize addE v n v' n' = E at *
  generalize pw p (E - v) = m at *
  have hS2 := hS.symm
  clear hS
  subst hS2
  replace HM := Lib.hid fun w => HM w hp2 hp97 f3 f8
  have hw4 : IntKind.i64.wrap (v + n) = v + n := IntWalk.i64_in _ (by omega)
  have hw5 : IntKind.i64.wrap (v' + n') = v' + n' := IntWalk.i64_in _ (by omega)
  have hz : (m == 0) = false := by simp; omega
  clear h h' f13
  go_enter Try.func87, Try.ntmps87
  go_wp2_with fail
  have K := k3_new w (P4 p v u n) (P4 p v' u' n') (P4 0 0 0 0) 34 34 34 
  generalize (((w.alloc (.cells (P4 p v u n) 34)).alloc (.cells (P4 p v' u' n') 34)).alloc (.cells (P4 0 0 0 0) 34)) = W at K ⊢
  go_region_held3 (fun w' => K3 w (P4 p v u n) (P4 p v' u' n') (P4 0 0 0 0) w' ∧ w'.cell? ⟨w.heap.size, 0, none⟩ = some (.int .i64 p) ∧ w'.cell? ⟨w.heap.size, 1, none⟩ = some (.int .i64 v) ∧ w'.cell? ⟨w.heap.size, 2, none⟩ = some (.int .i64 u) ∧ w'.cell? ⟨w.heap.size, 3, none⟩ = some (.int .i64 n) ∧ w'.cell? ⟨w.heap.size + 1, 0, none⟩ = some (.int .i64 p) ∧ w'.cell? ⟨w.heap.size + 1, 1, none⟩ = some (.int .i64 v') ∧ w'.cell? ⟨w.heap.size + 1, 2, none⟩ = some (.int .i64 u') ∧ w'.cell? ⟨w.heap.size + 1, 3, none⟩ = some (.int .i64 n'))
    (first | with_reducible assumption | exact sp_of (k3_drew K) | exact sp_next ‹_› hb)
    (first | (go_at_call 89; refine (end_any _ _ _ _ _ (by omega) (by omega) (by omega) (by omega)).mono ?_; rintro e1 wn ⟨rfl, hb⟩))
  rename_i hHeld
  obtain ⟨K3', c0, c1, c2, c3, d0, d1, d2, d3⟩ := hHeld
  obtain ⟨e0, e1, e2, e3⟩ := lies_four K3'.2.2.2
  obtain ⟨ef0, ef1, ef2, ef3⟩ := lies_ice K3'.2.2.2
  clear hb K
  go_wp2_with (first | (go_at_call 86; refine (HM.out _).mono ?_; rintro e wn ⟨rfl, rfl⟩) | (go_at_call 91; refine (HN.out _).mono ?_; rintro e5 w5 ⟨rfl, hb⟩; (first | have K := k3_next K3' hb | have K := k3_next (k3_drewN K3' _) hb); obtain ⟨e0, e1, e2, e3⟩ := lies_four K.2.2.2; obtain ⟨ef0, ef1, ef2, ef3⟩ := lies_ice K.2.2.2))
  refine bodyPost_ret (v := .agg (P4 p z.1 z.2.1 z.2.2)) (by simp [results, Try.results87, go_sem, e0, e1, e2, e3]) rfl ?_
  exact ⟨rfl, below_set4 K.1 (by omega)⟩
theorem plus_swap_low (p v u n v' u' n' : Int) (w : World) (h : POk p v' u' n') (h' : POk p v u n) (hv : v' < v) (hl : v < addE v' n' v n) :
    Calls Try.prog 87 #[.agg (P4 p v u n), .agg (P4 p v' u' n')] w fun e w' => e = .returned (.agg (P4 p (numT p v' (addR p v' u' n' v u n) (addE v' n' v n)).1 (numT p v' (addR p v' u' n' v u n) (addE v' n' v n)).2.1 (numT p v' (addR p v' u' n' v u n) (addE v' n' v n)).2.2)) ∧ Below w.heap.size w w' := by
  obtain ⟨f1, f2, f3, f4, f5, f6, f7, f8, f9, f10, f11, f12, f13⟩ := add_facts h h' (by omega)
  obtain ⟨hp2, hp97, hn0, hn1, _, _, hu0, _, hu2⟩ := pok_bd h
  obtain ⟨_, _, hn0', hn1', _, _, hu0', _, hu2'⟩ := pok_bd h'
  have hv0 := h.2.1
  have hv1 := h.2.2.1
  have hv0' := h'.2.1
  have hv1' := h'.2.2.1
  obtain ⟨j1, j2, j3, j4⟩ := f13 hl
  have hS : addS p v' u' n' v u n = u' + u * pw p (v - v') := by unfold addS; rw [if_pos hl]
  have hR : addS p v' u' n' v u n % pw p (addE v' n' v n - v') = addR p v' u' n' v u n := rfl
  have hE : min (v' + n') (v + n) = addE v' n' v n := rfl
  have hE2 : min (v' + n') (v + n) = addE v' n' v n := rfl
  have HM := fun w hp hq ha hb => primePower_any p (addE v' n' v n - v') w hp hq ha hb
  have HN := Lib.hid fun w => numEnd_any p v' (addR p v' u' n' v u n) (addE v' n' v n) w hp2 (by omega) (by omega) (by omega) (by omega) (by omega)
  generalize numT p v' (addR p v' u' n' v u n) (addE v' n' v n) = z at *
  generalize addR p v' u' n' v u n = r at *
  generalize addS p v' u' n' v u n = s at *
  generalize addE v' n' v n = E at *
  generalize pw p (E - v') = m at *
  have HQ := fun w hp hq ha hb => primePower_any p (v - v') w hp hq ha hb
  generalize pw p (v - v') = y at *
  have hS2 := hS.symm
  clear hS
  subst hS2
  replace HM := Lib.hid fun w => HM w hp2 hp97 f3 f8
  replace HQ := Lib.hid fun w => HQ w hp2 hp97 (by omega) j2
  have hw1 : IntKind.i64.wrap (u * y) = u * y := IntWalk.i64_in _ (by omega)
  have hw2 : IntKind.i64.wrap (u' + u * y) = u' + u * y := IntWalk.i64_in _ (by omega)
  have hw3 : IntKind.i64.wrap (v - v') = v - v' := IntWalk.i64_in _ (by omega)
  have hw4 : IntKind.i64.wrap (v + n) = v + n := IntWalk.i64_in _ (by omega)
  have hw5 : IntKind.i64.wrap (v' + n') = v' + n' := IntWalk.i64_in _ (by omega)
  have hz : (m == 0) = false := by simp; omega
  clear h h' f13
  go_enter Try.func87, Try.ntmps87
  go_wp2_with fail
  have K := k3_new w (P4 p v' u' n') (P4 p v u n) (P4 0 0 0 0) 34 34 34 
  generalize (((w.alloc (.cells (P4 p v' u' n') 34)).alloc (.cells (P4 p v u n) 34)).alloc (.cells (P4 0 0 0 0) 34)) = W at K ⊢
  go_region_held3 (fun w' => K3 w (P4 p v' u' n') (P4 p v u n) (P4 0 0 0 0) w' ∧ w'.cell? ⟨w.heap.size, 0, none⟩ = some (.int .i64 p) ∧ w'.cell? ⟨w.heap.size, 1, none⟩ = some (.int .i64 v') ∧ w'.cell? ⟨w.heap.size, 2, none⟩ = some (.int .i64 u') ∧ w'.cell? ⟨w.heap.size, 3, none⟩ = some (.int .i64 n') ∧ w'.cell? ⟨w.heap.size + 1, 0, none⟩ = some (.int .i64 p) ∧ w'.cell? ⟨w.heap.size + 1, 1, none⟩ = some (.int .i64 v) ∧ w'.cell? ⟨w.heap.size + 1, 2, none⟩ = some (.int .i64 u) ∧ w'.cell? ⟨w.heap.size + 1, 3, none⟩ = some (.int .i64 n))
    (first | with_reducible assumption | exact sp_of (k3_drew K) | exact sp_next ‹_› hb)
    (first | (go_at_call 89; refine (end_any _ _ _ _ _ (by omega) (by omega) (by omega) (by omega)).mono ?_; rintro e1 wn ⟨rfl, hb⟩))
  rename_i hHeld
  obtain ⟨K3', c0, c1, c2, c3, d0, d1, d2, d3⟩ := hHeld
  obtain ⟨e0, e1, e2, e3⟩ := lies_four K3'.2.2.2
  obtain ⟨ef0, ef1, ef2, ef3⟩ := lies_ice K3'.2.2.2
  clear hb K
  go_wp2_with fail
  go_quiet ((go_at_call 86; exact (HQ.out _).mono fun e w' h => ⟨h.1, _, h.2.symm⟩))
  go_wp2_with (first | (go_at_call 86; refine (HM.out _).mono ?_; rintro e wn ⟨rfl, rfl⟩) | (go_at_call 91; refine (HN.out _).mono ?_; rintro e5 w5 ⟨rfl, hb⟩; (first | have K := k3_next K3' hb | have K := k3_next (k3_drewN K3' _) hb); obtain ⟨e0, e1, e2, e3⟩ := lies_four K.2.2.2; obtain ⟨ef0, ef1, ef2, ef3⟩ := lies_ice K.2.2.2))
  refine bodyPost_ret (v := .agg (P4 p z.1 z.2.1 z.2.2)) (by simp [results, Try.results87, go_sem, e0, e1, e2, e3]) rfl ?_
  exact ⟨rfl, below_set4 K.1 (by omega)⟩
theorem plus_swap_high (p v u n v' u' n' : Int) (w : World) (h : POk p v' u' n') (h' : POk p v u n) (hv : v' < v) (hl : ¬ v < addE v' n' v n) :
    Calls Try.prog 87 #[.agg (P4 p v u n), .agg (P4 p v' u' n')] w fun e w' => e = .returned (.agg (P4 p (numT p v' (addR p v' u' n' v u n) (addE v' n' v n)).1 (numT p v' (addR p v' u' n' v u n) (addE v' n' v n)).2.1 (numT p v' (addR p v' u' n' v u n) (addE v' n' v n)).2.2)) ∧ Below w.heap.size w w' := by
  obtain ⟨f1, f2, f3, f4, f5, f6, f7, f8, f9, f10, f11, f12, f13⟩ := add_facts h h' (by omega)
  obtain ⟨hp2, hp97, hn0, hn1, _, _, hu0, _, hu2⟩ := pok_bd h
  obtain ⟨_, _, hn0', hn1', _, _, hu0', _, hu2'⟩ := pok_bd h'
  have hv0 := h.2.1
  have hv1 := h.2.2.1
  have hv0' := h'.2.1
  have hv1' := h'.2.2.1
  have hS : addS p v' u' n' v u n = u' := by unfold addS; rw [if_neg hl]
  have hR : addS p v' u' n' v u n % pw p (addE v' n' v n - v') = addR p v' u' n' v u n := rfl
  have hE : min (v' + n') (v + n) = addE v' n' v n := rfl
  have hE2 : min (v' + n') (v + n) = addE v' n' v n := rfl
  have HM := fun w hp hq ha hb => primePower_any p (addE v' n' v n - v') w hp hq ha hb
  have HN := Lib.hid fun w => numEnd_any p v' (addR p v' u' n' v u n) (addE v' n' v n) w hp2 (by omega) (by omega) (by omega) (by omega) (by omega)
  generalize numT p v' (addR p v' u' n' v u n) (addE v' n' v n) = z at *
  generalize addR p v' u' n' v u n = r at *
  generalize addS p v' u' n' v u n = s at *
  generalize addE v' n' v n = E at *
  generalize pw p (E - v') = m at *
  have hS2 := hS.symm
  clear hS
  subst hS2
  replace HM := Lib.hid fun w => HM w hp2 hp97 f3 f8
  have hw4 : IntKind.i64.wrap (v + n) = v + n := IntWalk.i64_in _ (by omega)
  have hw5 : IntKind.i64.wrap (v' + n') = v' + n' := IntWalk.i64_in _ (by omega)
  have hz : (m == 0) = false := by simp; omega
  clear h h' f13
  go_enter Try.func87, Try.ntmps87
  go_wp2_with fail
  have K := k3_new w (P4 p v' u' n') (P4 p v u n) (P4 0 0 0 0) 34 34 34 
  generalize (((w.alloc (.cells (P4 p v' u' n') 34)).alloc (.cells (P4 p v u n) 34)).alloc (.cells (P4 0 0 0 0) 34)) = W at K ⊢
  go_region_held3 (fun w' => K3 w (P4 p v' u' n') (P4 p v u n) (P4 0 0 0 0) w' ∧ w'.cell? ⟨w.heap.size, 0, none⟩ = some (.int .i64 p) ∧ w'.cell? ⟨w.heap.size, 1, none⟩ = some (.int .i64 v') ∧ w'.cell? ⟨w.heap.size, 2, none⟩ = some (.int .i64 u') ∧ w'.cell? ⟨w.heap.size, 3, none⟩ = some (.int .i64 n') ∧ w'.cell? ⟨w.heap.size + 1, 0, none⟩ = some (.int .i64 p) ∧ w'.cell? ⟨w.heap.size + 1, 1, none⟩ = some (.int .i64 v) ∧ w'.cell? ⟨w.heap.size + 1, 2, none⟩ = some (.int .i64 u) ∧ w'.cell? ⟨w.heap.size + 1, 3, none⟩ = some (.int .i64 n))
    (first | with_reducible assumption | exact sp_of (k3_drew K) | exact sp_next ‹_› hb)
    (first | (go_at_call 89; refine (end_any _ _ _ _ _ (by omega) (by omega) (by omega) (by omega)).mono ?_; rintro e1 wn ⟨rfl, hb⟩))
  rename_i hHeld
  obtain ⟨K3', c0, c1, c2, c3, d0, d1, d2, d3⟩ := hHeld
  obtain ⟨e0, e1, e2, e3⟩ := lies_four K3'.2.2.2
  obtain ⟨ef0, ef1, ef2, ef3⟩ := lies_ice K3'.2.2.2
  clear hb K
  go_wp2_with (first | (go_at_call 86; refine (HM.out _).mono ?_; rintro e wn ⟨rfl, rfl⟩) | (go_at_call 91; refine (HN.out _).mono ?_; rintro e5 w5 ⟨rfl, hb⟩; (first | have K := k3_next K3' hb | have K := k3_next (k3_drewN K3' _) hb); obtain ⟨e0, e1, e2, e3⟩ := lies_four K.2.2.2; obtain ⟨ef0, ef1, ef2, ef3⟩ := lies_ice K.2.2.2))
  refine bodyPost_ret (v := .agg (P4 p z.1 z.2.1 z.2.2)) (by simp [results, Try.results87, go_sem, e0, e1, e2, e3]) rfl ?_
  exact ⟨rfl, below_set4 K.1 (by omega)⟩
theorem plus_any (p v u n v' u' n' : Int) (w : World) (h : POk p v u n) (h' : POk p v' u' n') :
    Calls Try.prog 87 #[.agg (P4 p v u n), .agg (P4 p v' u' n')] w fun e w' => e = .returned (.agg (P4 p (addT p v u n v' u' n').1 (addT p v u n v' u' n').2.1 (addT p v u n v' u' n').2.2)) ∧ Below w.heap.size w w' := by
  by_cases hv : v' < v
  · rw [addT_swap hv, add0_num]
    by_cases hl : v < addE v' n' v n
    · exact plus_swap_low p v u n v' u' n' w h' h hv hl
    · exact plus_swap_high p v u n v' u' n' w h' h hv hl
  · rw [addT_stay hv, add0_num]
    by_cases hl : v' < addE v n v' n'
    · exact plus_stay_low p v u n v' u' n' w h h' (by omega) hl
    · exact plus_stay_high p v u n v' u' n' w h h' (by omega) hl
end Go.Proofs.Ytgckamlibbjgcaa
