/- Contracts of the walk: chapter 3's functions in spec: sums, opposites, products and digits. -/
import Derived.Test.YtdbiaiimdokleaaPadSpec
import Derived.Test.YtdbiaiimdokleaaPadExp2
namespace Go.Proofs.Ytdbiaiimdokleaa
open Go.RowKit
set_option linter.unusedVariables false
set_option linter.unusedSimpArgs false
def makeT (p v s e : Int) : Int × Int × Int :=
  if s % pw p (e - v) = 0 then (e, 0, 0) else (v + valCount (s % pw p (e - v)) p, valRest (s % pw p (e - v)) p, e - v - valCount (s % pw p (e - v)) p)
set_option maxHeartbeats 400000 in
theorem l03Make_any (p v s e : Int) (w : World) (hp2 : 2 ≤ p) (hp97 : p ≤ 97) (h0 : v ≤ e) (hb0 : -1000 ≤ v) (hb1 : e ≤ 1000) (hle : pw p (e - v) ≤ 1000000000) (hs0 : 0 ≤ s) :
    Calls Try.prog 88 #[.int .i64 p, .int .i64 v, .int .i64 s, .int .i64 e] w fun r w' => r = .returned (.agg (P4 p (makeT p v s e).1 (makeT p v s e).2.1 (makeT p v s e).2.2)) ∧ Below w.heap.size w w' := by
  by_cases he : e = v
  · subst he
    have HE := Lib.hid (show makeT p e s e = (e, 0, 0) by simp [makeT, pw_zero, show e - e = 0 by omega])
    rw [HE.out]
    go_enter Try.func88, Try.ntmps88
    go_wp2_with fail
    refine bodyPost_ret (v := .agg (P4 p e 0 0)) (by simp [results, Try.results88, go_sem]) rfl ?_
    exact ⟨rfl, below_a1 w _⟩
  · have hlt : v < e := by omega
    have h29 := pw_29 hp2 hle
    have hge : p ≤ pw p (e - v) := by have := pw_mono (p := p) hp2 (show 1 ≤ e - v by omega); rw [pw_one] at this; exact this
    have HM := l02Pow_any p (e - v)
    have hw1 := IntWalk.i64_in (e - v) (by omega)
    have HX := show s % pw p (e - v) = s % pw p (e - v) from rfl
    have HT := show makeT p v s e = if s % pw p (e - v) = 0 then (e, 0, 0) else (v + valCount (s % pw p (e - v)) p, valRest (s % pw p (e - v)) p, e - v - valCount (s % pw p (e - v)) p) from rfl
    generalize pw p (e - v) = m at *
    replace HM := Lib.hid fun w => HM w hp2 hp97 (by omega) hle
    have r0 := Int.emod_nonneg s (show m ≠ 0 by omega)
    have r1 := Int.emod_lt_of_pos s (show 0 < m by omega)
    have HN := Lib.hid fun w => l01Mod_any s m w (by omega) hle
    generalize s % m = r at *
    clear HX he
    by_cases hr : r = 0
    · rw [HT, if_pos hr]
      have hr' : (r == 0) = true := by simp [hr]
      clear hr HT
      go_enter Try.func88, Try.ntmps88
      go_wp2_with (first | (go_at_call 67; refine (HM.out _).mono ?_; rintro e wn ⟨rfl, rfl⟩) | (go_at_call 82; refine (HN.out _).mono ?_; rintro e wn ⟨rfl, rfl⟩))
      refine bodyPost_ret (v := .agg (P4 p e 0 0)) (by simp [results, Try.results88, go_sem]) rfl ?_
      exact ⟨rfl, below_a1 w _⟩
    · rw [HT, if_neg hr]
      obtain ⟨_, _, k0, k1⟩ := pad_val hp2 hr (by omega)
      have HV := Lib.hid fun w => l01Val_any r p w hp2 hr (by omega)
      have HS := Lib.hid (vRel_start (p := p) hr (by omega))
      have hr' : (r == 0) = false := by simpa using hr
      have hp4 : ¬ p = 0 := by omega
      have hp5 : (p == 0) = false := by simp; omega
      have hw2 := IntWalk.i64_in (v + valCount r p) (by omega)
      have hw3 := IntWalk.i64_in (e - v - valCount r p) (by omega)
      have HK := Lib.hid (show valCount r p = valCount r p from rfl)
      clear hr HT
      go_enter Try.func88, Try.ntmps88
      go_wp2_with (first | (go_at_call 67; refine (HM.out _).mono ?_; rintro e wn ⟨rfl, rfl⟩) | (go_at_call 82; refine (HN.out _).mono ?_; rintro e wn ⟨rfl, rfl⟩) | (go_at_call 81; refine (HV.out _).mono ?_; rintro e wn ⟨rfl, rfl⟩))
      go_loop [2, 11] (fun a c => ∃ x k : Int, a = .int .i64 x ∧ c = .int .i64 k ∧ VRel r p x k ∧ k ≤ valCount r p) (fun _ c => 100 - (intOf c).toNat)
      case atStart => exact ⟨r, 0, rfl, rfl, HS.out, k0⟩
      case round =>
        obtain ⟨x, k, rfl, rfl, hrel, hk⟩ := hrel
        have b1 := hrel.2.1
        have b2 := hrel.2.2.2.1
        by_cases hlt2 : k < valCount r p
        · have hm0 := (pad_more hp2 hrel).1.2 hlt2
          have H := Lib.hid (vRel_step hp2 hrel hm0)
          clear hrel hm0
          go_wp2
          exact ⟨⟨_, _, rfl, rfl, H.out.1, by omega⟩, by simp only [intOf]; omega⟩
        · have hm0 : ¬ x.tmod p = 0 := fun h => hlt2 ((pad_more hp2 hrel).1.1 h)
          have H := Lib.hid (vRel_end hrel hm0)
          clear hrel hm0
          go_wp2
          refine bodyPost_ret (v := .agg (P4 p (v + valCount r p) x (e - v - valCount r p))) (by simp [results, Try.results88, go_sem]) rfl ?_
          exact ⟨by rw [← H.out.2], below_a1 w _⟩
theorem make_eq {p v u n v' u' n' s : Int} (hs : s % pw p (addE v n v' n' - v) = addR p v u n v' u' n') : makeT p v s (addE v n v' n') = add0 p v u n v' u' n' := by
  unfold makeT add0; rw [hs, Int.sub_sub]
abbrev K4 (w : World) (a b c d : Array Value) (w1 : World) : Prop := K3 w a b c w1 ∧ Lies w1 (w.heap.size + 3) d
theorem lies_fourth {w : World} {o o' o'' : Obj} {vs : Array Value} {T : TypeId} : Lies ((((w.alloc o).alloc o').alloc o'').alloc (.cells vs T)) (w.heap.size + 3) vs := by
  have := lies_new (((w.alloc o).alloc o').alloc o'') vs T; rw [size1, size1, size1] at this; exact this
theorem k4_new (w : World) (a b c d : Array Value) (T T' T'' T3 : TypeId) : K4 w a b c d ((((w.alloc (.cells a T)).alloc (.cells b T')).alloc (.cells c T'')).alloc (.cells d T3)) :=
  ⟨k3_next (k3_new w a b c T T' T'') (below_a1 _ _), lies_fourth⟩
theorem k4_drew {w w1 : World} {a b c d : Array Value} (h : K4 w a b c d w1) : K4 w a b c d w1.drew := ⟨k3_drew h.1, h.2⟩
theorem l03Add_stay_low (p v u n v' u' n' : Int) (w : World) (h : POk p v u n) (h' : POk p v' u' n') (hv : v ≤ v') (hl : v' < addE v n v' n') :
    Calls Try.prog 54 #[.agg (P4 p v u n), .agg (P4 p v' u' n')] w fun e w' => e = .returned (.agg (P4 p (add0 p v u n v' u' n').1 (add0 p v u n v' u' n').2.1 (add0 p v u n v' u' n').2.2)) ∧ Below w.heap.size w w' := by
  obtain ⟨f1, f2, f3, f4, f5, f6, f7, f8, f9, f10, f11, f12, f13⟩ := add_facts h h' (by omega)
  obtain ⟨hp2, hp97, hn0, hn1, _, hm1, hu0, _, hu2⟩ := pok_bd h
  obtain ⟨_, _, hn0', hn1', _, hm1', hu0', _, hu2'⟩ := pok_bd h'
  have hv0 := h.2.1
  have hv1 := h.2.2.1
  have hv0' := h'.2.1
  have hv1' := h'.2.2.1
  obtain ⟨j1, j2, j3, j4⟩ := f13 hl
  have hB := pw_part (p := p) (n := n') (e := addE v n v' n' - v') hp2 hm1' (by unfold addE; omega)
  have hS : addS p v u n v' u' n' = u + u' * pw p (v' - v) := by unfold addS; rw [if_pos hl]
  have HE := make_eq (p := p) (v := v) (u := u) (n := n) (v' := v') (u' := u') (n' := n') (s := u + u' % pw p (addE v n v' n' - v') * pw p (v' - v)) (by
    have := spec_sum (p := p) (u := u) (u' := u') (a := v' - v) (b := addE v n v' n' - v') hp2 (by omega) (by omega)
    rw [show v' - v + (addE v n v' n' - v') = addE v n v' n' - v by omega] at this
    unfold addR; rw [this, hS])
  have hE : min (v + n) (v' + n') = addE v n v' n' := rfl
  rw [← HE]
  clear HE f13
  have HA := l02Pow_any p (v' - v)
  have HB := l02Pow_any p (addE v n v' n' - v')
  clear hS
  generalize addE v n v' n' = E at *
  have HM := fun s w h => l03Make_any p v s E w hp2 hp97 f1 (by omega) (by omega) f8 h
  generalize pw p (v' - v) = a at *
  generalize pw p (E - v') = b at *
  obtain ⟨ht, hz2, hw6, hz⟩ := rem_facts hu0' hB.1 hB.2
  have r0 := Int.emod_nonneg u' (show b ≠ 0 by omega)
  have r1 := Int.emod_lt_of_pos u' (show 0 < b by omega)
  generalize u' % b = c at *
  have q0 := Int.mul_nonneg r0 (show 0 ≤ a by omega)
  have q1 : c * a ≤ 1000000000000000000 := by
    have := Int.mul_le_mul (show c ≤ 1000000000 by omega) j2 (by omega) (by omega)
    omega
  replace HM := Lib.hid fun w => HM (u + c * a) w (by omega)
  replace HA := Lib.hid fun w => HA w hp2 hp97 (by omega) j2
  replace HB := Lib.hid fun w => HB w hp2 hp97 (by omega) hB.2
  have hw1 := IntWalk.i64_in (c * a) (by omega)
  have hw2 := IntWalk.i64_in (u + c * a) (by omega)
  obtain ⟨d1, hd1⟩ : ∃ d, v' - v = d := ⟨_, rfl⟩
  obtain ⟨d2, hd2⟩ : ∃ d, E - v' = d := ⟨_, rfl⟩
  have hw3 : IntKind.i64.wrap (v' - v) = d1 := by rw [IntWalk.i64_in _ (by omega)]; exact hd1
  have hw7 : IntKind.i64.wrap (E - v') = d2 := by rw [IntWalk.i64_in _ (by omega)]; exact hd2
  rw [hd1] at HA
  rw [hd2] at HB
  clear hd1 hd2
  have hw4 : IntKind.i64.wrap (v + n) = v + n := IntWalk.i64_in _ (by omega)
  have hw5 : IntKind.i64.wrap (v' + n') = v' + n' := IntWalk.i64_in _ (by omega)
  clear h h' f7 f8 f9 f10 f11 f12 hm1 hm1'
  go_enter Try.func54, Try.ntmps54
  go_wp2_with fail
  have K := k3_new w (P4 p v u n) (P4 p v' u' n') (P4 0 0 0 0) 25 25 25
  generalize (((w.alloc (.cells (P4 p v u n) 25)).alloc (.cells (P4 p v' u' n') 25)).alloc (.cells (P4 0 0 0 0) 25)) = W at K ⊢
  obtain ⟨c0, c1, c2, c3⟩ := lies_four K.2.1
  obtain ⟨d0, d1, d2, d3⟩ := lies_four K.2.2.1
  go_quiet (first | (go_at_call 67; with_reducible exact (HA.out _).mono fun e w' h => ⟨h.1, _, h.2.symm⟩) | (go_at_call 67; with_reducible exact (HB.out _).mono fun e w' h => ⟨h.1, _, h.2.symm⟩))
  go_wp2_with (first | (go_at_call 88; refine (HM.out _).mono ?_; rintro e5 w5 ⟨rfl, hb⟩; (first | have K := k3_next K hb | have K := k3_next (k3_drewN K _) hb | have K := k3_first hb); obtain ⟨e0, e1, e2, e3⟩ := lies_four K.2.2.2; obtain ⟨ef0, ef1, ef2, ef3⟩ := lies_ice K.2.2.2))
  refine bodyPost_ret (v := .agg (P4 p (makeT p v (u + c * a) E).1 (makeT p v (u + c * a) E).2.1 (makeT p v (u + c * a) E).2.2)) (by simp [results, Try.results54, go_sem, e0, e1, e2, e3]) rfl ?_
  exact ⟨rfl, below_set4 K.1 (by omega)⟩
theorem l03Add_stay_high (p v u n v' u' n' : Int) (w : World) (h : POk p v u n) (h' : POk p v' u' n') (hv : v ≤ v') (hl : ¬ v' < addE v n v' n') :
    Calls Try.prog 54 #[.agg (P4 p v u n), .agg (P4 p v' u' n')] w fun e w' => e = .returned (.agg (P4 p (add0 p v u n v' u' n').1 (add0 p v u n v' u' n').2.1 (add0 p v u n v' u' n').2.2)) ∧ Below w.heap.size w w' := by
  obtain ⟨f1, f2, f3, f4, f5, f6, f7, f8, f9, f10, f11, f12, f13⟩ := add_facts h h' (by omega)
  obtain ⟨hp2, hp97, hn0, hn1, _, hm1, hu0, _, hu2⟩ := pok_bd h
  obtain ⟨_, _, hn0', hn1', _, hm1', hu0', _, hu2'⟩ := pok_bd h'
  have hv0 := h.2.1
  have hv1 := h.2.2.1
  have hv0' := h'.2.1
  have hv1' := h'.2.2.1
  have HE := make_eq (p := p) (v := v) (u := u) (n := n) (v' := v') (u' := u') (n' := n') (s := u) (by unfold addR addS; rw [if_neg hl])
  have hE : min (v + n) (v' + n') = addE v n v' n' := rfl
  rw [← HE]
  clear HE f13
  generalize addE v n v' n' = E at *
  have HM := Lib.hid fun w => l03Make_any p v u E w hp2 hp97 f1 (by omega) (by omega) f8 hu0
  have hw4 : IntKind.i64.wrap (v + n) = v + n := IntWalk.i64_in _ (by omega)
  have hw5 : IntKind.i64.wrap (v' + n') = v' + n' := IntWalk.i64_in _ (by omega)
  clear h h' f7 f8 f9 f10 f11 f12 hm1 hm1'
  go_enter Try.func54, Try.ntmps54
  go_wp2_with (first | (go_at_call 88; refine (HM.out _).mono ?_; rintro e5 w5 ⟨rfl, hb⟩; (first | have K := k3_next K hb | have K := k3_next (k3_drewN K _) hb | have K := k3_first hb); obtain ⟨e0, e1, e2, e3⟩ := lies_four K.2.2.2; obtain ⟨ef0, ef1, ef2, ef3⟩ := lies_ice K.2.2.2))
  refine bodyPost_ret (v := .agg (P4 p (makeT p v (u) E).1 (makeT p v (u) E).2.1 (makeT p v (u) E).2.2)) (by simp [results, Try.results54, go_sem, e0, e1, e2, e3]) rfl ?_
  exact ⟨rfl, below_set4 K.1 (by omega)⟩
theorem l03Add_swap_low (p v u n v' u' n' : Int) (w : World) (h : POk p v' u' n') (h' : POk p v u n) (hv : v' < v) (hl : v < addE v' n' v n) :
    Calls Try.prog 54 #[.agg (P4 p v u n), .agg (P4 p v' u' n')] w fun e w' => e = .returned (.agg (P4 p (add0 p v' u' n' v u n).1 (add0 p v' u' n' v u n).2.1 (add0 p v' u' n' v u n).2.2)) ∧ Below w.heap.size w w' := by
  obtain ⟨f1, f2, f3, f4, f5, f6, f7, f8, f9, f10, f11, f12, f13⟩ := add_facts h h' (by omega)
  obtain ⟨hp2, hp97, hn0, hn1, _, hm1, hu0, _, hu2⟩ := pok_bd h
  obtain ⟨_, _, hn0', hn1', _, hm1', hu0', _, hu2'⟩ := pok_bd h'
  have hv0 := h.2.1
  have hv1 := h.2.2.1
  have hv0' := h'.2.1
  have hv1' := h'.2.2.1
  obtain ⟨j1, j2, j3, j4⟩ := f13 hl
  have hB := pw_part (p := p) (n := n) (e := addE v' n' v n - v) hp2 hm1' (by unfold addE; omega)
  have hS : addS p v' u' n' v u n = u' + u * pw p (v - v') := by unfold addS; rw [if_pos hl]
  have HE := make_eq (p := p) (v := v') (u := u') (n := n') (v' := v) (u' := u) (n' := n) (s := u' + u % pw p (addE v' n' v n - v) * pw p (v - v')) (by
    have := spec_sum (p := p) (u := u') (u' := u) (a := v - v') (b := addE v' n' v n - v) hp2 (by omega) (by omega)
    rw [show v - v' + (addE v' n' v n - v) = addE v' n' v n - v' by omega] at this
    unfold addR; rw [this, hS])
  have hE : min (v' + n') (v + n) = addE v' n' v n := rfl
  rw [← HE]
  clear HE f13
  have HA := l02Pow_any p (v - v')
  have HB := l02Pow_any p (addE v' n' v n - v)
  clear hS
  generalize addE v' n' v n = E at *
  have HM := fun s w h => l03Make_any p v' s E w hp2 hp97 f1 (by omega) (by omega) f8 h
  generalize pw p (v - v') = a at *
  generalize pw p (E - v) = b at *
  obtain ⟨ht, hz2, hw6, hz⟩ := rem_facts hu0' hB.1 hB.2
  have r0 := Int.emod_nonneg u (show b ≠ 0 by omega)
  have r1 := Int.emod_lt_of_pos u (show 0 < b by omega)
  generalize u % b = c at *
  have q0 := Int.mul_nonneg r0 (show 0 ≤ a by omega)
  have q1 : c * a ≤ 1000000000000000000 := by
    have := Int.mul_le_mul (show c ≤ 1000000000 by omega) j2 (by omega) (by omega)
    omega
  replace HM := Lib.hid fun w => HM (u' + c * a) w (by omega)
  replace HA := Lib.hid fun w => HA w hp2 hp97 (by omega) j2
  replace HB := Lib.hid fun w => HB w hp2 hp97 (by omega) hB.2
  have hw1 := IntWalk.i64_in (c * a) (by omega)
  have hw2 := IntWalk.i64_in (u' + c * a) (by omega)
  obtain ⟨d1, hd1⟩ : ∃ d, v - v' = d := ⟨_, rfl⟩
  obtain ⟨d2, hd2⟩ : ∃ d, E - v = d := ⟨_, rfl⟩
  have hw3 : IntKind.i64.wrap (v - v') = d1 := by rw [IntWalk.i64_in _ (by omega)]; exact hd1
  have hw7 : IntKind.i64.wrap (E - v) = d2 := by rw [IntWalk.i64_in _ (by omega)]; exact hd2
  rw [hd1] at HA
  rw [hd2] at HB
  clear hd1 hd2
  have hw4 : IntKind.i64.wrap (v + n) = v + n := IntWalk.i64_in _ (by omega)
  have hw5 : IntKind.i64.wrap (v' + n') = v' + n' := IntWalk.i64_in _ (by omega)
  clear h h' f7 f8 f9 f10 f11 f12 hm1 hm1'
  go_enter Try.func54, Try.ntmps54
  go_wp2_with fail
  have K := k3_new w (P4 p v' u' n') (P4 p v u n) (P4 0 0 0 0) 25 25 25
  generalize (((w.alloc (.cells (P4 p v' u' n') 25)).alloc (.cells (P4 p v u n) 25)).alloc (.cells (P4 0 0 0 0) 25)) = W at K ⊢
  obtain ⟨c0, c1, c2, c3⟩ := lies_four K.2.1
  obtain ⟨d0, d1, d2, d3⟩ := lies_four K.2.2.1
  go_quiet (first | (go_at_call 67; with_reducible exact (HA.out _).mono fun e w' h => ⟨h.1, _, h.2.symm⟩) | (go_at_call 67; with_reducible exact (HB.out _).mono fun e w' h => ⟨h.1, _, h.2.symm⟩))
  go_wp2_with (first | (go_at_call 88; refine (HM.out _).mono ?_; rintro e5 w5 ⟨rfl, hb⟩; (first | have K := k3_next K hb | have K := k3_next (k3_drewN K _) hb | have K := k3_first hb); obtain ⟨e0, e1, e2, e3⟩ := lies_four K.2.2.2; obtain ⟨ef0, ef1, ef2, ef3⟩ := lies_ice K.2.2.2))
  refine bodyPost_ret (v := .agg (P4 p (makeT p v' (u' + c * a) E).1 (makeT p v' (u' + c * a) E).2.1 (makeT p v' (u' + c * a) E).2.2)) (by simp [results, Try.results54, go_sem, e0, e1, e2, e3]) rfl ?_
  exact ⟨rfl, below_set4 K.1 (by omega)⟩
theorem l03Add_swap_high (p v u n v' u' n' : Int) (w : World) (h : POk p v' u' n') (h' : POk p v u n) (hv : v' < v) (hl : ¬ v < addE v' n' v n) :
    Calls Try.prog 54 #[.agg (P4 p v u n), .agg (P4 p v' u' n')] w fun e w' => e = .returned (.agg (P4 p (add0 p v' u' n' v u n).1 (add0 p v' u' n' v u n).2.1 (add0 p v' u' n' v u n).2.2)) ∧ Below w.heap.size w w' := by
  obtain ⟨f1, f2, f3, f4, f5, f6, f7, f8, f9, f10, f11, f12, f13⟩ := add_facts h h' (by omega)
  obtain ⟨hp2, hp97, hn0, hn1, _, hm1, hu0, _, hu2⟩ := pok_bd h
  obtain ⟨_, _, hn0', hn1', _, hm1', hu0', _, hu2'⟩ := pok_bd h'
  have hv0 := h.2.1
  have hv1 := h.2.2.1
  have hv0' := h'.2.1
  have hv1' := h'.2.2.1
  have HE := make_eq (p := p) (v := v') (u := u') (n := n') (v' := v) (u' := u) (n' := n) (s := u') (by unfold addR addS; rw [if_neg hl])
  have hE : min (v' + n') (v + n) = addE v' n' v n := rfl
  rw [← HE]
  clear HE f13
  generalize addE v' n' v n = E at *
  have HM := Lib.hid fun w => l03Make_any p v' u' E w hp2 hp97 f1 (by omega) (by omega) f8 hu0
  have hw4 : IntKind.i64.wrap (v + n) = v + n := IntWalk.i64_in _ (by omega)
  have hw5 : IntKind.i64.wrap (v' + n') = v' + n' := IntWalk.i64_in _ (by omega)
  clear h h' f7 f8 f9 f10 f11 f12 hm1 hm1'
  go_enter Try.func54, Try.ntmps54
  go_wp2_with (first | (go_at_call 88; refine (HM.out _).mono ?_; rintro e5 w5 ⟨rfl, hb⟩; (first | have K := k3_next K hb | have K := k3_next (k3_drewN K _) hb | have K := k3_first hb); obtain ⟨e0, e1, e2, e3⟩ := lies_four K.2.2.2; obtain ⟨ef0, ef1, ef2, ef3⟩ := lies_ice K.2.2.2))
  refine bodyPost_ret (v := .agg (P4 p (makeT p v' (u') E).1 (makeT p v' (u') E).2.1 (makeT p v' (u') E).2.2)) (by simp [results, Try.results54, go_sem, e0, e1, e2, e3]) rfl ?_
  exact ⟨rfl, below_set4 K.1 (by omega)⟩
theorem l03Add_any (p v u n v' u' n' : Int) (w : World) (h : POk p v u n) (h' : POk p v' u' n') :
    Calls Try.prog 54 #[.agg (P4 p v u n), .agg (P4 p v' u' n')] w fun e w' => e = .returned (.agg (P4 p (addT p v u n v' u' n').1 (addT p v u n v' u' n').2.1 (addT p v u n v' u' n').2.2)) ∧ Below w.heap.size w w' := by
  by_cases hv : v' < v
  · rw [addT_swap hv]
    by_cases hl : v < addE v' n' v n
    · exact l03Add_swap_low p v u n v' u' n' w h' h hv hl
    · exact l03Add_swap_high p v u n v' u' n' w h' h hv hl
  · rw [addT_stay hv]
    by_cases hl : v' < addE v n v' n'
    · exact l03Add_stay_low p v u n v' u' n' w h h' (by omega) hl
    · exact l03Add_stay_high p v u n v' u' n' w h h' (by omega) hl
end Go.Proofs.Ytdbiaiimdokleaa
