/- Contracts of the walk: the p-adic number of a rational number in spec, for rational numbers other than 0 and valid rings; PadicOf of spec for every argument. -/
import Derived.Test.YtgckamlibbjgcaaRatPad
import Derived.Test.YtgckamlibbjgcaaPadSpec3
namespace Go.Proofs.Ytgckamlibbjgcaa
open Go.RowKit
set_option linter.unusedVariables false
set_option linter.unusedSimpArgs false
set_option maxRecDepth 20000
set_option maxHeartbeats 1000000 in
theorem l05Padic_core (n d p k M un ud g U : Int) (w : World) (hp2 : 2 ≤ p) (hp97 : p ≤ 97) (hM1 : 2 ≤ M) (hM2 : M ≤ 1000000000) (u0 : 0 ≤ un) (u1 : un < M) (g0 : 0 ≤ g) (g1 : g < M)
    (HS : Hid (VRel n p n 0)) (HT : Hid (VRel d p d 0)) (HU : Hid (un * g % M = U)) (hv0 : 0 ≤ valCount n p) (hv1 : valCount n p ≤ 39)
    (HM : Hid (∀ w, Calls Try.prog 64 #[.int .i64 p, .int .i64 k] w fun e w' => e = .returned (.int .i64 M) ∧ w = w'))
    (HA : Hid (∀ w, Calls Try.prog 114 #[.int .i64 (valRest n p), .int .i64 M] w fun e w' => e = .returned (.int .i64 un) ∧ w = w'))
    (HB : Hid (∀ w, Calls Try.prog 114 #[.int .i64 (valRest d p), .int .i64 M] w fun e w' => e = .returned (.int .i64 ud) ∧ w = w'))
    (HI : Hid (∀ w, Calls Try.prog 63 #[.int .i64 ud, .int .i64 M] w fun e w' => e = .returned (.int .i64 g) ∧ w = w')) :
    Calls Try.prog 105 #[.agg (P2 n d), .agg (P2 p k)] w fun e w' => e = .returned (.agg (P4 p (valCount n p - valCount d p) U k)) ∧ Below w.heap.size w w' := by
  have hpr := prod_lt (m := M) hM2 u0 u1 g0 g1
  obtain ⟨x1, x2, x3, x4⟩ := rem_facts (a := un * g) hpr.1 (show 1 ≤ M by omega) hM2
  have x5 : IntKind.i64.wrap (un * g) = un * g := IntWalk.i64_in _ (by omega)
  have HX := Lib.hid (And.intro x1 (And.intro x2 (And.intro x3 (And.intro x4 x5))))
  have b4 : (p == 0) = false := by simp; omega
  clear hpr x1 x2 x3 x4 x5 u0 u1 g0 g1
  go_enter Try.func105, Try.ntmps105
  go_wp2
  go_quiet (fail)
  have K := k3_drewN (k3_new w (P2 n d) (P2 p k) (P4 0 0 0 0) 49 25 34) nq
  generalize World.drewN _ nq = W1 at K ⊢
  obtain ⟨d0, d1⟩ := lies_pair K.2.2.1
  go_wp2
  go_loop [5, 7] (fun a c => ∃ m j : Int, a = .int .i64 m ∧ c = .int .i64 j ∧ VRel n p m j) (fun a _ => (intOf a).natAbs)
  case atStart => exact ⟨n, 0, rfl, rfl, HS.out⟩
  case round =>
    obtain ⟨m, j, rfl, rfl, hr⟩ := hrel
    have HR := Lib.hid hr
    have b0 := hr.2.1
    have b2 := hr.2.2.2.1
    have b3 : j ≤ 4000000000000000000 := by
      obtain ⟨_, _, h, _, _, _⟩ := hr
      have : (n).natAbs ≤ 1000000000000 := HS.out.2.2.2.1
      omega
    clear hr
    by_cases hm : m.tmod p = 0
    · have H := Lib.hid (vRel_step hp2 HR.out hm)
      have hm' : (m.tmod p == 0) = true := by simp [hm]
      clear hm
      go_wp2
      exact ⟨⟨_, _, rfl, rfl, H.out.1⟩, by simpa only [intOf] using H.out.2⟩
    · obtain ⟨e1, e2⟩ := vRel_end HR.out hm
      have hm' : (m.tmod p == 0) = false := by simp [hm]
      subst e1 e2
      clear hm HR b0 b2 b3
      go_wp2
      clear hm'
      go_loop [6, 7] (fun a c => ∃ m j : Int, a = .int .i64 m ∧ c = .int .i64 (valCount n p - j) ∧ VRel d p m j) (fun a _ => (intOf a).natAbs)
      case atStart => exact ⟨d, 0, rfl, by simp, HT.out⟩
      case round =>
        obtain ⟨m, j, rfl, rfl, hr⟩ := hrel
        have HR := Lib.hid hr
        have b0 := hr.2.1
        have b2 := hr.2.2.2.1
        have b3 : j ≤ 4000000000000000000 := by
          obtain ⟨_, _, h, _, _, _⟩ := hr
          have : (d).natAbs ≤ 1000000000000 := HT.out.2.2.2.1
          omega
        clear hr
        by_cases hm : m.tmod p = 0
        · have H := Lib.hid (vRel_step hp2 HR.out hm)
          have hm' : (m.tmod p == 0) = true := by simp [hm]
          clear hm
          go_wp2
          exact ⟨⟨_, _, rfl, by congr 1; omega, H.out.1⟩, by simpa only [intOf] using H.out.2⟩
        · obtain ⟨e1, e2⟩ := vRel_end HR.out hm
          have hm' : (m.tmod p == 0) = false := by simp [hm]
          subst e1 e2
          clear hm HR b0 b2 b3
          go_wp2_with (go_at_call 64; refine (HM.out _).mono ?_; rintro e w' ⟨rfl, rfl⟩)
          clear hm' b4
          obtain ⟨x1, x2, x3, x4, x5⟩ := HX.out
          refine wp_region_still_tail 17 (by kernel_rfl) (by kernel_rfl) ?_
          simp only [List.take_succ_cons, List.take_zero, List.drop_succ_cons, List.drop_zero]
          repeat still_step
          still_call ((HA.out _).mono fun e w' h => ⟨h.1, h.2.symm⟩)
          repeat still_step
          still_call ((HB.out _).mono fun e w' h => ⟨h.1, h.2.symm⟩)
          repeat still_step
          still_call ((HI.out _).mono fun e w' h => ⟨h.1, h.2.symm⟩)
          repeat still_step
          refine wpStill_nil ?_
          have KW := k3_drew K
          change wpList _ _ _ _ _ W1.drew
          clear d0 d1 K x1 x2 x3 x4 x5 HX
          generalize W1.drew = W2 at KW ⊢
          obtain ⟨e0, e1, e2, e3⟩ := lies_four KW.2.2.2
          obtain ⟨ef0, ef1, ef2, ef3⟩ := lies_ice KW.2.2.2
          rw [HU.out]
          go_wp2
          refine bodyPost_ret (v := .agg (P4 p (valCount n p - valCount d p) U k)) (by simp [results, Try.results105, go_sem, e0, e1, e2, e3]) rfl ?_
          exact ⟨rfl, below_set4 KW.1 (by omega)⟩
theorem l05Padic_any (n d p k : Int) (w : World) (hr : isRatB n d = true) (hn : n ≠ 0) (hm : ringM p k ≠ 0) :
    Calls Try.prog 105 #[.agg (P2 n d), .agg (P2 p k)] w fun e w' => e = .returned (.agg (A4 (pofT n d p k))) ∧ Below w.heap.size w w' := by
  obtain ⟨n0, n1, d0, d1, g⟩ := isRat_of hr
  have hs := (ringM_in hm).1
  obtain ⟨hp, hq⟩ := smallB_bd hs
  obtain ⟨_, _, k1, k2, m1, m2, _⟩ := ringM_bd hm
  have hd : d ≠ 0 := by omega
  obtain ⟨_, b2, b3, b4⟩ := val_parts (n := d) hp hd (by omega) d1
  obtain ⟨_, a2, a3, a4⟩ := val_parts hp hn n0 n1
  have du : valRest d p % ringM p k % p ≠ 0 := by rw [emod_ringM hm]; exact b2
  have r0 := Int.emod_nonneg (valRest d p) hm
  have r1 := Int.emod_lt_of_pos (valRest d p) (show 0 < ringM p k by omega)
  have s0 := Int.emod_nonneg (valRest n p) hm
  have s1 := Int.emod_lt_of_pos (valRest n p) (show 0 < ringM p k by omega)
  obtain ⟨g0, g1, g2, g3, g4⟩ := inv_unit hm r0 r1 du
  have HI : ∀ w, Calls Try.prog 63 #[.int .i64 (valRest d p % ringM p k), .int .i64 (ringM p k)] w fun e w' => e = .returned (.int .i64 (invV p k (valRest d p % ringM p k))) ∧ w = w' := by
    intro w
    rw [show invV p k (valRest d p % ringM p k) = bezX (valRest d p % ringM p k) (ringM p k) % ringM p k by simp [invV, g0]]
    exact l02Inverse_any _ _ w r0 r1 m1 m2
  exact l05Padic_core n d p k (ringM p k) _ _ _ (pofU n d p k) w hp hq m1 m2 s0 s1 (by omega) g2 (Lib.hid (vRel_start hn (by omega))) (Lib.hid (vRel_start hd (by omega))) (Lib.hid rfl) a3 a4
    (Lib.hid fun w => l02Modulus_any p k w hs k1 (by omega)) (Lib.hid fun w => l01Mod_any _ _ w m1 m2) (Lib.hid fun w => l01Mod_any _ _ w m1 m2) (Lib.hid HI)
theorem specPof_any (n d p k : Int) (w : World) :
    Calls Try.prog 47 #[.agg (P2 n d), .agg (P2 p k)] w fun e w' => e = .returned (.tuple #[.agg (A4 (pofQ n d p k)), .int .i64 (pofC n d p k)]) ∧ Below w.heap.size w w' := by
  cases hx : isRatB n d
  · have hc : pofC n d p k = 1 := by simp [pofC, hx]
    rw [show pofQ n d p k = (0, 0, 0, 0) by unfold pofQ; rw [if_neg (by omega)], hc]
    clear hc
    go_enter Try.func47, Try.ntmps47
    go_wp2_with (first | (go_at_call 104; refine (specIsRational_any _ _ _).mono ?_; rintro e wn ⟨rfl, hb⟩; (first | have K := k3_first hb | have K := k3_next K hb); obtain ⟨c0, c1⟩ := lies_pair K.2.1; obtain ⟨d0, d1⟩ := lies_pair K.2.2.1; obtain ⟨e0, e1, e2, e3⟩ := lies_four K.2.2.2; obtain ⟨ef0, ef1, ef2, ef3⟩ := lies_ice K.2.2.2) | (go_at_call 22; refine (specIsRing_any _ _ _).mono ?_; rintro e wn ⟨rfl, hb⟩; (first | have K := k3_first hb | have K := k3_next K hb); obtain ⟨c0, c1⟩ := lies_pair K.2.1; obtain ⟨d0, d1⟩ := lies_pair K.2.2.1; obtain ⟨e0, e1, e2, e3⟩ := lies_four K.2.2.2; obtain ⟨ef0, ef1, ef2, ef3⟩ := lies_ice K.2.2.2))
    refine bodyPost_ret (v := .tuple #[.agg (P4 0 0 0 0), .int .i64 1]) (by simp [results, Try.results47, go_sem, e0, e1, e2, e3]) rfl ?_
    exact ⟨rfl, below_set4 K.1 (by omega)⟩

  · cases hr : ringB p k
    · have hc : pofC n d p k = 1 := by simp [pofC, hr]
      rw [show pofQ n d p k = (0, 0, 0, 0) by unfold pofQ; rw [if_neg (by omega)], hc]
      clear hc
      go_enter Try.func47, Try.ntmps47
      go_wp2_with (first | (go_at_call 104; refine (specIsRational_any _ _ _).mono ?_; rintro e wn ⟨rfl, hb⟩; (first | have K := k3_first hb | have K := k3_next K hb); obtain ⟨c0, c1⟩ := lies_pair K.2.1; obtain ⟨d0, d1⟩ := lies_pair K.2.2.1; obtain ⟨e0, e1, e2, e3⟩ := lies_four K.2.2.2; obtain ⟨ef0, ef1, ef2, ef3⟩ := lies_ice K.2.2.2) | (go_at_call 22; refine (specIsRing_any _ _ _).mono ?_; rintro e wn ⟨rfl, hb⟩; (first | have K := k3_first hb | have K := k3_next K hb); obtain ⟨c0, c1⟩ := lies_pair K.2.1; obtain ⟨d0, d1⟩ := lies_pair K.2.2.1; obtain ⟨e0, e1, e2, e3⟩ := lies_four K.2.2.2; obtain ⟨ef0, ef1, ef2, ef3⟩ := lies_ice K.2.2.2))
      refine bodyPost_ret (v := .tuple #[.agg (P4 0 0 0 0), .int .i64 1]) (by simp [results, Try.results47, go_sem, e0, e1, e2, e3]) rfl ?_
      exact ⟨rfl, below_set4 K.1 (by omega)⟩

    · by_cases h0 : n = 0
      · have hc : pofC n d p k = 5 := by unfold pofC; rw [if_pos (by rw [hx, hr]; rfl), if_pos h0]
        have hz : (n == 0) = true := by simp [h0]
        rw [show pofQ n d p k = (0, 0, 0, 0) by unfold pofQ; rw [if_neg (by omega)], hc]
        clear hc h0
        go_enter Try.func47, Try.ntmps47
        go_wp2_with (first | (go_at_call 104; refine (specIsRational_any _ _ _).mono ?_; rintro e wn ⟨rfl, hb⟩; (first | have K := k3_first hb | have K := k3_next K hb); obtain ⟨c0, c1⟩ := lies_pair K.2.1; obtain ⟨d0, d1⟩ := lies_pair K.2.2.1; obtain ⟨e0, e1, e2, e3⟩ := lies_four K.2.2.2; obtain ⟨ef0, ef1, ef2, ef3⟩ := lies_ice K.2.2.2) | (go_at_call 22; refine (specIsRing_any _ _ _).mono ?_; rintro e wn ⟨rfl, hb⟩; (first | have K := k3_first hb | have K := k3_next K hb); obtain ⟨c0, c1⟩ := lies_pair K.2.1; obtain ⟨d0, d1⟩ := lies_pair K.2.2.1; obtain ⟨e0, e1, e2, e3⟩ := lies_four K.2.2.2; obtain ⟨ef0, ef1, ef2, ef3⟩ := lies_ice K.2.2.2))
        refine bodyPost_ret (v := .tuple #[.agg (P4 0 0 0 0), .int .i64 5]) (by simp [results, Try.results47, go_sem, e0, e1, e2, e3]) rfl ?_
        exact ⟨rfl, below_set4 K.1 (by omega)⟩

      · have hc : pofC n d p k = 0 := by unfold pofC; rw [if_pos (by rw [hx, hr]; rfl), if_neg h0]
        have hz : (n == 0) = false := by simpa using h0
        obtain ⟨_, hm, _, hq⟩ := pof_zero hc
        rw [hq, hc]
        have HN := Lib.hid h0
        have HM := Lib.hid hm
        have HX := Lib.hid hx
        clear hc hm hq h0
        go_enter Try.func47, Try.ntmps47
        go_wp2_with (first | (go_at_call 104; refine (specIsRational_any _ _ _).mono ?_; rintro e wn ⟨rfl, hb⟩; (first | have K := k3_first hb | have K := k3_next K hb); obtain ⟨c0, c1⟩ := lies_pair K.2.1; obtain ⟨d0, d1⟩ := lies_pair K.2.2.1; obtain ⟨e0, e1, e2, e3⟩ := lies_four K.2.2.2; obtain ⟨ef0, ef1, ef2, ef3⟩ := lies_ice K.2.2.2) | (go_at_call 22; refine (specIsRing_any _ _ _).mono ?_; rintro e wn ⟨rfl, hb⟩; (first | have K := k3_first hb | have K := k3_next K hb); obtain ⟨c0, c1⟩ := lies_pair K.2.1; obtain ⟨d0, d1⟩ := lies_pair K.2.2.1; obtain ⟨e0, e1, e2, e3⟩ := lies_four K.2.2.2; obtain ⟨ef0, ef1, ef2, ef3⟩ := lies_ice K.2.2.2) | (go_at_call 105; refine (l05Padic_any _ _ _ _ _ HX.out HN.out HM.out).mono ?_; rintro e wn ⟨rfl, hb⟩; (first | have K := k3_first hb | have K := k3_next K hb); obtain ⟨c0, c1⟩ := lies_pair K.2.1; obtain ⟨d0, d1⟩ := lies_pair K.2.2.1; obtain ⟨e0, e1, e2, e3⟩ := lies_four K.2.2.2; obtain ⟨ef0, ef1, ef2, ef3⟩ := lies_ice K.2.2.2))
        refine bodyPost_ret (v := .tuple #[.agg (A4 (pofT n d p k)), .int .i64 0]) (by simp [results, Try.results47, go_sem, e0, e1, e2, e3]) rfl ?_
        exact ⟨rfl, below_set4 K.1 (by omega)⟩

end Go.Proofs.Ytgckamlibbjgcaa
