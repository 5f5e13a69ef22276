/- Contracts of the walk: chapter 5's search in spec: FindRational, for every argument. -/
import Derived.Test.YtgckamlibbjgcaaRatFindW
import Derived.Test.YtgckamlibbjgcaaRatPad2
namespace Go.Proofs.Ytgckamlibbjgcaa
open Go.RowKit
set_option linter.unusedVariables false
set_option linter.unusedSimpArgs false
set_option maxRecDepth 20000
def NoFit (M u d : Int) : Prop := ∀ j, 1 ≤ j → j < d → fitB M u (bndB M) j = false
theorem noFit_next {M u d : Int} (h : NoFit M u d) (hd : fitB M u (bndB M) d = false) : NoFit M u (d + 1) := by
  intro j h1 h2
  rcases (show j < d ∨ j = d by omega) with h3 | rfl
  · exact h j h1 h3
  · exact hd
/-- what FindRational answers, for a number other than a zero -/
theorem find_none {p v u k M : Int} (hx : padB p v u k = true) (hk : k ≠ 0) (hM : ringM p k = M) (hm : 1 ≤ M) (h : NoFit M u (bndB M + 1)) : findQ p v u k = (0, 0) ∧ findC p v u k = 4 := by
  have hf := fit_none (u := u) hm fun d h1 h2 => h d h1 (by omega)
  have ho : fitO M u = false := by unfold fitO; rw [hf]; rfl
  constructor
  · simp [findQ, hx, hk, hM, ho]
  · simp [findC, hx, hk, hM, ho]
theorem find_at {p v u k M d : Int} (hx : padB p v u k = true) (hk : k ≠ 0) (hM : ringM p k = M) (hm : 1 ≤ M) (h0 : 1 ≤ d) (h1 : d ≤ bndB M) (hf : fitB M u (bndB M) d = true) :
    findQ p v u k = rresQ (mF v.toNat (symR u M d) p) (mF (-v).toNat d p) ∧ findC p v u k = rlimC (mF v.toNat (symR u M d) p) (mF (-v).toNat d p) ∧
    (d % p == 0) = false ∧ ((Int.gcd (symR u M d) d : Int) != 1) = false ∧ inB (symR u M d) (-bndB M) (bndB M) = true ∧
    (valueB (mF v.toNat (symR u M d) p) = true → valueB (mF (-v).toNat d p) = true → isRatB (mF v.toNat (symR u M d) p) (mF (-v).toNat d p) = true) := by
  obtain ⟨e1, e2, e3⟩ := fit_at hm h0 h1 hf
  have ok := padB_ok hx
  obtain ⟨_, hr, _, u1, u2, hu⟩ := pok_ring ok hk
  have ht := fit_iff h0 h1 hf
  obtain ⟨n1, n2, n3⟩ := fit_unit ok.1 (hM ▸ dvd_ringM hr) hu ht
  have hin : inB (symR u M d) (-bndB M) (bndB M) = true := by
    unfold fitB at hf; rw [Bool.and_eq_true] at hf; exact hf.1
  refine ⟨?_, ?_, by simpa using n2, ?_, hin, fun v1 v2 => mF_rat ok.1 ht.2.2.2.2.1 n1 n2 h0 v v1 v2⟩
  · simp [findQ, hx, hk, hM, e1, e2, e3]
  · simp [findC, hx, hk, hM, e1, e2, e3]
  · have hg := ht.2.2.2.2.1
    rw [hg]; rfl
/-- a state of the multiplying loops -/
def MR (p c n0 x i : Int) : Prop := -60 ≤ i ∧ i ≤ 60 ∧ valueB x = true ∧ mF i.toNat x p = mF c.toNat n0 p
theorem mF_up {x p : Int} {i c : Int} {n0 : Int} (hi : 0 < i) (h : mF i.toNat x p = mF c.toNat n0 p) (hv : valueB x = true) : mF (i - 1).toNat (x * p) p = mF c.toNat n0 p := by
  rw [← h, show i.toNat = (i - 1).toNat + 1 by omega, mF_step hv]
theorem mF_over {x p : Int} {i c : Int} {n0 : Int} (hi : 0 < i) (h : mF i.toNat x p = mF c.toNat n0 p) (hv : valueB x = true) (hy : valueB (x * p) = false) : valueB (mF c.toNat n0 p) = false := by
  rw [← mF_up hi h hv, mF_no hy]; exact hy
theorem rres_no {n d : Int} (h : valueB n = false ∨ valueB d = false) : rresQ n d = (0, 0) ∧ rlimC n d = 3 := by
  have hr : isRatB n d = false := by
    cases hb : isRatB n d
    · rfl
    · obtain ⟨h1, h2, h3, h4, _⟩ := isRat_of hb
      rcases h with h | h
      · rw [valueB_t h1 h2] at h; cases h
      · rw [valueB_t (by omega) h4] at h; cases h
  simp [rresQ, rlimC, hr]
set_option maxHeartbeats 2000000 in
theorem specFind_any (p v u k : Int) (w : World) :
    Calls Try.prog 45 #[.agg (P4 p v u k)] w fun e w' => e = .returned (.tuple #[.agg (A2 (findQ p v u k)), .int .i64 (findC p v u k)]) ∧ Below w.heap.size w w' := by
  cases hx : padB p v u k
  · rw [show findQ p v u k = (0, 0) by simp [findQ, hx], show findC p v u k = 1 by simp [findC, hx]]
    go_enter Try.func45, Try.ntmps45
    go_wp2_with (first | (go_at_call 83; refine (specIsPadic_any _ _ _ _ _).mono ?_; rintro e wn ⟨rfl, hb⟩; (first | have K := k2_first hb | have K := k2_next K hb); obtain ⟨c0, c1, c2, c3⟩ := lies_four K.2.1; obtain ⟨d0, d1⟩ := lies_pair K.2.2; have df0 := lies_frozen K.2.2 0; have df1 := lies_frozen K.2.2 1))
    refine bodyPost_ret (v := .tuple #[.agg (P2 0 0), .int .i64 1]) (by simp [results, Try.results45, go_sem, d0, d1]) rfl ?_
    exact ⟨rfl, below_set2 K.1 (by omega)⟩
  · have ok := padB_ok hx
    by_cases hk : k = 0
    · have hz : (k == 0) = true := by simp [hk]
      rw [show findQ p v u k = (0, 0) by simp [findQ, hk], show findC p v u k = 4 by unfold findC; rw [if_pos hx, if_pos hk]]
      clear hk ok
      go_enter Try.func45, Try.ntmps45
      go_wp2_with (first | (go_at_call 83; refine (specIsPadic_any _ _ _ _ _).mono ?_; rintro e wn ⟨rfl, hb⟩; (first | have K := k2_first hb | have K := k2_next K hb); obtain ⟨c0, c1, c2, c3⟩ := lies_four K.2.1; obtain ⟨d0, d1⟩ := lies_pair K.2.2; have df0 := lies_frozen K.2.2 0; have df1 := lies_frozen K.2.2 1))
      refine bodyPost_ret (v := .tuple #[.agg (P2 0 0), .int .i64 4]) (by simp [results, Try.results45, go_sem, d0, d1]) rfl ?_
      exact ⟨rfl, below_set2 K.1 (by omega)⟩
    · have hz : (k == 0) = false := by simp [hk]
      obtain ⟨_, hm, k1, u1, u2, hu⟩ := pok_ring ok hk
      obtain ⟨hp2, hp97, _, k2, m1, m2, _⟩ := ringM_bd hm
      have hv0 := ok.2.1
      have hv1 := ok.2.2.1
      have HS := Lib.hid (And.intro ok.1 (And.intro k1 (show k ≤ 1000 by omega)))
      obtain ⟨M, hM⟩ : ∃ M, ringM p k = M := ⟨_, rfl⟩
      have HM := Lib.hid hM
      rw [hM] at m1 m2 u2
      have HNO := Lib.hid fun h => find_none hx hk hM (by omega) (u := u) (v := v) h
      have HAT : Hid (∀ d, 1 ≤ d → d ≤ bndB M → fitB M u (bndB M) d = true → _) := Lib.hid fun d h0 h1 hf => find_at (v := v) hx hk hM (by omega) h0 h1 hf
      obtain ⟨B2, B3, B4⟩ := bnd_le (bnd_is (m := M) (by omega)) m2
      have B0 := (bnd_is (m := M) (by omega)).1
      clear hm hM hk hu ok B3 B4
      go_enter Try.func45, Try.ntmps45
      go_wp2_with (first | (go_at_call 83; refine (specIsPadic_any _ _ _ _ _).mono ?_; rintro e wn ⟨rfl, hb⟩; (first | have K := k2_first hb | have K := k2_next K hb); obtain ⟨c0, c1, c2, c3⟩ := lies_four K.2.1; obtain ⟨d0, d1⟩ := lies_pair K.2.2; have df0 := lies_frozen K.2.2 0; have df1 := lies_frozen K.2.2 1) | (go_at_call 64; refine (l02Modulus_any _ _ _ HS.out.1 HS.out.2.1 HS.out.2.2).mono ?_; rw [HM.out]; rintro e w' ⟨rfl, rfl⟩) | (go_at_call 101; refine (specBound_any _ _ (by omega) (by omega)).mono ?_; rintro e w' ⟨rfl, rfl⟩))
      clear hb c3 d0 d1 df0 df1 hz
      go_loopw [6] (fun s wr => ∃ d : Int, s = .int .i64 d ∧ 1 ≤ d ∧ d ≤ bndB M + 1 ∧ NoFit M u d ∧ K2 w (P4 p v u k) (P2 0 0) wr) (fun s _ => (100000 - intOf s).toNat)
      case atStart => exact ⟨1, rfl, by omega, by omega, fun j h1 h2 => by omega, K⟩
      case round =>
        obtain ⟨d, rfl, d0, d1, hno, K⟩ := hrel
        have HN := Lib.hid hno
        clear hno
        clear c0 c1 c2
        obtain ⟨c0, c1, c2, c3⟩ := lies_four K.2.1
        clear c3
        obtain ⟨e0, e1⟩ := lies_pair K.2.2
        have ef0 := lies_frozen K.2.2 0
        have ef1 := lies_frozen K.2.2 1
        by_cases hlt : d ≤ bndB M
        · have x0 : 0 ≤ u * d := Int.mul_nonneg (by omega) (by omega)
          have x1 : u * d ≤ 1000000000 * 22360 := Int.mul_le_mul (by omega) (by omega) (by omega) (by omega)
          have r0 := Int.emod_nonneg (u * d) (show M ≠ 0 by omega)
          have r1 := Int.emod_lt_of_pos (u * d) (show 0 < M by omega)
          have HSY := Lib.hid (show symR u M d = if M < 2 * (u * d % M) then u * d % M - M else u * d % M from rfl)
          have vd : valueB d = true := valueB_t (by omega) (by omega)
          go_upto_region 11 with fail
          clear x0 x1
          generalize u * d % M = r at r0 r1 HSY ⊢
          generalize u * d = ud at ⊢
          by_cases hs : M < 2 * r
          · have HY := Lib.hid (show symR u M d = r - M by rw [HSY.out, if_pos hs])
            clear HSY
            cases hin : inB (r - M) (-bndB M) (bndB M)
            · have HF := Lib.hid (noFit_next HN.out (show fitB M u (bndB M) d = false by unfold fitB; rw [HY.out, hin]; rfl))
              go_wp2_with (go_at_call 70; refine (in_any _ _ _ _).mono ?_; rintro e w' ⟨rfl, rfl⟩)
              exact ⟨⟨d + 1, rfl, by omega, by omega, HF.out, K⟩, by simp only [intOf]; omega⟩
            · have hin2 : -bndB M ≤ (r - M) ∧ (r - M) ≤ bndB M := by simpa [inB] using hin
              by_cases hg : Int.gcd (r - M) d = 1
              · obtain ⟨q1, q2, q3, q4, q5, q6⟩ := HAT.out d d0 hlt (show fitB M u (bndB M) d = true by unfold fitB; rw [HY.out, hin, hg]; rfl)
                rw [HY.out] at q1 q2 q4 q5 q6
                have HQ := Lib.hid (And.intro q1 (And.intro q2 q6))
                have vy : valueB (r - M) = true := valueB_t (by omega) (by omega)
                have HV := Lib.hid (And.intro vy vd)
                clear q1 q2 q5 q6 hg vy vd
                go_wp2_with (first | (go_at_call 70; refine (in_any _ _ _ _).mono ?_; rintro e w' ⟨rfl, rfl⟩) | (go_at_call 94; refine (l01GcdW_any _ _ _ (by omega) (by omega) (by omega) (by omega)).mono ?_; rintro e w' ⟨rfl, nd, rfl⟩; replace K : K2 w _ _ _ := ⟨below_drewN K.1 nd, K.2⟩))
                clear q3 q4 hin hin2
                go_loop [7, 8] (fun s7 s8 => ∃ x i : Int, s7 = .int .i64 x ∧ s8 = .int .i64 i ∧ MR p v (r - M) x i) (fun _ s8 => (intOf s8).toNat)
                case atStart => exact ⟨_, _, rfl, rfl, by omega, hv1, HV.out.1, rfl⟩
                case round =>
                  obtain ⟨x, i, rfl, rfl, hr⟩ := hrel
                  have HR := Lib.hid hr
                  obtain ⟨i0, i1, hvx, _⟩ := hr
                  obtain ⟨y0, y1⟩ := val97 hp2 hp97 hvx
                  clear hvx
                  by_cases hi : 0 < i
                  · cases hy : valueB (x * p)
                    · have HO := Lib.hid (rres_no (n := mF v.toNat (r - M) p) (d := mF (-v).toNat d p) (.inl (mF_over hi HR.out.2.2.2 HR.out.2.2.1 hy)))
                      go_wp2_with (go_at_call 102; refine (l01Is_any _ _).mono ?_; rintro e w' ⟨rfl, rfl⟩)
                      refine bodyPost_ret (v := .tuple #[.agg (P2 0 0), .int .i64 3]) (by simp [results, Try.results45, go_sem, e0, e1]) rfl ?_
                      exact ⟨by rw [HQ.out.1, HQ.out.2.1, HO.out.1, HO.out.2], below_set2 K.1 (by omega)⟩
                    · have HU := Lib.hid (mF_up hi HR.out.2.2.2 HR.out.2.2.1)
                      have HYY := Lib.hid hy
                      go_wp2_with (go_at_call 102; refine (l01Is_any _ _).mono ?_; rintro e w' ⟨rfl, rfl⟩)
                      exact ⟨⟨_, _, rfl, rfl, by omega, by omega, HYY.out, HU.out⟩, by simp only [intOf]; omega⟩
                  · have HX := Lib.hid (show x = mF v.toNat (r - M) p by rw [← HR.out.2.2.2, show i.toNat = 0 by omega]; rfl)
                    have HXV := Lib.hid HR.out.2.2.1
                    clear y0 y1 HR
                    go_wp2_with fail
                    clear hi i0 i1
                    go_loop [6, 9] (fun s6 s9 => ∃ z j : Int, s6 = .int .i64 z ∧ s9 = .int .i64 (-j) ∧ MR p (-v) d z j) (fun _ s9 => (-(intOf s9)).toNat)
                    case atStart => exact ⟨_, -v, rfl, by simp, by omega, by omega, HV.out.2, rfl⟩
                    case round =>
                      obtain ⟨z, j, rfl, rfl, hr⟩ := hrel
                      have HR := Lib.hid hr
                      obtain ⟨j0, j1, hvx, _⟩ := hr
                      obtain ⟨y0, y1⟩ := val97 hp2 hp97 hvx
                      clear hvx
                      by_cases hi : 0 < j
                      · have hi' : -j < 0 := by omega
                        cases hy : valueB (z * p)
                        · have HO := Lib.hid (rres_no (n := mF v.toNat (r - M) p) (d := mF (-v).toNat d p) (.inr (mF_over hi HR.out.2.2.2 HR.out.2.2.1 hy)))
                          go_wp2_with (go_at_call 102; refine (l01Is_any _ _).mono ?_; rintro e w' ⟨rfl, rfl⟩)
                          refine bodyPost_ret (v := .tuple #[.agg (P2 0 0), .int .i64 3]) (by simp [results, Try.results45, go_sem, e0, e1]) rfl ?_
                          exact ⟨by rw [HQ.out.1, HQ.out.2.1, HO.out.1, HO.out.2], below_set2 K.1 (by omega)⟩
                        · have HU := Lib.hid (mF_up hi HR.out.2.2.2 HR.out.2.2.1)
                          have HYY := Lib.hid hy
                          go_wp2_with (go_at_call 102; refine (l01Is_any _ _).mono ?_; rintro e w' ⟨rfl, rfl⟩)
                          exact ⟨⟨_, j - 1, rfl, by congr 1; omega, by omega, by omega, HYY.out, HU.out⟩, by simp only [intOf]; omega⟩
                      · have hi' : ¬ -j < 0 := by omega
                        have HZ := Lib.hid (show z = mF (-v).toNat d p by rw [← HR.out.2.2.2, show j.toNat = 0 by omega]; rfl)
                        have HE := Lib.hid (show findQ p v u k = (x, z) ∧ findC p v u k = 0 by
                          have h1 : valueB (mF v.toNat (r - M) p) = true := by rw [← HX.out]; exact HXV.out
                          have h2 : valueB (mF (-v).toNat d p) = true := by rw [← HZ.out]; exact HR.out.2.2.1
                          have h3 := HQ.out.2.2 h1 h2
                          rw [HQ.out.1, HQ.out.2.1]
                          rw [← HX.out, ← HZ.out] at h3 ⊢
                          simp [rresQ, rlimC, h3])
                        clear y0 y1 HR
                        go_wp2_with fail
                        refine bodyPost_ret (v := .tuple #[.agg (P2 x z), .int .i64 0]) (by simp [results, Try.results45, go_sem, e0, e1]) rfl ?_
                        exact ⟨by rw [HE.out.1, HE.out.2], below_set2 K.1 (by omega)⟩
              · have hg' : ((Int.gcd (r - M) d : Int) != 1) = true := by simp; omega
                have HF := Lib.hid (noFit_next HN.out (show fitB M u (bndB M) d = false by unfold fitB; rw [HY.out, decide_eq_false hg]; simp))
                clear hg
                go_wp2_with (first | (go_at_call 70; refine (in_any _ _ _ _).mono ?_; rintro e w' ⟨rfl, rfl⟩) | (go_at_call 94; refine (l01GcdW_any _ _ _ (by omega) (by omega) (by omega) (by omega)).mono ?_; rintro e w' ⟨rfl, nd, rfl⟩; replace K : K2 w _ _ _ := ⟨below_drewN K.1 nd, K.2⟩))
                exact ⟨⟨d + 1, rfl, by omega, by omega, HF.out, K⟩, by simp only [intOf]; omega⟩
          · have HY := Lib.hid (show symR u M d = r by rw [HSY.out, if_neg hs])
            clear HSY
            cases hin : inB r (-bndB M) (bndB M)
            · have HF := Lib.hid (noFit_next HN.out (show fitB M u (bndB M) d = false by unfold fitB; rw [HY.out, hin]; rfl))
              go_wp2_with (go_at_call 70; refine (in_any _ _ _ _).mono ?_; rintro e w' ⟨rfl, rfl⟩)
              exact ⟨⟨d + 1, rfl, by omega, by omega, HF.out, K⟩, by simp only [intOf]; omega⟩
            · have hin2 : -bndB M ≤ r ∧ r ≤ bndB M := by simpa [inB] using hin
              by_cases hg : Int.gcd r d = 1
              · obtain ⟨q1, q2, q3, q4, q5, q6⟩ := HAT.out d d0 hlt (show fitB M u (bndB M) d = true by unfold fitB; rw [HY.out, hin, hg]; rfl)
                rw [HY.out] at q1 q2 q4 q5 q6
                have HQ := Lib.hid (And.intro q1 (And.intro q2 q6))
                have vy : valueB r = true := valueB_t (by omega) (by omega)
                have HV := Lib.hid (And.intro vy vd)
                clear q1 q2 q5 q6 hg vy vd
                go_wp2_with (first | (go_at_call 70; refine (in_any _ _ _ _).mono ?_; rintro e w' ⟨rfl, rfl⟩) | (go_at_call 94; refine (l01GcdW_any _ _ _ (by omega) (by omega) (by omega) (by omega)).mono ?_; rintro e w' ⟨rfl, nd, rfl⟩; replace K : K2 w _ _ _ := ⟨below_drewN K.1 nd, K.2⟩))
                clear q3 q4 hin hin2
                go_loop [7, 8] (fun s7 s8 => ∃ x i : Int, s7 = .int .i64 x ∧ s8 = .int .i64 i ∧ MR p v r x i) (fun _ s8 => (intOf s8).toNat)
                case atStart => exact ⟨_, _, rfl, rfl, by omega, hv1, HV.out.1, rfl⟩
                case round =>
                  obtain ⟨x, i, rfl, rfl, hr⟩ := hrel
                  have HR := Lib.hid hr
                  obtain ⟨i0, i1, hvx, _⟩ := hr
                  obtain ⟨y0, y1⟩ := val97 hp2 hp97 hvx
                  clear hvx
                  by_cases hi : 0 < i
                  · cases hy : valueB (x * p)
                    · have HO := Lib.hid (rres_no (n := mF v.toNat r p) (d := mF (-v).toNat d p) (.inl (mF_over hi HR.out.2.2.2 HR.out.2.2.1 hy)))
                      go_wp2_with (go_at_call 102; refine (l01Is_any _ _).mono ?_; rintro e w' ⟨rfl, rfl⟩)
                      refine bodyPost_ret (v := .tuple #[.agg (P2 0 0), .int .i64 3]) (by simp [results, Try.results45, go_sem, e0, e1]) rfl ?_
                      exact ⟨by rw [HQ.out.1, HQ.out.2.1, HO.out.1, HO.out.2], below_set2 K.1 (by omega)⟩
                    · have HU := Lib.hid (mF_up hi HR.out.2.2.2 HR.out.2.2.1)
                      have HYY := Lib.hid hy
                      go_wp2_with (go_at_call 102; refine (l01Is_any _ _).mono ?_; rintro e w' ⟨rfl, rfl⟩)
                      exact ⟨⟨_, _, rfl, rfl, by omega, by omega, HYY.out, HU.out⟩, by simp only [intOf]; omega⟩
                  · have HX := Lib.hid (show x = mF v.toNat r p by rw [← HR.out.2.2.2, show i.toNat = 0 by omega]; rfl)
                    have HXV := Lib.hid HR.out.2.2.1
                    clear y0 y1 HR
                    go_wp2_with fail
                    clear hi i0 i1
                    go_loop [6, 9] (fun s6 s9 => ∃ z j : Int, s6 = .int .i64 z ∧ s9 = .int .i64 (-j) ∧ MR p (-v) d z j) (fun _ s9 => (-(intOf s9)).toNat)
                    case atStart => exact ⟨_, -v, rfl, by simp, by omega, by omega, HV.out.2, rfl⟩
                    case round =>
                      obtain ⟨z, j, rfl, rfl, hr⟩ := hrel
                      have HR := Lib.hid hr
                      obtain ⟨j0, j1, hvx, _⟩ := hr
                      obtain ⟨y0, y1⟩ := val97 hp2 hp97 hvx
                      clear hvx
                      by_cases hi : 0 < j
                      · have hi' : -j < 0 := by omega
                        cases hy : valueB (z * p)
                        · have HO := Lib.hid (rres_no (n := mF v.toNat r p) (d := mF (-v).toNat d p) (.inr (mF_over hi HR.out.2.2.2 HR.out.2.2.1 hy)))
                          go_wp2_with (go_at_call 102; refine (l01Is_any _ _).mono ?_; rintro e w' ⟨rfl, rfl⟩)
                          refine bodyPost_ret (v := .tuple #[.agg (P2 0 0), .int .i64 3]) (by simp [results, Try.results45, go_sem, e0, e1]) rfl ?_
                          exact ⟨by rw [HQ.out.1, HQ.out.2.1, HO.out.1, HO.out.2], below_set2 K.1 (by omega)⟩
                        · have HU := Lib.hid (mF_up hi HR.out.2.2.2 HR.out.2.2.1)
                          have HYY := Lib.hid hy
                          go_wp2_with (go_at_call 102; refine (l01Is_any _ _).mono ?_; rintro e w' ⟨rfl, rfl⟩)
                          exact ⟨⟨_, j - 1, rfl, by congr 1; omega, by omega, by omega, HYY.out, HU.out⟩, by simp only [intOf]; omega⟩
                      · have hi' : ¬ -j < 0 := by omega
                        have HZ := Lib.hid (show z = mF (-v).toNat d p by rw [← HR.out.2.2.2, show j.toNat = 0 by omega]; rfl)
                        have HE := Lib.hid (show findQ p v u k = (x, z) ∧ findC p v u k = 0 by
                          have h1 : valueB (mF v.toNat r p) = true := by rw [← HX.out]; exact HXV.out
                          have h2 : valueB (mF (-v).toNat d p) = true := by rw [← HZ.out]; exact HR.out.2.2.1
                          have h3 := HQ.out.2.2 h1 h2
                          rw [HQ.out.1, HQ.out.2.1]
                          rw [← HX.out, ← HZ.out] at h3 ⊢
                          simp [rresQ, rlimC, h3])
                        clear y0 y1 HR
                        go_wp2_with fail
                        refine bodyPost_ret (v := .tuple #[.agg (P2 x z), .int .i64 0]) (by simp [results, Try.results45, go_sem, e0, e1]) rfl ?_
                        exact ⟨by rw [HE.out.1, HE.out.2], below_set2 K.1 (by omega)⟩
              · have hg' : ((Int.gcd r d : Int) != 1) = true := by simp; omega
                have HF := Lib.hid (noFit_next HN.out (show fitB M u (bndB M) d = false by unfold fitB; rw [HY.out, decide_eq_false hg]; simp))
                clear hg
                go_wp2_with (first | (go_at_call 70; refine (in_any _ _ _ _).mono ?_; rintro e w' ⟨rfl, rfl⟩) | (go_at_call 94; refine (l01GcdW_any _ _ _ (by omega) (by omega) (by omega) (by omega)).mono ?_; rintro e w' ⟨rfl, nd, rfl⟩; replace K : K2 w _ _ _ := ⟨below_drewN K.1 nd, K.2⟩))
                exact ⟨⟨d + 1, rfl, by omega, by omega, HF.out, K⟩, by simp only [intOf]; omega⟩
        · have HE := Lib.hid (HNO.out (show NoFit M u (bndB M + 1) by rw [show bndB M + 1 = d by omega]; exact HN.out))
          go_wp2_with fail
          refine bodyPost_ret (v := .tuple #[.agg (P2 0 0), .int .i64 4]) (by simp [results, Try.results45, go_sem, e0, e1]) rfl ?_
          exact ⟨by rw [HE.out.1, HE.out.2], below_set2 K.1 (by omega)⟩
end Go.Proofs.Ytgckamlibbjgcaa
