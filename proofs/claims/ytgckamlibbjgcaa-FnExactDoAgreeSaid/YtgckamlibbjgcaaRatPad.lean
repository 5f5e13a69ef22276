/- Contracts of the walk: the p-adic number of a rational number in impl, for rational numbers other than 0 and valid rings; PadicOf of impl for every argument. -/
import Derived.Test.YtgckamlibbjgcaaRatImpl4
import Derived.Test.YtgckamlibbjgcaaRatPof
import Derived.Deep.DeepCutAuto
namespace Go.Proofs.Ytgckamlibbjgcaa
open Go.RowKit
set_option linter.unusedVariables false
set_option linter.unusedSimpArgs false
set_option maxRecDepth 20000
theorem implMake_yes (p m k : Int) (w : World) (h : ringM p k ≠ 0) (h0 : m ≠ 0) (h1 : -1000000000000 ≤ m) (h2 : m ≤ 1000000000000) :
    Calls Try.prog 129 #[.int .i64 p, .int .i64 m, .int .i64 k] w fun e w' => e = .returned (.tuple #[.agg (P4 p (valCount m p) (valRest m p % ringM p k) k), .int .i64 0]) ∧ Below w.heap.size w w' := by
  have hq : madeQ p m k = (p, valCount m p, valRest m p % ringM p k, k) := by simp [madeQ, h, valueB_t h1 h2, h0]
  have hc : madeC p m k = 0 := by simp [madeC, h, valueB_t h1 h2, h0]
  have := implMake_any p m k w
  rw [hq, hc] at this
  exact this
theorem implInvert_yes (p v u k : Int) (w : World) (h : POk p v u k) (hk : k ≠ 0) :
    Calls Try.prog 28 #[.agg (P4 p v u k)] w fun e w' => e = .returned (.tuple #[.agg (P4 p (-v) (invV p k u) k), .int .i64 0]) ∧ Below w.heap.size w w' := by
  have hq : invQ p v u k = (p, -v, invV p k u, k) := by simp [invQ, ok_padB h, hk]
  have hc : invC p v u k = 0 := by simp [invC, ok_padB h, hk]
  have := implInvert_any p v u k w
  rw [hq, hc] at this
  exact this
set_option maxHeartbeats 1000000 in
theorem padicIn_core (n d p k vn un vd ud g U : Int) (w : World)
    (HM : Hid (∀ w, Calls Try.prog 129 #[.int .i64 p, .int .i64 n, .int .i64 k] w fun e w' => e = .returned (.tuple #[.agg (P4 p vn un k), .int .i64 0]) ∧ Below w.heap.size w w'))
    (HD : Hid (∀ w, Calls Try.prog 129 #[.int .i64 p, .int .i64 d, .int .i64 k] w fun e w' => e = .returned (.tuple #[.agg (P4 p vd ud k), .int .i64 0]) ∧ Below w.heap.size w w'))
    (HI : Hid (∀ w, Calls Try.prog 28 #[.agg (P4 p vd ud k)] w fun e w' => e = .returned (.tuple #[.agg (P4 p (-vd) g k), .int .i64 0]) ∧ Below w.heap.size w w'))
    (HT : Hid (∀ w, Calls Try.prog 74 #[.agg (P4 p vn un k), .agg (P4 p (-vd) g k)] w fun e w' => e = .returned (.agg (P4 p (vn - vd) U k)) ∧ Below w.heap.size w w')) :
    Calls Try.prog 97 #[.agg (P2 n d), .agg (P2 p k)] w fun e w' => e = .returned (.agg (P4 p (vn - vd) U k)) ∧ Below w.heap.size w w' := by
  go_enter Try.func97, Try.ntmps97
  go_upto_region 2 with (go_at_call 129; refine (HM.out _).mono ?_; rintro e w1 ⟨rfl, hb⟩; have K := k3_first hb)
  replace K := k3_next K (below_a1 w1 (.cells (P4 p vn un k) 34))
  have L1 := lies_new w1 (P4 p vn un k) 34
  clear hb
  generalize w1.alloc (.cells (P4 p vn un k) 34) = V1 at K L1 ⊢
  obtain ⟨q, hq⟩ : ∃ b, w1.heap.size = b := ⟨_, rfl⟩
  rw [hq] at L1 ⊢
  clear hq
  obtain ⟨c0, c1⟩ := lies_pair K.2.1
  obtain ⟨d0, d1⟩ := lies_pair K.2.2.1
  go_upto_region 3 with (go_at_call 129; refine (HD.out _).mono ?_; rintro e w2 ⟨rfl, hb⟩; replace K := k3_next K hb; replace L1 := lies_next L1 hb)
  replace L1 := lies_alloc L1 (.cells (P4 p vd ud k) 34)
  replace K := k3_next K (below_a1 w2 (.cells (P4 p vd ud k) 34))
  have L2 := lies_new w2 (P4 p vd ud k) 34
  clear hb
  generalize w2.alloc (.cells (P4 p vd ud k) 34) = V2 at K L1 L2 ⊢
  obtain ⟨q, hq⟩ : ∃ b, w2.heap.size = b := ⟨_, rfl⟩
  rw [hq] at L2 ⊢
  clear hq
  clear c0 c1 d0 d1
  obtain ⟨g0, g1, g2, g3⟩ := lies_four L2
  go_upto_region 4 with (go_at_call 28; refine (HI.out _).mono ?_; rintro e w3 ⟨rfl, hb⟩; replace K := k3_next K hb; replace L1 := lies_next L1 hb; clear L2)
  replace L1 := lies_alloc L1 (.cells (P4 p (-vd) g k) 34)
  clear g0 g1 g2 g3
  replace K := k3_next K (below_a1 w3 (.cells (P4 p (-vd) g k) 34))
  have L3 := lies_new w3 (P4 p (-vd) g k) 34
  clear hb
  generalize w3.alloc (.cells (P4 p (-vd) g k) 34) = V3 at K L1 L3 ⊢
  obtain ⟨q, hq⟩ : ∃ b, w3.heap.size = b := ⟨_, rfl⟩
  rw [hq] at L3 ⊢
  clear hq
  obtain ⟨f0, f1, f2, f3⟩ := lies_four L1
  obtain ⟨g0, g1, g2, g3⟩ := lies_four L3
  go_wp2_with (go_at_call 74; refine (HT.out _).mono ?_; rintro e w4 ⟨rfl, hb⟩; replace K := k3_next K hb; obtain ⟨e0, e1, e2, e3⟩ := lies_four K.2.2.2; obtain ⟨ef0, ef1, ef2, ef3⟩ := lies_ice K.2.2.2)
  refine bodyPost_ret (v := .agg (P4 p (vn - vd) U k)) (by simp [results, Try.results97, go_sem, e0, e1, e2, e3]) rfl ?_
  exact ⟨rfl, below_set4 K.1 (by omega)⟩
theorem padicIn_any (n d p k : Int) (w : World) (hr : isRatB n d = true) (hn : n ≠ 0) (hm : ringM p k ≠ 0) :
    Calls Try.prog 97 #[.agg (P2 n d), .agg (P2 p k)] w fun e w' => e = .returned (.agg (A4 (pofT n d p k))) ∧ Below w.heap.size w w' := by
  obtain ⟨n0, n1, d0, d1, g⟩ := isRat_of hr
  have hs := (ringM_in hm).1
  have hp := (smallB_bd hs).1
  obtain ⟨_, _, k1, _, m1, m2, _⟩ := ringM_bd hm
  have hd : d ≠ 0 := by omega
  obtain ⟨_, a2, a3, a4⟩ := val_parts hp hn n0 n1
  obtain ⟨_, b2, b3, b4⟩ := val_parts (n := d) hp hd (by omega) d1
  have e := pw_ringM hm
  have ok : ∀ v r : Int, -60 ≤ v → v ≤ 60 → r % p ≠ 0 → 0 ≤ r % ringM p k → POk p v (r % ringM p k) k := by
    intro v r h1 h2 h3 h4
    have h5 := Int.emod_lt_of_pos r (show 0 < ringM p k by omega)
    have h6 : r % ringM p k % p ≠ 0 := by rw [emod_ringM hm]; exact h3
    have h7 : r % ringM p k ≠ 0 := by intro hz; rw [hz] at h6; simp at h6
    exact ⟨hs, h1, h2, by omega, by omega, .inr ⟨k1, by omega, by omega, h6⟩⟩
  have h1 := ok (valCount n p) _ (by omega) (by omega) a2 (Int.emod_nonneg _ hm)
  have h2 := ok (valCount d p) _ (by omega) (by omega) b2 (Int.emod_nonneg _ hm)
  have du : valRest d p % ringM p k % p ≠ 0 := by rw [emod_ringM hm]; exact b2
  obtain ⟨_, g1, g2, g3, g4⟩ := inv_unit hm (Int.emod_nonneg (valRest d p) hm) (Int.emod_lt_of_pos (valRest d p) (show 0 < ringM p k by omega)) du
  have h3 : POk p (-valCount d p) (invV p k (valRest d p % ringM p k)) k := ⟨hs, by omega, by omega, by omega, by omega, .inr ⟨k1, g1, by omega, g4⟩⟩
  have hU : mulU p (valRest n p % ringM p k) k (invV p k (valRest d p % ringM p k)) k = pofU n d p k := by
    unfold mulU pofU mulN
    rw [show min k k = k by omega, e]
  have HT : ∀ w, Calls Try.prog 74 #[.agg (P4 p (valCount n p) (valRest n p % ringM p k) k), .agg (P4 p (-valCount d p) (invV p k (valRest d p % ringM p k)) k)] w fun e w' => e = .returned (.agg (P4 p (valCount n p - valCount d p) (pofU n d p k) k)) ∧ Below w.heap.size w w' := by
    intro w
    have := times_any p _ _ k _ _ k w h1 h3
    rw [hU, show mulN k k = k by unfold mulN; omega, show valCount n p + -valCount d p = valCount n p - valCount d p by omega] at this
    exact this
  exact padicIn_core n d p k _ _ _ _ _ _ w (Lib.hid fun w => implMake_yes p n k w hm hn n0 n1) (Lib.hid fun w => implMake_yes p d k w hm hd (by omega) d1) (Lib.hid fun w => implInvert_yes p _ _ k w h2 (by omega)) (Lib.hid HT)
theorem implPof_any (n d p k : Int) (w : World) :
    Calls Try.prog 41 #[.agg (P2 n d), .agg (P2 p k)] w fun e w' => e = .returned (.tuple #[.agg (A4 (pofQ n d p k)), .int .i64 (pofC n d p k)]) ∧ Below w.heap.size w w' := by
  cases hx : isRatB n d
  · have hc : pofC n d p k = 1 := by simp [pofC, hx]
    rw [show pofQ n d p k = (0, 0, 0, 0) by unfold pofQ; rw [if_neg (by omega)], hc]
    clear hc
    go_enter Try.func41, Try.ntmps41
    go_wp2_with (first | (go_at_call 95; refine (ratValid_any _ _ _).mono ?_; rintro e wn ⟨rfl, hb⟩; (first | have K := k3_first hb | have K := k3_next K hb); obtain ⟨c0, c1⟩ := lies_pair K.2.1; obtain ⟨d0, d1⟩ := lies_pair K.2.2.1; obtain ⟨e0, e1, e2, e3⟩ := lies_four K.2.2.2; obtain ⟨ef0, ef1, ef2, ef3⟩ := lies_ice K.2.2.2) | (go_at_call 21; refine (implIsRing_any _ _ _).mono ?_; rintro e wn ⟨rfl, hb⟩; (first | have K := k3_first hb | have K := k3_next K hb); obtain ⟨c0, c1⟩ := lies_pair K.2.1; obtain ⟨d0, d1⟩ := lies_pair K.2.2.1; obtain ⟨e0, e1, e2, e3⟩ := lies_four K.2.2.2; obtain ⟨ef0, ef1, ef2, ef3⟩ := lies_ice K.2.2.2) | (go_at_call 96; refine (ratZero_any _ _ _).mono ?_; rintro e wn ⟨rfl, hb⟩; (first | have K := k3_first hb | have K := k3_next K hb); obtain ⟨c0, c1⟩ := lies_pair K.2.1; obtain ⟨d0, d1⟩ := lies_pair K.2.2.1; obtain ⟨e0, e1, e2, e3⟩ := lies_four K.2.2.2; obtain ⟨ef0, ef1, ef2, ef3⟩ := lies_ice K.2.2.2))
    refine bodyPost_ret (v := .tuple #[.agg (P4 0 0 0 0), .int .i64 1]) (by simp [results, Try.results41, go_sem, e0, e1, e2, e3]) rfl ?_
    exact ⟨rfl, below_set4 K.1 (by omega)⟩

  · cases hr : ringB p k
    · have hc : pofC n d p k = 1 := by simp [pofC, hr]
      rw [show pofQ n d p k = (0, 0, 0, 0) by unfold pofQ; rw [if_neg (by omega)], hc]
      clear hc
      go_enter Try.func41, Try.ntmps41
      go_wp2_with (first | (go_at_call 95; refine (ratValid_any _ _ _).mono ?_; rintro e wn ⟨rfl, hb⟩; (first | have K := k3_first hb | have K := k3_next K hb); obtain ⟨c0, c1⟩ := lies_pair K.2.1; obtain ⟨d0, d1⟩ := lies_pair K.2.2.1; obtain ⟨e0, e1, e2, e3⟩ := lies_four K.2.2.2; obtain ⟨ef0, ef1, ef2, ef3⟩ := lies_ice K.2.2.2) | (go_at_call 21; refine (implIsRing_any _ _ _).mono ?_; rintro e wn ⟨rfl, hb⟩; (first | have K := k3_first hb | have K := k3_next K hb); obtain ⟨c0, c1⟩ := lies_pair K.2.1; obtain ⟨d0, d1⟩ := lies_pair K.2.2.1; obtain ⟨e0, e1, e2, e3⟩ := lies_four K.2.2.2; obtain ⟨ef0, ef1, ef2, ef3⟩ := lies_ice K.2.2.2) | (go_at_call 96; refine (ratZero_any _ _ _).mono ?_; rintro e wn ⟨rfl, hb⟩; (first | have K := k3_first hb | have K := k3_next K hb); obtain ⟨c0, c1⟩ := lies_pair K.2.1; obtain ⟨d0, d1⟩ := lies_pair K.2.2.1; obtain ⟨e0, e1, e2, e3⟩ := lies_four K.2.2.2; obtain ⟨ef0, ef1, ef2, ef3⟩ := lies_ice K.2.2.2))
      refine bodyPost_ret (v := .tuple #[.agg (P4 0 0 0 0), .int .i64 1]) (by simp [results, Try.results41, go_sem, e0, e1, e2, e3]) rfl ?_
      exact ⟨rfl, below_set4 K.1 (by omega)⟩

    · by_cases h0 : n = 0
      · have hc : pofC n d p k = 5 := by unfold pofC; rw [if_pos (by rw [hx, hr]; rfl), if_pos h0]
        have hz : (n == 0) = true := by simp [h0]
        rw [show pofQ n d p k = (0, 0, 0, 0) by unfold pofQ; rw [if_neg (by omega)], hc]
        clear hc h0
        go_enter Try.func41, Try.ntmps41
        go_wp2_with (first | (go_at_call 95; refine (ratValid_any _ _ _).mono ?_; rintro e wn ⟨rfl, hb⟩; (first | have K := k3_first hb | have K := k3_next K hb); obtain ⟨c0, c1⟩ := lies_pair K.2.1; obtain ⟨d0, d1⟩ := lies_pair K.2.2.1; obtain ⟨e0, e1, e2, e3⟩ := lies_four K.2.2.2; obtain ⟨ef0, ef1, ef2, ef3⟩ := lies_ice K.2.2.2) | (go_at_call 21; refine (implIsRing_any _ _ _).mono ?_; rintro e wn ⟨rfl, hb⟩; (first | have K := k3_first hb | have K := k3_next K hb); obtain ⟨c0, c1⟩ := lies_pair K.2.1; obtain ⟨d0, d1⟩ := lies_pair K.2.2.1; obtain ⟨e0, e1, e2, e3⟩ := lies_four K.2.2.2; obtain ⟨ef0, ef1, ef2, ef3⟩ := lies_ice K.2.2.2) | (go_at_call 96; refine (ratZero_any _ _ _).mono ?_; rintro e wn ⟨rfl, hb⟩; (first | have K := k3_first hb | have K := k3_next K hb); obtain ⟨c0, c1⟩ := lies_pair K.2.1; obtain ⟨d0, d1⟩ := lies_pair K.2.2.1; obtain ⟨e0, e1, e2, e3⟩ := lies_four K.2.2.2; obtain ⟨ef0, ef1, ef2, ef3⟩ := lies_ice K.2.2.2))
        refine bodyPost_ret (v := .tuple #[.agg (P4 0 0 0 0), .int .i64 5]) (by simp [results, Try.results41, go_sem, e0, e1, e2, e3]) rfl ?_
        exact ⟨rfl, below_set4 K.1 (by omega)⟩

      · have hc : pofC n d p k = 0 := by unfold pofC; rw [if_pos (by rw [hx, hr]; rfl), if_neg h0]
        have hz : (n == 0) = false := by simpa using h0
        obtain ⟨_, hm, _, hq⟩ := pof_zero hc
        rw [hq, hc]
        have HN := Lib.hid h0
        have HM := Lib.hid hm
        have HX := Lib.hid hx
        clear hc hm hq h0
        go_enter Try.func41, Try.ntmps41
        go_wp2_with (first | (go_at_call 95; refine (ratValid_any _ _ _).mono ?_; rintro e wn ⟨rfl, hb⟩; (first | have K := k3_first hb | have K := k3_next K hb); obtain ⟨c0, c1⟩ := lies_pair K.2.1; obtain ⟨d0, d1⟩ := lies_pair K.2.2.1; obtain ⟨e0, e1, e2, e3⟩ := lies_four K.2.2.2; obtain ⟨ef0, ef1, ef2, ef3⟩ := lies_ice K.2.2.2) | (go_at_call 21; refine (implIsRing_any _ _ _).mono ?_; rintro e wn ⟨rfl, hb⟩; (first | have K := k3_first hb | have K := k3_next K hb); obtain ⟨c0, c1⟩ := lies_pair K.2.1; obtain ⟨d0, d1⟩ := lies_pair K.2.2.1; obtain ⟨e0, e1, e2, e3⟩ := lies_four K.2.2.2; obtain ⟨ef0, ef1, ef2, ef3⟩ := lies_ice K.2.2.2) | (go_at_call 96; refine (ratZero_any _ _ _).mono ?_; rintro e wn ⟨rfl, hb⟩; (first | have K := k3_first hb | have K := k3_next K hb); obtain ⟨c0, c1⟩ := lies_pair K.2.1; obtain ⟨d0, d1⟩ := lies_pair K.2.2.1; obtain ⟨e0, e1, e2, e3⟩ := lies_four K.2.2.2; obtain ⟨ef0, ef1, ef2, ef3⟩ := lies_ice K.2.2.2) | (go_at_call 97; refine (padicIn_any _ _ _ _ _ HX.out HN.out HM.out).mono ?_; rintro e wn ⟨rfl, hb⟩; (first | have K := k3_first hb | have K := k3_next K hb); obtain ⟨c0, c1⟩ := lies_pair K.2.1; obtain ⟨d0, d1⟩ := lies_pair K.2.2.1; obtain ⟨e0, e1, e2, e3⟩ := lies_four K.2.2.2; obtain ⟨ef0, ef1, ef2, ef3⟩ := lies_ice K.2.2.2))
        refine bodyPost_ret (v := .tuple #[.agg (A4 (pofT n d p k)), .int .i64 0]) (by simp [results, Try.results41, go_sem, e0, e1, e2, e3]) rfl ?_
        exact ⟨rfl, below_set4 K.1 (by omega)⟩

end Go.Proofs.Ytgckamlibbjgcaa
