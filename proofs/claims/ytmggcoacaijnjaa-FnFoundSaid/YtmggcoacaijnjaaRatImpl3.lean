/- Contracts of the walk: chapter 5's sums, products and made numbers, in impl and in spec, for every argument. -/
import Derived.Test.YtmggcoacaijnjaaRatImpl2
namespace Go.Proofs.Ytmggcoacaijnjaa
open Go.RowKit
set_option linter.unusedVariables false
set_option linter.unusedSimpArgs false
set_option maxRecDepth 20000
theorem l05Two_any (a b c d : Int) (w : World) :
    Calls Try.prog 70 #[.agg (P2 a b), .agg (P2 c d)] w fun e w' => e = .returned (.int .i64 (rtwoC a b c d)) ∧ Below w.heap.size w w' := by
  cases hx : isRatB a b
  · have HE := Lib.hid (show rtwoC a b c d = 1 by simp [rtwoC, hx])
    go_enter Try.func70, Try.ntmps70
    go_wp2_with (first | (go_at_call 35; refine (specIsRational_any _ _ _).mono ?_; rintro e wn ⟨rfl, hb⟩; (first | have K := k2_first hb | have K := k2_next K hb); obtain ⟨c0, c1⟩ := lies_pair K.2.1; obtain ⟨d0, d1⟩ := lies_pair K.2.2) | (go_at_call 83; refine (in_any _ _ _ _).mono ?_; rintro e w' ⟨rfl, rfl⟩))
    go_ret
    exact ⟨ret_int HE.out.symm, K.1⟩
  · cases hy : isRatB c d
    · have HE := Lib.hid (show rtwoC a b c d = 1 by simp [rtwoC, hy])
      go_enter Try.func70, Try.ntmps70
      go_wp2_with (first | (go_at_call 35; refine (specIsRational_any _ _ _).mono ?_; rintro e wn ⟨rfl, hb⟩; (first | have K := k2_first hb | have K := k2_next K hb); obtain ⟨c0, c1⟩ := lies_pair K.2.1; obtain ⟨d0, d1⟩ := lies_pair K.2.2) | (go_at_call 83; refine (in_any _ _ _ _).mono ?_; rintro e w' ⟨rfl, rfl⟩))
      go_ret
      exact ⟨ret_int HE.out.symm, K.1⟩
    · have pb := (isRat_of hx).2.2.1
      have pd := (isRat_of hy).2.2.1
      cases ha : inB a (-1000000) 1000000
      · have HE := Lib.hid (show rtwoC a b c d = 2 by simp [rtwoC, hx, hy, opB, ha])
        go_enter Try.func70, Try.ntmps70
        go_wp2_with (first | (go_at_call 35; refine (specIsRational_any _ _ _).mono ?_; rintro e wn ⟨rfl, hb⟩; (first | have K := k2_first hb | have K := k2_next K hb); obtain ⟨c0, c1⟩ := lies_pair K.2.1; obtain ⟨d0, d1⟩ := lies_pair K.2.2) | (go_at_call 83; refine (in_any _ _ _ _).mono ?_; rintro e w' ⟨rfl, rfl⟩))
        go_ret
        exact ⟨ret_int HE.out.symm, K.1⟩
      · cases hc : inB c (-1000000) 1000000
        · have HE := Lib.hid (show rtwoC a b c d = 2 by simp [rtwoC, hx, hy, opB, hc])
          go_enter Try.func70, Try.ntmps70
          go_wp2_with (first | (go_at_call 35; refine (specIsRational_any _ _ _).mono ?_; rintro e wn ⟨rfl, hb⟩; (first | have K := k2_first hb | have K := k2_next K hb); obtain ⟨c0, c1⟩ := lies_pair K.2.1; obtain ⟨d0, d1⟩ := lies_pair K.2.2) | (go_at_call 83; refine (in_any _ _ _ _).mono ?_; rintro e w' ⟨rfl, rfl⟩))
          go_ret
          exact ⟨ret_int HE.out.symm, K.1⟩
        · by_cases hb1 : 1000000 < b
          · have HE := Lib.hid (show rtwoC a b c d = 2 by simp [rtwoC, hx, hy, opB, inB_f (lo := -1000000) (.inr hb1)])
            go_enter Try.func70, Try.ntmps70
            go_wp2_with (first | (go_at_call 35; refine (specIsRational_any _ _ _).mono ?_; rintro e wn ⟨rfl, hb⟩; (first | have K := k2_first hb | have K := k2_next K hb); obtain ⟨c0, c1⟩ := lies_pair K.2.1; obtain ⟨d0, d1⟩ := lies_pair K.2.2) | (go_at_call 83; refine (in_any _ _ _ _).mono ?_; rintro e w' ⟨rfl, rfl⟩))
            go_ret
            exact ⟨ret_int HE.out.symm, K.1⟩
          · by_cases hd1 : 1000000 < d
            · have HE := Lib.hid (show rtwoC a b c d = 2 by simp [rtwoC, hx, hy, opB, inB_f (lo := -1000000) (.inr hd1)])
              go_enter Try.func70, Try.ntmps70
              go_wp2_with (first | (go_at_call 35; refine (specIsRational_any _ _ _).mono ?_; rintro e wn ⟨rfl, hb⟩; (first | have K := k2_first hb | have K := k2_next K hb); obtain ⟨c0, c1⟩ := lies_pair K.2.1; obtain ⟨d0, d1⟩ := lies_pair K.2.2) | (go_at_call 83; refine (in_any _ _ _ _).mono ?_; rintro e w' ⟨rfl, rfl⟩))
              go_ret
              exact ⟨ret_int HE.out.symm, K.1⟩
            · have HE := Lib.hid (show rtwoC a b c d = 0 by simp [rtwoC, hx, hy, opB, ha, hc, inB_t (show -1000000 ≤ b by omega) (show b ≤ 1000000 by omega), inB_t (show -1000000 ≤ d by omega) (show d ≤ 1000000 by omega)])
              go_enter Try.func70, Try.ntmps70
              go_wp2_with (first | (go_at_call 35; refine (specIsRational_any _ _ _).mono ?_; rintro e wn ⟨rfl, hb⟩; (first | have K := k2_first hb | have K := k2_next K hb); obtain ⟨c0, c1⟩ := lies_pair K.2.1; obtain ⟨d0, d1⟩ := lies_pair K.2.2) | (go_at_call 83; refine (in_any _ _ _ _).mono ?_; rintro e w' ⟨rfl, rfl⟩))
              go_ret
              exact ⟨ret_int HE.out.symm, K.1⟩
set_option maxHeartbeats 1000000 in
theorem implAddR_any (a b c d : Int) (w : World) :
    Calls Try.prog 27 #[.agg (P2 a b), .agg (P2 c d)] w fun e w' => e = .returned (.tuple #[.agg (A2 (addRQ a b c d)), .int .i64 (addRC a b c d)]) ∧ Below w.heap.size w w' := by
  by_cases h0 : rtwoC a b c d = 0
  · rw [show addRQ a b c d = rresQ (rlN (a * d + c * b) (b * d)) (rlD (a * d + c * b) (b * d)) by simp [addRQ, h0, sumN, sumD], show addRC a b c d = rlimC (rlN (a * d + c * b) (b * d)) (rlD (a * d + c * b) (b * d)) by simp [addRC, h0, sumN, sumD]]
    obtain ⟨s0, s1, s2, s3, x1, x2, x3, x4, x5, x6, x7, x8⟩ := sum_bd h0
    simp only [sumN, sumD] at s0 s1 s2 s3
    have hz : (rtwoC a b c d != 0) = false := by simp [h0]
    clear h0
    go_enter Try.func27, Try.ntmps27
    go_wp2_with (first | (go_at_call 67; refine (ratCheck_any _ _ _ _ _).mono ?_; rintro e wn ⟨rfl, hb⟩; (first | have K := k3_first hb | have K := k3_next K hb); obtain ⟨c0, c1⟩ := lies_pair K.2.1; obtain ⟨d0, d1⟩ := lies_pair K.2.2.1; obtain ⟨e0, e1⟩ := lies_pair K.2.2.2; have ef0 := lies_frozen K.2.2.2 0; have ef1 := lies_frozen K.2.2.2 1) | (go_at_call 68; refine (lowest_any _ _ _ (by omega) (by omega) (by omega) (by omega) (by omega)).mono ?_; rintro e wn ⟨rfl, hb⟩; (first | have K := k3_first hb | have K := k3_next K hb); obtain ⟨c0, c1⟩ := lies_pair K.2.1; obtain ⟨d0, d1⟩ := lies_pair K.2.2.1; obtain ⟨e0, e1⟩ := lies_pair K.2.2.2; have ef0 := lies_frozen K.2.2.2 0; have ef1 := lies_frozen K.2.2.2 1) | (go_at_call 69; refine (ratResult_any _ _ _).mono ?_; rintro e wn ⟨rfl, hb⟩; (first | have K := k3_first hb | have K := k3_next K hb); obtain ⟨c0, c1⟩ := lies_pair K.2.1; obtain ⟨d0, d1⟩ := lies_pair K.2.2.1; obtain ⟨e0, e1⟩ := lies_pair K.2.2.2; have ef0 := lies_frozen K.2.2.2 0; have ef1 := lies_frozen K.2.2.2 1))
    refine bodyPost_ret (v := .tuple #[.agg (A2 (rresQ (rlN (a * d + c * b) (b * d)) (rlD (a * d + c * b) (b * d)))), .int .i64 (rlimC (rlN (a * d + c * b) (b * d)) (rlD (a * d + c * b) (b * d)))]) (by simp [results, Try.results27, go_sem, e0, e1]) rfl ?_
    exact ⟨rfl, below_set2 K.1 (by omega)⟩

  · rw [show addRQ a b c d = (0, 0) by simp [addRQ, h0], show addRC a b c d = rtwoC a b c d by simp [addRC, h0]]
    have hz : (rtwoC a b c d != 0) = true := by simp [h0]
    clear h0
    go_enter Try.func27, Try.ntmps27
    go_wp2_with (first | (go_at_call 67; refine (ratCheck_any _ _ _ _ _).mono ?_; rintro e wn ⟨rfl, hb⟩; (first | have K := k3_first hb | have K := k3_next K hb); obtain ⟨c0, c1⟩ := lies_pair K.2.1; obtain ⟨d0, d1⟩ := lies_pair K.2.2.1; obtain ⟨e0, e1⟩ := lies_pair K.2.2.2; have ef0 := lies_frozen K.2.2.2 0; have ef1 := lies_frozen K.2.2.2 1))
    refine bodyPost_ret (v := .tuple #[.agg (P2 0 0), .int .i64 (rtwoC a b c d)]) (by simp [results, Try.results27, go_sem, e0, e1]) rfl ?_
    exact ⟨rfl, below_set2 K.1 (by omega)⟩

set_option maxHeartbeats 1000000 in
theorem implMulR_any (a b c d : Int) (w : World) :
    Calls Try.prog 24 #[.agg (P2 a b), .agg (P2 c d)] w fun e w' => e = .returned (.tuple #[.agg (A2 (mulRQ a b c d)), .int .i64 (mulRC a b c d)]) ∧ Below w.heap.size w w' := by
  by_cases h0 : rtwoC a b c d = 0
  · rw [show mulRQ a b c d = rresQ (rlN (a * c) (b * d)) (rlD (a * c) (b * d)) by simp [mulRQ, h0], show mulRC a b c d = rlimC (rlN (a * c) (b * d)) (rlD (a * c) (b * d)) by simp [mulRC, h0]]
    obtain ⟨s0, s1, s2, s3, x1, x2, x3, x4, x5, x6, x7, x8⟩ := sum_bd h0
    simp only [sumN, sumD] at s0 s1 s2 s3
    have hz : (rtwoC a b c d != 0) = false := by simp [h0]
    clear h0
    go_enter Try.func24, Try.ntmps24
    go_wp2_with (first | (go_at_call 67; refine (ratCheck_any _ _ _ _ _).mono ?_; rintro e wn ⟨rfl, hb⟩; (first | have K := k3_first hb | have K := k3_next K hb); obtain ⟨c0, c1⟩ := lies_pair K.2.1; obtain ⟨d0, d1⟩ := lies_pair K.2.2.1; obtain ⟨e0, e1⟩ := lies_pair K.2.2.2; have ef0 := lies_frozen K.2.2.2 0; have ef1 := lies_frozen K.2.2.2 1) | (go_at_call 68; refine (lowest_any _ _ _ (by omega) (by omega) (by omega) (by omega) (by omega)).mono ?_; rintro e wn ⟨rfl, hb⟩; (first | have K := k3_first hb | have K := k3_next K hb); obtain ⟨c0, c1⟩ := lies_pair K.2.1; obtain ⟨d0, d1⟩ := lies_pair K.2.2.1; obtain ⟨e0, e1⟩ := lies_pair K.2.2.2; have ef0 := lies_frozen K.2.2.2 0; have ef1 := lies_frozen K.2.2.2 1) | (go_at_call 69; refine (ratResult_any _ _ _).mono ?_; rintro e wn ⟨rfl, hb⟩; (first | have K := k3_first hb | have K := k3_next K hb); obtain ⟨c0, c1⟩ := lies_pair K.2.1; obtain ⟨d0, d1⟩ := lies_pair K.2.2.1; obtain ⟨e0, e1⟩ := lies_pair K.2.2.2; have ef0 := lies_frozen K.2.2.2 0; have ef1 := lies_frozen K.2.2.2 1))
    refine bodyPost_ret (v := .tuple #[.agg (A2 (rresQ (rlN (a * c) (b * d)) (rlD (a * c) (b * d)))), .int .i64 (rlimC (rlN (a * c) (b * d)) (rlD (a * c) (b * d)))]) (by simp [results, Try.results24, go_sem, e0, e1]) rfl ?_
    exact ⟨rfl, below_set2 K.1 (by omega)⟩

  · rw [show mulRQ a b c d = (0, 0) by simp [mulRQ, h0], show mulRC a b c d = rtwoC a b c d by simp [mulRC, h0]]
    have hz : (rtwoC a b c d != 0) = true := by simp [h0]
    clear h0
    go_enter Try.func24, Try.ntmps24
    go_wp2_with (first | (go_at_call 67; refine (ratCheck_any _ _ _ _ _).mono ?_; rintro e wn ⟨rfl, hb⟩; (first | have K := k3_first hb | have K := k3_next K hb); obtain ⟨c0, c1⟩ := lies_pair K.2.1; obtain ⟨d0, d1⟩ := lies_pair K.2.2.1; obtain ⟨e0, e1⟩ := lies_pair K.2.2.2; have ef0 := lies_frozen K.2.2.2 0; have ef1 := lies_frozen K.2.2.2 1))
    refine bodyPost_ret (v := .tuple #[.agg (P2 0 0), .int .i64 (rtwoC a b c d)]) (by simp [results, Try.results24, go_sem, e0, e1]) rfl ?_
    exact ⟨rfl, below_set2 K.1 (by omega)⟩

set_option maxHeartbeats 1000000 in
theorem specAddR_any (a b c d : Int) (w : World) :
    Calls Try.prog 28 #[.agg (P2 a b), .agg (P2 c d)] w fun e w' => e = .returned (.tuple #[.agg (A2 (addRQ a b c d)), .int .i64 (addRC a b c d)]) ∧ Below w.heap.size w w' := by
  by_cases h0 : rtwoC a b c d = 0
  · rw [show addRQ a b c d = rresQ (rlN (a * d + c * b) (b * d)) (rlD (a * d + c * b) (b * d)) by simp [addRQ, h0, sumN, sumD], show addRC a b c d = rlimC (rlN (a * d + c * b) (b * d)) (rlD (a * d + c * b) (b * d)) by simp [addRC, h0, sumN, sumD]]
    obtain ⟨s0, s1, s2, s3, x1, x2, x3, x4, x5, x6, x7, x8⟩ := sum_bd h0
    simp only [sumN, sumD] at s0 s1 s2 s3
    have hz : (rtwoC a b c d != 0) = false := by simp [h0]
    clear h0
    go_enter Try.func28, Try.ntmps28
    go_wp2_with (first | (go_at_call 70; refine (l05Two_any _ _ _ _ _).mono ?_; rintro e wn ⟨rfl, hb⟩; (first | have K := k3_first hb | have K := k3_next K hb); obtain ⟨c0, c1⟩ := lies_pair K.2.1; obtain ⟨d0, d1⟩ := lies_pair K.2.2.1; obtain ⟨e0, e1⟩ := lies_pair K.2.2.2; have ef0 := lies_frozen K.2.2.2 0; have ef1 := lies_frozen K.2.2.2 1) | (go_at_call 71; refine (l05Make_any _ _ _ (by omega) (by omega) (by omega) (by omega) (by omega)).mono ?_; rintro e wn ⟨rfl, hb⟩; (first | have K := k3_first hb | have K := k3_next K hb); obtain ⟨c0, c1⟩ := lies_pair K.2.1; obtain ⟨d0, d1⟩ := lies_pair K.2.2.1; obtain ⟨e0, e1⟩ := lies_pair K.2.2.2; have ef0 := lies_frozen K.2.2.2 0; have ef1 := lies_frozen K.2.2.2 1))
    refine bodyPost_ret (v := .tuple #[.agg (A2 (rresQ (rlN (a * d + c * b) (b * d)) (rlD (a * d + c * b) (b * d)))), .int .i64 (rlimC (rlN (a * d + c * b) (b * d)) (rlD (a * d + c * b) (b * d)))]) (by simp [results, Try.results28, go_sem, e0, e1]) rfl ?_
    exact ⟨rfl, below_set2 K.1 (by omega)⟩

  · rw [show addRQ a b c d = (0, 0) by simp [addRQ, h0], show addRC a b c d = rtwoC a b c d by simp [addRC, h0]]
    have hz : (rtwoC a b c d != 0) = true := by simp [h0]
    clear h0
    go_enter Try.func28, Try.ntmps28
    go_wp2_with (first | (go_at_call 70; refine (l05Two_any _ _ _ _ _).mono ?_; rintro e wn ⟨rfl, hb⟩; (first | have K := k3_first hb | have K := k3_next K hb); obtain ⟨c0, c1⟩ := lies_pair K.2.1; obtain ⟨d0, d1⟩ := lies_pair K.2.2.1; obtain ⟨e0, e1⟩ := lies_pair K.2.2.2; have ef0 := lies_frozen K.2.2.2 0; have ef1 := lies_frozen K.2.2.2 1))
    refine bodyPost_ret (v := .tuple #[.agg (P2 0 0), .int .i64 (rtwoC a b c d)]) (by simp [results, Try.results28, go_sem, e0, e1]) rfl ?_
    exact ⟨rfl, below_set2 K.1 (by omega)⟩

set_option maxHeartbeats 1000000 in
theorem specMulR_any (a b c d : Int) (w : World) :
    Calls Try.prog 25 #[.agg (P2 a b), .agg (P2 c d)] w fun e w' => e = .returned (.tuple #[.agg (A2 (mulRQ a b c d)), .int .i64 (mulRC a b c d)]) ∧ Below w.heap.size w w' := by
  by_cases h0 : rtwoC a b c d = 0
  · rw [show mulRQ a b c d = rresQ (rlN (a * c) (b * d)) (rlD (a * c) (b * d)) by simp [mulRQ, h0], show mulRC a b c d = rlimC (rlN (a * c) (b * d)) (rlD (a * c) (b * d)) by simp [mulRC, h0]]
    obtain ⟨s0, s1, s2, s3, x1, x2, x3, x4, x5, x6, x7, x8⟩ := sum_bd h0
    simp only [sumN, sumD] at s0 s1 s2 s3
    have hz : (rtwoC a b c d != 0) = false := by simp [h0]
    clear h0
    go_enter Try.func25, Try.ntmps25
    go_wp2_with (first | (go_at_call 70; refine (l05Two_any _ _ _ _ _).mono ?_; rintro e wn ⟨rfl, hb⟩; (first | have K := k3_first hb | have K := k3_next K hb); obtain ⟨c0, c1⟩ := lies_pair K.2.1; obtain ⟨d0, d1⟩ := lies_pair K.2.2.1; obtain ⟨e0, e1⟩ := lies_pair K.2.2.2; have ef0 := lies_frozen K.2.2.2 0; have ef1 := lies_frozen K.2.2.2 1) | (go_at_call 71; refine (l05Make_any _ _ _ (by omega) (by omega) (by omega) (by omega) (by omega)).mono ?_; rintro e wn ⟨rfl, hb⟩; (first | have K := k3_first hb | have K := k3_next K hb); obtain ⟨c0, c1⟩ := lies_pair K.2.1; obtain ⟨d0, d1⟩ := lies_pair K.2.2.1; obtain ⟨e0, e1⟩ := lies_pair K.2.2.2; have ef0 := lies_frozen K.2.2.2 0; have ef1 := lies_frozen K.2.2.2 1))
    refine bodyPost_ret (v := .tuple #[.agg (A2 (rresQ (rlN (a * c) (b * d)) (rlD (a * c) (b * d)))), .int .i64 (rlimC (rlN (a * c) (b * d)) (rlD (a * c) (b * d)))]) (by simp [results, Try.results25, go_sem, e0, e1]) rfl ?_
    exact ⟨rfl, below_set2 K.1 (by omega)⟩

  · rw [show mulRQ a b c d = (0, 0) by simp [mulRQ, h0], show mulRC a b c d = rtwoC a b c d by simp [mulRC, h0]]
    have hz : (rtwoC a b c d != 0) = true := by simp [h0]
    clear h0
    go_enter Try.func25, Try.ntmps25
    go_wp2_with (first | (go_at_call 70; refine (l05Two_any _ _ _ _ _).mono ?_; rintro e wn ⟨rfl, hb⟩; (first | have K := k3_first hb | have K := k3_next K hb); obtain ⟨c0, c1⟩ := lies_pair K.2.1; obtain ⟨d0, d1⟩ := lies_pair K.2.2.1; obtain ⟨e0, e1⟩ := lies_pair K.2.2.2; have ef0 := lies_frozen K.2.2.2 0; have ef1 := lies_frozen K.2.2.2 1))
    refine bodyPost_ret (v := .tuple #[.agg (P2 0 0), .int .i64 (rtwoC a b c d)]) (by simp [results, Try.results25, go_sem, e0, e1]) rfl ?_
    exact ⟨rfl, below_set2 K.1 (by omega)⟩

end Go.Proofs.Ytmggcoacaijnjaa
