/- Contracts of the walk: chapter 5's made numbers and valuations, in impl and in spec, for every argument. -/
import Derived.Test.YtmggcoacaijnjaaRatImpl3
import Derived.Test.YtmggcoacaijnjaaRatVal
namespace Go.Proofs.Ytmggcoacaijnjaa
open Go.RowKit
set_option linter.unusedVariables false
set_option linter.unusedSimpArgs false
set_option maxRecDepth 20000
theorem implMakeR_any (n d : Int) (w : World) :
    Calls Try.prog 30 #[.int .i64 n, .int .i64 d] w fun e w' => e = .returned (.tuple #[.agg (A2 (makeRQ n d)), .int .i64 (makeRC n d)]) ∧ Below w.heap.size w w' := by
  cases hn : valueB n
  · rw [show makeRC n d = 2 by simp [makeRC, hn], show makeRQ n d = (0, 0) by simp [makeRQ, makeRC, hn]]
    go_enter Try.func30, Try.ntmps30
    go_wp2_with (first | (go_at_call 75; refine (isValue_any _ _).mono ?_; rintro e w' ⟨rfl, rfl⟩))
    refine bodyPost_ret (v := .tuple #[.agg (P2 0 0), .int .i64 2]) (by simp [results, Try.results30, go_sem]) rfl ?_
    exact ⟨rfl, by first | exact below_a1 w _ | exact below_set2 (below_a1 w _) (by omega)⟩

  · cases hd : valueB d
    · rw [show makeRC n d = 2 by simp [makeRC, hd], show makeRQ n d = (0, 0) by simp [makeRQ, makeRC, hd]]
      go_enter Try.func30, Try.ntmps30
      go_wp2_with (first | (go_at_call 75; refine (isValue_any _ _).mono ?_; rintro e w' ⟨rfl, rfl⟩))
      refine bodyPost_ret (v := .tuple #[.agg (P2 0 0), .int .i64 2]) (by simp [results, Try.results30, go_sem]) rfl ?_
      exact ⟨rfl, by first | exact below_a1 w _ | exact below_set2 (below_a1 w _) (by omega)⟩

    · by_cases h0 : d = 0
      · have h5 : makeRC n d = 5 := by unfold makeRC; rw [if_pos (by rw [hn, hd]; rfl), if_pos h0]
        rw [show makeRQ n d = (0, 0) by unfold makeRQ; rw [if_neg (by omega)], h5]
        have hz : (d == 0) = true := by simp [h0]
        clear h0 h5
        go_enter Try.func30, Try.ntmps30
        go_wp2_with (first | (go_at_call 75; refine (isValue_any _ _).mono ?_; rintro e w' ⟨rfl, rfl⟩))
        refine bodyPost_ret (v := .tuple #[.agg (P2 0 0), .int .i64 5]) (by simp [results, Try.results30, go_sem]) rfl ?_
        exact ⟨rfl, by first | exact below_a1 w _ | exact below_set2 (below_a1 w _) (by omega)⟩

      · have hm : makeRC n d = 0 := by simp [makeRC, hn, hd, h0]
        obtain ⟨bn1, bn2, bd1, bd2, _, hv⟩ := makeR_zero hm
        rw [hm, show makeRQ n d = (rlN n d, rlD n d) by simp [makeRQ, hm]]
        have hz : (d == 0) = false := by simpa using h0
        clear hm
        clear hv
        go_enter Try.func30, Try.ntmps30
        go_wp2_with (first | (go_at_call 75; refine (isValue_any _ _).mono ?_; rintro e w' ⟨rfl, rfl⟩) | (go_at_call 68; refine (lowest_any _ _ _ h0 (by omega) (by omega) (by omega) (by omega)).mono ?_; rintro e wn ⟨rfl, hb⟩; (first | have K := k1_first hb | have K := k1_next K hb); obtain ⟨c0, c1⟩ := lies_pair K.2; have cf0 := lies_frozen K.2 0; have cf1 := lies_frozen K.2 1))
        refine bodyPost_ret (v := .tuple #[.agg (P2 (rlN n d) (rlD n d)), .int .i64 0]) (by simp [results, Try.results30, go_sem, c0, c1]) rfl ?_
        exact ⟨rfl, below_set2 K.1 (by omega)⟩

theorem specMakeR_any (n d : Int) (w : World) :
    Calls Try.prog 31 #[.int .i64 n, .int .i64 d] w fun e w' => e = .returned (.tuple #[.agg (A2 (makeRQ n d)), .int .i64 (makeRC n d)]) ∧ Below w.heap.size w w' := by
  cases hn : valueB n
  · rw [show makeRC n d = 2 by simp [makeRC, hn], show makeRQ n d = (0, 0) by simp [makeRQ, makeRC, hn]]
    go_enter Try.func31, Try.ntmps31
    go_wp2_with (first | (go_at_call 76; refine (l01Is_any _ _).mono ?_; rintro e w' ⟨rfl, rfl⟩))
    refine bodyPost_ret (v := .tuple #[.agg (P2 0 0), .int .i64 2]) (by simp [results, Try.results31, go_sem]) rfl ?_
    exact ⟨rfl, by first | exact below_a1 w _ | exact below_set2 (below_a1 w _) (by omega)⟩

  · cases hd : valueB d
    · rw [show makeRC n d = 2 by simp [makeRC, hd], show makeRQ n d = (0, 0) by simp [makeRQ, makeRC, hd]]
      go_enter Try.func31, Try.ntmps31
      go_wp2_with (first | (go_at_call 76; refine (l01Is_any _ _).mono ?_; rintro e w' ⟨rfl, rfl⟩))
      refine bodyPost_ret (v := .tuple #[.agg (P2 0 0), .int .i64 2]) (by simp [results, Try.results31, go_sem]) rfl ?_
      exact ⟨rfl, by first | exact below_a1 w _ | exact below_set2 (below_a1 w _) (by omega)⟩

    · by_cases h0 : d = 0
      · have h5 : makeRC n d = 5 := by unfold makeRC; rw [if_pos (by rw [hn, hd]; rfl), if_pos h0]
        rw [show makeRQ n d = (0, 0) by unfold makeRQ; rw [if_neg (by omega)], h5]
        have hz : (d == 0) = true := by simp [h0]
        clear h0 h5
        go_enter Try.func31, Try.ntmps31
        go_wp2_with (first | (go_at_call 76; refine (l01Is_any _ _).mono ?_; rintro e w' ⟨rfl, rfl⟩))
        refine bodyPost_ret (v := .tuple #[.agg (P2 0 0), .int .i64 5]) (by simp [results, Try.results31, go_sem]) rfl ?_
        exact ⟨rfl, by first | exact below_a1 w _ | exact below_set2 (below_a1 w _) (by omega)⟩

      · have hm : makeRC n d = 0 := by simp [makeRC, hn, hd, h0]
        obtain ⟨bn1, bn2, bd1, bd2, _, hv⟩ := makeR_zero hm
        rw [hm, show makeRQ n d = (rlN n d, rlD n d) by simp [makeRQ, hm]]
        have hz : (d == 0) = false := by simpa using h0
        clear hm
        have HV := Lib.hid (show rresQ (rlN n d) (rlD n d) = (rlN n d, rlD n d) ∧ rlimC (rlN n d) (rlD n d) = 0 by simp [rresQ, rlimC, hv])
        clear hv
        go_enter Try.func31, Try.ntmps31
        go_wp2_with (first | (go_at_call 76; refine (l01Is_any _ _).mono ?_; rintro e w' ⟨rfl, rfl⟩) | (go_at_call 71; refine (l05Make_any _ _ _ h0 (by omega) (by omega) (by omega) (by omega)).mono ?_; rintro e wn ⟨rfl, hb⟩; (first | have K := k1_first hb | have K := k1_next K hb); obtain ⟨c0, c1⟩ := lies_pair K.2; have cf0 := lies_frozen K.2 0; have cf1 := lies_frozen K.2 1))
        refine bodyPost_ret (v := .tuple #[.agg (A2 (rresQ (rlN n d) (rlD n d))), .int .i64 (rlimC (rlN n d) (rlD n d))]) (by simp [results, Try.results31, go_sem, c0, c1]) rfl ?_
        exact ⟨by rw [HV.out.1, HV.out.2], below_set2 K.1 (by omega)⟩

theorem ratVal_any (n d p : Int) (w : World) (hp : 2 ≤ p) (hn : n ≠ 0) (hd : d ≠ 0) (n0 : -1000000000000 ≤ n) (n1 : n ≤ 1000000000000) (d0 : -1000000000000 ≤ d) (d1 : d ≤ 1000000000000) :
    Calls Try.prog 80 #[.agg (P2 n d), .int .i64 p] w fun e w' => e = .returned (.int .i64 (valCount n p - valCount d p)) ∧ Below w.heap.size w w' := by
  obtain ⟨a0, a1⟩ := val_bd hp hn n0 n1
  obtain ⟨b0, b1⟩ := val_bd hp hd d0 d1
  go_enter Try.func80, Try.ntmps80
  go_wp2_with (go_at_call 98; refine (divideOut_any _ _ _ hp (by assumption) (by omega)).mono ?_; rintro e w' ⟨rfl, rfl⟩)
  go_ret
  exact ⟨rfl, below_a1 w _⟩
theorem implRV_any (n d p : Int) (w : World) :
    Calls Try.prog 33 #[.agg (P2 n d), .int .i64 p] w fun e w' => e = .returned (.tuple #[.int .i64 (rvalV n d p), .int .i64 (rvalC n d p)]) ∧ Below w.heap.size w w' := by
  cases hx : isRatB n d
  · rw [show rvalC n d p = 1 by simp [rvalC, hx], show rvalV n d p = 0 by simp [rvalV, rvalC, hx]]
    go_enter Try.func33, Try.ntmps33
    go_wp2_with (first | (go_at_call 59; refine (ratValid_any _ _ _).mono ?_; rintro e wn ⟨rfl, hb⟩; (first | have K := k1_first hb | have K := k1_next K hb); obtain ⟨c0, c1⟩ := lies_pair K.2) | (go_at_call 79; refine (basePrime_any _ _).mono ?_; rintro e w' ⟨rfl, rfl⟩) | (go_at_call 61; refine (ratZero_any _ _ _).mono ?_; rintro e wn ⟨rfl, hb⟩; (first | have K := k1_first hb | have K := k1_next K hb); obtain ⟨c0, c1⟩ := lies_pair K.2) | (go_at_call 80; refine (ratVal_any _ _ _ _ (by assumption) H0.out H1.out (by omega) (by omega) (by omega) (by omega)).mono ?_; rintro e wn ⟨rfl, hb⟩; (first | have K := k1_first hb | have K := k1_next K hb); obtain ⟨c0, c1⟩ := lies_pair K.2))
    go_ret2
    exact ⟨rfl, K.1⟩
  · cases hs : smallB p
    · rw [show rvalC n d p = 1 by simp [rvalC, hs], show rvalV n d p = 0 by simp [rvalV, rvalC, hs]]
      go_enter Try.func33, Try.ntmps33
      go_wp2_with (first | (go_at_call 59; refine (ratValid_any _ _ _).mono ?_; rintro e wn ⟨rfl, hb⟩; (first | have K := k1_first hb | have K := k1_next K hb); obtain ⟨c0, c1⟩ := lies_pair K.2) | (go_at_call 79; refine (basePrime_any _ _).mono ?_; rintro e w' ⟨rfl, rfl⟩) | (go_at_call 61; refine (ratZero_any _ _ _).mono ?_; rintro e wn ⟨rfl, hb⟩; (first | have K := k1_first hb | have K := k1_next K hb); obtain ⟨c0, c1⟩ := lies_pair K.2) | (go_at_call 80; refine (ratVal_any _ _ _ _ (by assumption) H0.out H1.out (by omega) (by omega) (by omega) (by omega)).mono ?_; rintro e wn ⟨rfl, hb⟩; (first | have K := k1_first hb | have K := k1_next K hb); obtain ⟨c0, c1⟩ := lies_pair K.2))
      go_ret2
      exact ⟨rfl, K.1⟩
    · by_cases h0 : n = 0
      · have hz : (n == 0) = true := by simp [h0]
        have h5 : rvalC n d p = 5 := by unfold rvalC; rw [if_pos (by rw [hx, hs]; rfl), if_pos h0]
        rw [show rvalV n d p = 0 by unfold rvalV; rw [if_neg (by omega)], h5]
        clear h0 h5
        go_enter Try.func33, Try.ntmps33
        go_wp2_with (first | (go_at_call 59; refine (ratValid_any _ _ _).mono ?_; rintro e wn ⟨rfl, hb⟩; (first | have K := k1_first hb | have K := k1_next K hb); obtain ⟨c0, c1⟩ := lies_pair K.2) | (go_at_call 79; refine (basePrime_any _ _).mono ?_; rintro e w' ⟨rfl, rfl⟩) | (go_at_call 61; refine (ratZero_any _ _ _).mono ?_; rintro e wn ⟨rfl, hb⟩; (first | have K := k1_first hb | have K := k1_next K hb); obtain ⟨c0, c1⟩ := lies_pair K.2) | (go_at_call 80; refine (ratVal_any _ _ _ _ (by assumption) H0.out H1.out (by omega) (by omega) (by omega) (by omega)).mono ?_; rintro e wn ⟨rfl, hb⟩; (first | have K := k1_first hb | have K := k1_next K hb); obtain ⟨c0, c1⟩ := lies_pair K.2))
        go_ret2
        exact ⟨rfl, K.1⟩
      · have hc : rvalC n d p = 0 := by simp [rvalC, hx, hs, h0]
        have hz : (n == 0) = false := by simpa using h0
        rw [hc, show rvalV n d p = valCount n p - valCount d p by simp [rvalV, hc]]
        obtain ⟨n0, n1, d0, d1, _⟩ := isRat_of hx
        have hp := (smallB_bd hs).1
        have h1 : d ≠ 0 := by omega
        obtain ⟨a0, a1⟩ := val_bd hp h0 n0 n1
        obtain ⟨b0, b1⟩ := val_bd (n := d) hp h1 (by omega) d1
        have H0 := Lib.hid h0
        have H1 := Lib.hid h1
        clear hc h0 h1
        go_enter Try.func33, Try.ntmps33
        go_wp2_with (first | (go_at_call 59; refine (ratValid_any _ _ _).mono ?_; rintro e wn ⟨rfl, hb⟩; (first | have K := k1_first hb | have K := k1_next K hb); obtain ⟨c0, c1⟩ := lies_pair K.2) | (go_at_call 79; refine (basePrime_any _ _).mono ?_; rintro e w' ⟨rfl, rfl⟩) | (go_at_call 61; refine (ratZero_any _ _ _).mono ?_; rintro e wn ⟨rfl, hb⟩; (first | have K := k1_first hb | have K := k1_next K hb); obtain ⟨c0, c1⟩ := lies_pair K.2) | (go_at_call 80; refine (ratVal_any _ _ _ _ (by assumption) H0.out H1.out (by omega) (by omega) (by omega) (by omega)).mono ?_; rintro e wn ⟨rfl, hb⟩; (first | have K := k1_first hb | have K := k1_next K hb); obtain ⟨c0, c1⟩ := lies_pair K.2))
        go_ret2
        exact ⟨rfl, by first | exact K.1 | exact below_drewN K.1 _⟩
theorem specRV_any (n d p : Int) (w : World) :
    Calls Try.prog 34 #[.agg (P2 n d), .int .i64 p] w fun e w' => e = .returned (.tuple #[.int .i64 (rvalV n d p), .int .i64 (rvalC n d p)]) ∧ Below w.heap.size w w' := by
  cases hx : isRatB n d
  · rw [show rvalC n d p = 1 by simp [rvalC, hx], show rvalV n d p = 0 by simp [rvalV, rvalC, hx]]
    go_enter Try.func34, Try.ntmps34
    go_wp2_with (first | (go_at_call 35; refine (specIsRational_any _ _ _).mono ?_; rintro e wn ⟨rfl, hb⟩; (first | have K := k1_first hb | have K := k1_next K hb); obtain ⟨c0, c1⟩ := lies_pair K.2) | (go_at_call 81; refine (l01Small_any _ _).mono ?_; rintro e w' ⟨rfl, rfl⟩))
    go_ret2
    exact ⟨rfl, K.1⟩
  · cases hs : smallB p
    · rw [show rvalC n d p = 1 by simp [rvalC, hs], show rvalV n d p = 0 by simp [rvalV, rvalC, hs]]
      go_enter Try.func34, Try.ntmps34
      go_wp2_with (first | (go_at_call 35; refine (specIsRational_any _ _ _).mono ?_; rintro e wn ⟨rfl, hb⟩; (first | have K := k1_first hb | have K := k1_next K hb); obtain ⟨c0, c1⟩ := lies_pair K.2) | (go_at_call 81; refine (l01Small_any _ _).mono ?_; rintro e w' ⟨rfl, rfl⟩))
      go_ret2
      exact ⟨rfl, K.1⟩
    · by_cases h0 : n = 0
      · have hz : (n == 0) = true := by simp [h0]
        have h5 : rvalC n d p = 5 := by unfold rvalC; rw [if_pos (by rw [hx, hs]; rfl), if_pos h0]
        rw [show rvalV n d p = 0 by unfold rvalV; rw [if_neg (by omega)], h5]
        clear h0 h5
        go_enter Try.func34, Try.ntmps34
        go_wp2_with (first | (go_at_call 35; refine (specIsRational_any _ _ _).mono ?_; rintro e wn ⟨rfl, hb⟩; (first | have K := k1_first hb | have K := k1_next K hb); obtain ⟨c0, c1⟩ := lies_pair K.2) | (go_at_call 81; refine (l01Small_any _ _).mono ?_; rintro e w' ⟨rfl, rfl⟩))
        go_ret2
        exact ⟨rfl, K.1⟩
      · have hc : rvalC n d p = 0 := by simp [rvalC, hx, hs, h0]
        have hz : (n == 0) = false := by simpa using h0
        rw [hc, show rvalV n d p = valCount n p - valCount d p by simp [rvalV, hc]]
        obtain ⟨n0, n1, d0, d1, _⟩ := isRat_of hx
        have hp := (smallB_bd hs).1
        have h1 : d ≠ 0 := by omega
        obtain ⟨a0, a1⟩ := val_bd hp h0 n0 n1
        obtain ⟨b0, b1⟩ := val_bd (n := d) hp h1 (by omega) d1
        have H0 := Lib.hid h0
        have H1 := Lib.hid h1
        clear hc h0 h1
        go_enter Try.func34, Try.ntmps34
        go_wp2_with (first | (go_at_call 35; refine (specIsRational_any _ _ _).mono ?_; rintro e wn ⟨rfl, hb⟩; (first | have K := k1_first hb | have K := k1_next K hb); obtain ⟨c0, c1⟩ := lies_pair K.2) | (go_at_call 81; refine (l01Small_any _ _).mono ?_; rintro e w' ⟨rfl, rfl⟩))
        have hw : IntKind.i64.wrap (valCount n p - valCount d p) = valCount n p - valCount d p := IntWalk.i64_in _ (by omega)
        go_quiet ((go_at_call 82; exact (l01Val_any _ _ _ hp (by first | exact H0.out | exact H1.out) (by omega)).mono fun e w' h => ⟨h.1, _, h.2.symm⟩))
        go_wp2
        go_ret2
        exact ⟨rfl, by first | exact K.1 | exact below_drewN K.1 _⟩
end Go.Proofs.Ytmggcoacaijnjaa
