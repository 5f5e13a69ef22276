/- Contracts of the walk: chapter 5's lowest terms and results in impl, and spec's l05Make. -/
import Derived.Test.YtgckamlibbjgcaaRatImpl
namespace Go.Proofs.Ytgckamlibbjgcaa
open Go.RowKit
set_option linter.unusedVariables false
set_option linter.unusedSimpArgs false
set_option maxRecDepth 20000
theorem below_set2 {w w1 : World} {b : Nat} {x0 x1 : Value} (h : Below w.heap.size w w1) (hb : w.heap.size ≤ b) :
    Below w.heap.size w ((w1.setCell ⟨b, 0, none⟩ x0).setCell ⟨b, 1, none⟩ x1) := (h.setCell hb _).setCell hb _
/-- what the two divisions need -/
theorem quo_facts {n d G : Int} (hd : d ≠ 0) (hG : rlG n d = G) (n0 : -4000000000000000000 ≤ n) (n1 : n ≤ 4000000000000000000) (d0 : -4000000000000000000 ≤ d) (d1 : d ≤ 4000000000000000000) :
    ¬ G = 0 ∧ (G == 0) = false ∧ n.tdiv G = rlN n d ∧ d.tdiv G = rlD n d ∧ IntKind.i64.wrap (rlN n d) = rlN n d ∧ IntKind.i64.wrap (rlD n d) = rlD n d := by
  subst hG
  have h := rlG_ne (n := n) hd
  obtain ⟨b1, b2⟩ := low_bd n d
  exact ⟨h, by simpa using h, rfl, rfl, IntWalk.i64_in _ (by omega), IntWalk.i64_in _ (by omega)⟩
set_option maxHeartbeats 1000000 in
theorem lowest_any (n d : Int) (w : World) (hd : d ≠ 0) (n0 : -4000000000000000000 ≤ n) (n1 : n ≤ 4000000000000000000) (d0 : -4000000000000000000 ≤ d) (d1 : d ≤ 4000000000000000000) :
    Calls Try.prog 132 #[.int .i64 n, .int .i64 d] w fun e w' => e = .returned (.agg (P2 (rlN n d) (rlD n d))) ∧ Below w.heap.size w w' := by
  obtain ⟨G, hG⟩ : ∃ G, rlG n d = G := ⟨_, rfl⟩
  have HQ := Lib.hid (quo_facts hd hG n0 n1 d0 d1)
  have g0 := gcd_ge1 (n := n) hd
  have g1 := gcd_le (n := n) hd d0 d1
  by_cases hs : d < 0
  · have HG := Lib.hid (show -(Int.gcd n d : Int) = G by rw [← hG, rlG, if_pos hs])
    clear hG
    go_enter Try.func132, Try.ntmps132
    go_wp2_with (go_at_call 128; refine (gdW_any _ _ _ (by omega) (by omega) (by omega) (by omega)).mono ?_; rintro e w' ⟨rfl, nd, rfl⟩)
    rw [HG.out]
    clear g0 g1 HG hd
    obtain ⟨q0, q1, q2, q3, q4, q5⟩ := HQ.out
    clear n0 n1 d0 d1 hs HQ
    go_region
    go_wp2
    refine bodyPost_ret (v := .agg (P2 (rlN n d) (rlD n d))) (by simp [results, Try.results132, go_sem]) rfl ?_
    exact ⟨rfl, below_set2 (below_drewN (below_a1 w _) _) (by omega)⟩
  · have HG := Lib.hid (show (Int.gcd n d : Int) = G by rw [← hG, rlG, if_neg hs])
    clear hG
    go_enter Try.func132, Try.ntmps132
    go_wp2_with (go_at_call 128; refine (gdW_any _ _ _ (by omega) (by omega) (by omega) (by omega)).mono ?_; rintro e w' ⟨rfl, nd, rfl⟩)
    rw [HG.out]
    clear g0 g1 HG hd
    obtain ⟨q0, q1, q2, q3, q4, q5⟩ := HQ.out
    clear n0 n1 d0 d1 hs HQ
    go_region
    go_wp2
    refine bodyPost_ret (v := .agg (P2 (rlN n d) (rlD n d))) (by simp [results, Try.results132, go_sem]) rfl ?_
    exact ⟨rfl, below_set2 (below_drewN (below_a1 w _) _) (by omega)⟩
theorem ratResult_any (n d : Int) (w : World) :
    Calls Try.prog 100 #[.agg (P2 n d)] w fun e w' => e = .returned (.tuple #[.agg (A2 (rresQ n d)), .int .i64 (rlimC n d)]) ∧ Below w.heap.size w w' := by
  cases hx : isRatB n d
  · rw [show rresQ n d = (0, 0) by simp [rresQ, hx], show rlimC n d = 3 by simp [rlimC, hx]]
    go_enter Try.func100, Try.ntmps100
    go_wp2_with (first | (go_at_call 95; refine (ratValid_any _ _ _).mono ?_; rintro e wn ⟨rfl, hb⟩; (first | have K := k2_first hb | have K := k2_next K hb); obtain ⟨c0, c1⟩ := lies_pair K.2.1; obtain ⟨d0, d1⟩ := lies_pair K.2.2; have df0 := lies_frozen K.2.2 0; have df1 := lies_frozen K.2.2 1))
    refine bodyPost_ret (v := .tuple #[.agg (P2 0 0), .int .i64 3]) (by simp [results, Try.results100, go_sem, d0, d1]) rfl ?_
    exact ⟨rfl, below_set2 K.1 (by omega)⟩

  · rw [show rresQ n d = (n, d) by simp [rresQ, hx], show rlimC n d = 0 by simp [rlimC, hx]]
    go_enter Try.func100, Try.ntmps100
    go_wp2_with (first | (go_at_call 95; refine (ratValid_any _ _ _).mono ?_; rintro e wn ⟨rfl, hb⟩; (first | have K := k2_first hb | have K := k2_next K hb); obtain ⟨c0, c1⟩ := lies_pair K.2.1; obtain ⟨d0, d1⟩ := lies_pair K.2.2; have df0 := lies_frozen K.2.2 0; have df1 := lies_frozen K.2.2 1))
    refine bodyPost_ret (v := .tuple #[.agg (P2 n d), .int .i64 0]) (by simp [results, Try.results100, go_sem, d0, d1]) rfl ?_
    exact ⟨rfl, below_set2 K.1 (by omega)⟩

theorem k2_drewnew (w : World) (a b : Array Value) (T T' : TypeId) (k : Nat) : K2 w a b (((w.alloc (.cells a T)).drewN k).alloc (.cells b T')) :=
  ⟨(below_drewN (below_a1 w _) k).alloc (by simp) _, lies_alloc (lies_drewN lies_one k) _, by have := lies_new ((w.alloc (.cells a T)).drewN k) b T'; simpa using this⟩
set_option maxHeartbeats 1000000 in
theorem l05Make_any (n d : Int) (w : World) (hd : d ≠ 0) (n0 : -4000000000000000000 ≤ n) (n1 : n ≤ 4000000000000000000) (d0 : -4000000000000000000 ≤ d) (d1 : d ≤ 4000000000000000000) :
    Calls Try.prog 137 #[.int .i64 n, .int .i64 d] w fun e w' => e = .returned (.tuple #[.agg (A2 (rresQ (rlN n d) (rlD n d))), .int .i64 (rlimC (rlN n d) (rlD n d))]) ∧ Below w.heap.size w w' := by
  obtain ⟨G, hG⟩ : ∃ G, rlG n d = G := ⟨_, rfl⟩
  have HQ := Lib.hid (quo_facts hd hG n0 n1 d0 d1)
  have g0 := gcd_ge1 (n := n) hd
  have g1 := gcd_le (n := n) hd d0 d1
  cases hx : isRatB (rlN n d) (rlD n d)
  · rw [show rresQ (rlN n d) (rlD n d) = (0, 0) by simp [rresQ, hx], show rlimC (rlN n d) (rlD n d) = 3 by simp [rlimC, hx]]
    by_cases hs : d < 0
    · have HG := Lib.hid (show -(Int.gcd n d : Int) = G by rw [← hG, rlG, if_pos hs])
      clear hG
      go_enter Try.func137, Try.ntmps137
      go_wp2_with (go_at_call 94; refine (l01GcdW_any _ _ _ (by omega) (by omega) (by omega) (by omega)).mono ?_; rintro e w' ⟨rfl, nd, rfl⟩)
      rw [HG.out]
      clear g0 g1 HG hd
      obtain ⟨q0, q1, q2, q3, q4, q5⟩ := HQ.out
      clear n0 n1 d0 d1 hs HQ
      go_region
      clear q0 q1 q2 q3 q4 q5
      go_wp2_with (go_at_call 104; refine (specIsRational_any _ _ _).mono ?_; rintro e wn ⟨rfl, hb⟩; have K := k2_next (k2_drewnew w (P2 0 0) (P2 (rlN n d) (rlD n d)) _ _ _) hb; obtain ⟨c0, c1⟩ := lies_pair K.2.1; obtain ⟨d0, d1⟩ := lies_pair K.2.2; have cf0 := lies_frozen K.2.1 0; have cf1 := lies_frozen K.2.1 1)
      refine bodyPost_ret (v := .tuple #[.agg (P2 0 0), .int .i64 3]) (by simp [results, Try.results137, go_sem, c0, c1, d0, d1]) rfl ?_
      exact ⟨rfl, below_set2 K.1 (by omega)⟩
    · have HG := Lib.hid (show (Int.gcd n d : Int) = G by rw [← hG, rlG, if_neg hs])
      clear hG
      go_enter Try.func137, Try.ntmps137
      go_wp2_with (go_at_call 94; refine (l01GcdW_any _ _ _ (by omega) (by omega) (by omega) (by omega)).mono ?_; rintro e w' ⟨rfl, nd, rfl⟩)
      rw [HG.out]
      clear g0 g1 HG hd
      obtain ⟨q0, q1, q2, q3, q4, q5⟩ := HQ.out
      clear n0 n1 d0 d1 hs HQ
      go_region
      clear q0 q1 q2 q3 q4 q5
      go_wp2_with (go_at_call 104; refine (specIsRational_any _ _ _).mono ?_; rintro e wn ⟨rfl, hb⟩; have K := k2_next (k2_drewnew w (P2 0 0) (P2 (rlN n d) (rlD n d)) _ _ _) hb; obtain ⟨c0, c1⟩ := lies_pair K.2.1; obtain ⟨d0, d1⟩ := lies_pair K.2.2; have cf0 := lies_frozen K.2.1 0; have cf1 := lies_frozen K.2.1 1)
      refine bodyPost_ret (v := .tuple #[.agg (P2 0 0), .int .i64 3]) (by simp [results, Try.results137, go_sem, c0, c1, d0, d1]) rfl ?_
      exact ⟨rfl, below_set2 K.1 (by omega)⟩
  · rw [show rresQ (rlN n d) (rlD n d) = (rlN n d, rlD n d) by simp [rresQ, hx], show rlimC (rlN n d) (rlD n d) = 0 by simp [rlimC, hx]]
    by_cases hs : d < 0
    · have HG := Lib.hid (show -(Int.gcd n d : Int) = G by rw [← hG, rlG, if_pos hs])
      clear hG
      go_enter Try.func137, Try.ntmps137
      go_wp2_with (go_at_call 94; refine (l01GcdW_any _ _ _ (by omega) (by omega) (by omega) (by omega)).mono ?_; rintro e w' ⟨rfl, nd, rfl⟩)
      rw [HG.out]
      clear g0 g1 HG hd
      obtain ⟨q0, q1, q2, q3, q4, q5⟩ := HQ.out
      clear n0 n1 d0 d1 hs HQ
      go_region
      clear q0 q1 q2 q3 q4 q5
      go_wp2_with (go_at_call 104; refine (specIsRational_any _ _ _).mono ?_; rintro e wn ⟨rfl, hb⟩; have K := k2_next (k2_drewnew w (P2 0 0) (P2 (rlN n d) (rlD n d)) _ _ _) hb; obtain ⟨c0, c1⟩ := lies_pair K.2.1; obtain ⟨d0, d1⟩ := lies_pair K.2.2; have cf0 := lies_frozen K.2.1 0; have cf1 := lies_frozen K.2.1 1)
      refine bodyPost_ret (v := .tuple #[.agg (P2 (rlN n d) (rlD n d)), .int .i64 0]) (by simp [results, Try.results137, go_sem, c0, c1, d0, d1]) rfl ?_
      exact ⟨rfl, below_set2 K.1 (by omega)⟩
    · have HG := Lib.hid (show (Int.gcd n d : Int) = G by rw [← hG, rlG, if_neg hs])
      clear hG
      go_enter Try.func137, Try.ntmps137
      go_wp2_with (go_at_call 94; refine (l01GcdW_any _ _ _ (by omega) (by omega) (by omega) (by omega)).mono ?_; rintro e w' ⟨rfl, nd, rfl⟩)
      rw [HG.out]
      clear g0 g1 HG hd
      obtain ⟨q0, q1, q2, q3, q4, q5⟩ := HQ.out
      clear n0 n1 d0 d1 hs HQ
      go_region
      clear q0 q1 q2 q3 q4 q5
      go_wp2_with (go_at_call 104; refine (specIsRational_any _ _ _).mono ?_; rintro e wn ⟨rfl, hb⟩; have K := k2_next (k2_drewnew w (P2 0 0) (P2 (rlN n d) (rlD n d)) _ _ _) hb; obtain ⟨c0, c1⟩ := lies_pair K.2.1; obtain ⟨d0, d1⟩ := lies_pair K.2.2; have cf0 := lies_frozen K.2.1 0; have cf1 := lies_frozen K.2.1 1)
      refine bodyPost_ret (v := .tuple #[.agg (P2 (rlN n d) (rlD n d)), .int .i64 0]) (by simp [results, Try.results137, go_sem, c0, c1, d0, d1]) rfl ?_
      exact ⟨rfl, below_set2 K.1 (by omega)⟩
end Go.Proofs.Ytgckamlibbjgcaa
