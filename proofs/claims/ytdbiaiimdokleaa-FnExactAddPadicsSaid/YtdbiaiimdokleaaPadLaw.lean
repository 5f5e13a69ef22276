/- Walks of the laws FnExactIsPadic, FnExactMakePadic, FnExactNegatePadic, FnExactInvertPadic, FnExactCutPadic, FnExactEndOf, FnExactDigitAt: true at every input. -/
import Derived.Test.YtdbiaiimdokleaaPadSpec5
import Derived.Deep.DeepCutAuto
namespace Go.Proofs.Ytdbiaiimdokleaa
open Go.RowKit
set_option linter.unusedVariables false
set_option maxRecDepth 20000
set_option linter.unusedSimpArgs false
theorem toPadic_any (p v u n : Int) (w : World) :
    Calls Try.prog 46 #[.agg (P4 p v u n)] w fun e w' => e = .returned (.agg (P4 p v u n)) ∧ Below w.heap.size w w' := by
  go_enter Try.func46, Try.ntmps46
  go_wp2
  refine bodyPost_ret (v := .agg (P4 p v u n)) (by simp [results, Try.results46, go_sem]) rfl ?_
  exact ⟨rfl, below_a3 w _ _ _⟩
theorem eqPadic_any (p v u n : Int) (w : World) :
    Calls Try.prog 47 #[.agg (P4 p v u n), .agg (P4 p v u n)] w fun e w' => e = .returned (.bool true) ∧ Below w.heap.size w w' := by
  go_enter Try.func47, Try.ntmps47
  go_wp2
  go_ret
  exact ⟨rfl, below_a2 w _ _⟩
theorem k1_alloc {w w1 : World} {a : Array Value} (h : K1 w a w1) (o : Obj) : K1 w a (w1.alloc o) := k1_next h (below_a1 w1 o)
theorem exactIsPadic_walk (p v u n : Int) (_ : (Lit.int .i64 p).wf = true) (_ : (Lit.int .i64 v).wf = true) (_ : (Lit.int .i64 u).wf = true) (_ : (Lit.int .i64 n).wf = true) (w : World) :
    Calls Try.prog 6 #[.agg (P4 p v u n)] w fun e w' => e = .returned (.bool true) ∧ Below w.heap.size w w' := by
  go_enter Try.func6, Try.ntmps6
  go_wp2_with (first | (go_at_call 46; refine (toPadic_any _ _ _ _ _).mono ?_; rintro e wn ⟨rfl, hb⟩; (first | have K := k1_first hb | have K := k1_next K hb); obtain ⟨c0, c1, c2, c3⟩ := lies_four K.2) | (go_at_call 45; refine (specIsPadic_any _ _ _ _ _).mono ?_; rintro e wn ⟨rfl, hb⟩; (first | have K := k1_first hb | have K := k1_next K hb); obtain ⟨c0, c1, c2, c3⟩ := lies_four K.2) | (go_at_call 26; refine (implIsPadic_any _ _ _ _ _).mono ?_; rintro e wn ⟨rfl, hb⟩; (first | have K := k1_first hb | have K := k1_next K hb); obtain ⟨c0, c1, c2, c3⟩ := lies_four K.2))
  go_ret
  exact ⟨rfl, K.1⟩
theorem exactEnd_walk (p v u n : Int) (_ : (Lit.int .i64 p).wf = true) (_ : (Lit.int .i64 v).wf = true) (_ : (Lit.int .i64 u).wf = true) (_ : (Lit.int .i64 n).wf = true) (w : World) :
    Calls Try.prog 14 #[.agg (P4 p v u n)] w fun e w' => e = .returned (.bool true) ∧ Below w.heap.size w w' := by
  go_enter Try.func14, Try.ntmps14
  go_wp2_with (first | (go_at_call 46; refine (toPadic_any _ _ _ _ _).mono ?_; rintro e wn ⟨rfl, hb⟩; (first | have K := k1_first hb | have K := k1_next K hb); obtain ⟨c0, c1, c2, c3⟩ := lies_four K.2) | (go_at_call 44; refine (specEnd_any _ _ _ _ _).mono ?_; rintro e wn ⟨rfl, hb⟩; (first | have K := k1_first hb | have K := k1_next K hb); obtain ⟨c0, c1, c2, c3⟩ := lies_four K.2) | (go_at_call 27; refine (implEnd_any _ _ _ _ _).mono ?_; rintro e wn ⟨rfl, hb⟩; (first | have K := k1_first hb | have K := k1_next K hb); obtain ⟨c0, c1, c2, c3⟩ := lies_four K.2))
  go_ret
  exact ⟨rfl, K.1⟩
theorem exactDigit_walk (p v u n k : Int) (_ : (Lit.int .i64 p).wf = true) (_ : (Lit.int .i64 v).wf = true) (_ : (Lit.int .i64 u).wf = true) (_ : (Lit.int .i64 n).wf = true) (_ : (Lit.int .i64 k).wf = true) (w : World) :
    Calls Try.prog 15 #[.agg (P4 p v u n), .int .i64 k] w fun e w' => e = .returned (.bool true) ∧ Below w.heap.size w w' := by
  go_enter Try.func15, Try.ntmps15
  go_wp2_with (first | (go_at_call 46; refine (toPadic_any _ _ _ _ _).mono ?_; rintro e wn ⟨rfl, hb⟩; (first | have K := k1_first hb | have K := k1_next K hb); obtain ⟨c0, c1, c2, c3⟩ := lies_four K.2) | (go_at_call 42; refine (specDigit_any _ _ _ _ _ _).mono ?_; rintro e wn ⟨rfl, hb⟩; (first | have K := k1_first hb | have K := k1_next K hb); obtain ⟨c0, c1, c2, c3⟩ := lies_four K.2) | (go_at_call 41; refine (implDigit_any _ _ _ _ _ _).mono ?_; rintro e wn ⟨rfl, hb⟩; (first | have K := k1_first hb | have K := k1_next K hb); obtain ⟨c0, c1, c2, c3⟩ := lies_four K.2))
  go_ret
  exact ⟨rfl, K.1⟩
theorem exactNeg_walk (p v u n : Int) (_ : (Lit.int .i64 p).wf = true) (_ : (Lit.int .i64 v).wf = true) (_ : (Lit.int .i64 u).wf = true) (_ : (Lit.int .i64 n).wf = true) (w : World) :
    Calls Try.prog 9 #[.agg (P4 p v u n)] w fun e w' => e = .returned (.bool true) ∧ Below w.heap.size w w' := by
  go_enter Try.func9, Try.ntmps9
  go_upto_region 1 with fail
  go_cut [3, 4] (fun s5 s6 wx => ∃ b, s5 = .pointer (some ⟨b, 0, none⟩) ∧ s6 = .int .i64 (negC p v u n) ∧ K1 w (P4 p v u n) wx ∧ Lies wx b (P4 (negQ p v u n).1 (negQ p v u n).2.1 (negQ p v u n).2.2.1 (negQ p v u n).2.2.2))
  case first =>
    go_wp2_with (first | (go_at_call 46; refine (toPadic_any _ _ _ _ _).mono ?_; rintro e wn ⟨rfl, hb⟩; (first | have K := k1_first hb | have K := k1_next K hb); obtain ⟨c0, c1, c2, c3⟩ := lies_four K.2) | (go_at_call 22; refine (specNeg_any _ _ _ _ _).mono ?_; rintro e wn ⟨rfl, hb⟩; (first | have K := k1_first hb | have K := k1_next K hb); obtain ⟨c0, c1, c2, c3⟩ := lies_four K.2))
    go_meet
    case rel => exact ⟨_, rfl, rfl, k1_alloc K _, lies_new _ _ _⟩
  case rest =>
  obtain ⟨b1, rfl, rfl, K, L⟩ := hcut
  obtain ⟨c0, c1, c2, c3⟩ := lies_four K.2
  go_upto_region 2 with fail
  go_cut [5, 6] (fun s7 s8 wx => ∃ b, s7 = .pointer (some ⟨b, 0, none⟩) ∧ s8 = .int .i64 (negC p v u n) ∧ Below w.heap.size w wx ∧ Lies wx b (P4 (negQ p v u n).1 (negQ p v u n).2.1 (negQ p v u n).2.2.1 (negQ p v u n).2.2.2) ∧ Lies wx b1 (P4 (negQ p v u n).1 (negQ p v u n).2.1 (negQ p v u n).2.2.1 (negQ p v u n).2.2.2))
  case first =>
    go_wp2_with (first | (go_at_call 46; refine (toPadic_any _ _ _ _ _).mono ?_; rintro e wn ⟨rfl, hb⟩; have K := k1_next K hb; have L := lies_next L hb; obtain ⟨c0, c1, c2, c3⟩ := lies_four K.2) | (go_at_call 21; refine (implNeg_any _ _ _ _ _).mono ?_; rintro e wn ⟨rfl, hb⟩; have K := k1_next K hb; have L := lies_next L hb))
    go_meet
    case rel => exact ⟨_, rfl, rfl, (k1_alloc K _).1, lies_new _ _ _, lies_alloc L _⟩
  case rest =>
  clear L
  obtain ⟨b2, rfl, rfl, HB, L2, L1⟩ := hcut
  obtain ⟨g0, g1, g2, g3⟩ := lies_four L1
  obtain ⟨h0, h1, h2, h3⟩ := lies_four L2
  go_wp2_with (first | (go_at_call 47; refine (eqPadic_any _ _ _ _ _).mono ?_; rintro e we ⟨rfl, hb⟩))
  go_ret
  exact ⟨rfl, HB.trans (hb.mono HB.size)⟩
theorem exactInvert_walk (p v u n : Int) (_ : (Lit.int .i64 p).wf = true) (_ : (Lit.int .i64 v).wf = true) (_ : (Lit.int .i64 u).wf = true) (_ : (Lit.int .i64 n).wf = true) (w : World) :
    Calls Try.prog 11 #[.agg (P4 p v u n)] w fun e w' => e = .returned (.bool true) ∧ Below w.heap.size w w' := by
  go_enter Try.func11, Try.ntmps11
  go_upto_region 1 with fail
  go_cut [3, 4] (fun s5 s6 wx => ∃ b, s5 = .pointer (some ⟨b, 0, none⟩) ∧ s6 = .int .i64 (invC p v u n) ∧ K1 w (P4 p v u n) wx ∧ Lies wx b (P4 (invQ p v u n).1 (invQ p v u n).2.1 (invQ p v u n).2.2.1 (invQ p v u n).2.2.2))
  case first =>
    go_wp2_with (first | (go_at_call 46; refine (toPadic_any _ _ _ _ _).mono ?_; rintro e wn ⟨rfl, hb⟩; (first | have K := k1_first hb | have K := k1_next K hb); obtain ⟨c0, c1, c2, c3⟩ := lies_four K.2) | (go_at_call 33; refine (specInvert_any _ _ _ _ _).mono ?_; rintro e wn ⟨rfl, hb⟩; (first | have K := k1_first hb | have K := k1_next K hb); obtain ⟨c0, c1, c2, c3⟩ := lies_four K.2))
    go_meet
    case rel => exact ⟨_, rfl, rfl, k1_alloc K _, lies_new _ _ _⟩
  case rest =>
  obtain ⟨b1, rfl, rfl, K, L⟩ := hcut
  obtain ⟨c0, c1, c2, c3⟩ := lies_four K.2
  go_upto_region 2 with fail
  go_cut [5, 6] (fun s7 s8 wx => ∃ b, s7 = .pointer (some ⟨b, 0, none⟩) ∧ s8 = .int .i64 (invC p v u n) ∧ Below w.heap.size w wx ∧ Lies wx b (P4 (invQ p v u n).1 (invQ p v u n).2.1 (invQ p v u n).2.2.1 (invQ p v u n).2.2.2) ∧ Lies wx b1 (P4 (invQ p v u n).1 (invQ p v u n).2.1 (invQ p v u n).2.2.1 (invQ p v u n).2.2.2))
  case first =>
    go_wp2_with (first | (go_at_call 46; refine (toPadic_any _ _ _ _ _).mono ?_; rintro e wn ⟨rfl, hb⟩; have K := k1_next K hb; have L := lies_next L hb; obtain ⟨c0, c1, c2, c3⟩ := lies_four K.2) | (go_at_call 32; refine (implInvert_any _ _ _ _ _).mono ?_; rintro e wn ⟨rfl, hb⟩; have K := k1_next K hb; have L := lies_next L hb))
    go_meet
    case rel => exact ⟨_, rfl, rfl, (k1_alloc K _).1, lies_new _ _ _, lies_alloc L _⟩
  case rest =>
  clear L
  obtain ⟨b2, rfl, rfl, HB, L2, L1⟩ := hcut
  obtain ⟨g0, g1, g2, g3⟩ := lies_four L1
  obtain ⟨h0, h1, h2, h3⟩ := lies_four L2
  go_wp2_with (first | (go_at_call 47; refine (eqPadic_any _ _ _ _ _).mono ?_; rintro e we ⟨rfl, hb⟩))
  go_ret
  exact ⟨rfl, HB.trans (hb.mono HB.size)⟩
theorem exactCut_walk (p v u n k : Int) (_ : (Lit.int .i64 p).wf = true) (_ : (Lit.int .i64 v).wf = true) (_ : (Lit.int .i64 u).wf = true) (_ : (Lit.int .i64 n).wf = true) (_ : (Lit.int .i64 k).wf = true) (w : World) :
    Calls Try.prog 12 #[.agg (P4 p v u n), .int .i64 k] w fun e w' => e = .returned (.bool true) ∧ Below w.heap.size w w' := by
  go_enter Try.func12, Try.ntmps12
  go_upto_region 1 with fail
  go_cut [5, 6] (fun s5 s6 wx => ∃ b, s5 = .pointer (some ⟨b, 0, none⟩) ∧ s6 = .int .i64 (cutC p v u n k) ∧ K1 w (P4 p v u n) wx ∧ Lies wx b (P4 (cutQ p v u n k).1 (cutQ p v u n k).2.1 (cutQ p v u n k).2.2.1 (cutQ p v u n k).2.2.2))
  case first =>
    go_wp2_with (first | (go_at_call 46; refine (toPadic_any _ _ _ _ _).mono ?_; rintro e wn ⟨rfl, hb⟩; (first | have K := k1_first hb | have K := k1_next K hb); obtain ⟨c0, c1, c2, c3⟩ := lies_four K.2) | (go_at_call 36; refine (specCut_any _ _ _ _ _ _).mono ?_; rintro e wn ⟨rfl, hb⟩; (first | have K := k1_first hb | have K := k1_next K hb); obtain ⟨c0, c1, c2, c3⟩ := lies_four K.2))
    go_meet
    case rel => exact ⟨_, rfl, rfl, k1_alloc K _, lies_new _ _ _⟩
  case rest =>
  obtain ⟨b1, rfl, rfl, K, L⟩ := hcut
  obtain ⟨c0, c1, c2, c3⟩ := lies_four K.2
  go_upto_region 2 with fail
  go_cut [7, 8] (fun s7 s8 wx => ∃ b, s7 = .pointer (some ⟨b, 0, none⟩) ∧ s8 = .int .i64 (cutC p v u n k) ∧ Below w.heap.size w wx ∧ Lies wx b (P4 (cutQ p v u n k).1 (cutQ p v u n k).2.1 (cutQ p v u n k).2.2.1 (cutQ p v u n k).2.2.2) ∧ Lies wx b1 (P4 (cutQ p v u n k).1 (cutQ p v u n k).2.1 (cutQ p v u n k).2.2.1 (cutQ p v u n k).2.2.2))
  case first =>
    go_wp2_with (first | (go_at_call 46; refine (toPadic_any _ _ _ _ _).mono ?_; rintro e wn ⟨rfl, hb⟩; have K := k1_next K hb; have L := lies_next L hb; obtain ⟨c0, c1, c2, c3⟩ := lies_four K.2) | (go_at_call 35; refine (implCut_any _ _ _ _ _ _).mono ?_; rintro e wn ⟨rfl, hb⟩; have K := k1_next K hb; have L := lies_next L hb))
    go_meet
    case rel => exact ⟨_, rfl, rfl, (k1_alloc K _).1, lies_new _ _ _, lies_alloc L _⟩
  case rest =>
  clear L
  obtain ⟨b2, rfl, rfl, HB, L2, L1⟩ := hcut
  obtain ⟨g0, g1, g2, g3⟩ := lies_four L1
  obtain ⟨h0, h1, h2, h3⟩ := lies_four L2
  go_wp2_with (first | (go_at_call 47; refine (eqPadic_any _ _ _ _ _).mono ?_; rintro e we ⟨rfl, hb⟩))
  go_ret
  exact ⟨rfl, HB.trans (hb.mono HB.size)⟩
theorem exactMake_walk (p m k : Int) (_ : (Lit.int .i64 p).wf = true) (_ : (Lit.int .i64 m).wf = true) (_ : (Lit.int .i64 k).wf = true) (w : World) :
    Calls Try.prog 7 #[.int .i64 p, .int .i64 m, .int .i64 k] w fun e w' => e = .returned (.bool true) ∧ Below w.heap.size w w' := by
  go_enter Try.func7, Try.ntmps7
  go_upto_region 1 with fail
  go_cut [7, 8] (fun s5 s6 wx => ∃ b, s5 = .pointer (some ⟨b, 0, none⟩) ∧ s6 = .int .i64 (madeC p m k) ∧ Below w.heap.size w wx ∧ Lies wx b (P4 (madeQ p m k).1 (madeQ p m k).2.1 (madeQ p m k).2.2.1 (madeQ p m k).2.2.2))
  case first =>
    go_wp2_with (first | (go_at_call 39; refine (specMake_any _ _ _ _).mono ?_; rintro e wn ⟨rfl, hb⟩))
    go_meet
    case rel => exact ⟨_, rfl, rfl, hb.trans ((below_a1 _ _).mono hb.size), lies_new _ _ _⟩
  case rest =>
  obtain ⟨b1, rfl, rfl, K, L⟩ := hcut
  go_upto_region 2 with fail
  go_cut [9, 10] (fun s7 s8 wx => ∃ b, s7 = .pointer (some ⟨b, 0, none⟩) ∧ s8 = .int .i64 (madeC p m k) ∧ Below w.heap.size w wx ∧ Lies wx b (P4 (madeQ p m k).1 (madeQ p m k).2.1 (madeQ p m k).2.2.1 (madeQ p m k).2.2.2) ∧ Lies wx b1 (P4 (madeQ p m k).1 (madeQ p m k).2.1 (madeQ p m k).2.2.1 (madeQ p m k).2.2.2))
  case first =>
    go_wp2_with (first | (go_at_call 38; refine (implMake_any _ _ _ _).mono ?_; rintro e wn ⟨rfl, hb⟩; have L := lies_next L hb; have K := K.trans (hb.mono K.size)))
    go_meet
    case rel => exact ⟨_, rfl, rfl, K.trans ((below_a1 _ _).mono K.size), lies_new _ _ _, lies_alloc L _⟩
  case rest =>
  clear L
  obtain ⟨b2, rfl, rfl, HB, L2, L1⟩ := hcut
  obtain ⟨g0, g1, g2, g3⟩ := lies_four L1
  obtain ⟨h0, h1, h2, h3⟩ := lies_four L2
  go_wp2_with (first | (go_at_call 47; refine (eqPadic_any _ _ _ _ _).mono ?_; rintro e we ⟨rfl, hb⟩))
  go_ret
  exact ⟨rfl, HB.trans (hb.mono HB.size)⟩
end Go.Proofs.Ytdbiaiimdokleaa
