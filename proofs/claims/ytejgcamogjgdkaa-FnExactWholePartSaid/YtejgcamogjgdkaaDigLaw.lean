/- Walks of the laws FnExactShiftPadic, FnExactWholePart, FnExactFractionOf, FnExactSumOfDigits: true at every input. -/
import Derived.Test.YtejgcamogjgdkaaDigSpec2
import Derived.Test.YtejgcamogjgdkaaPadLaw
import Derived.Deep.DeepCutAuto
namespace Go.Proofs.Ytejgcamogjgdkaa
open Go.RowKit
set_option linter.unusedVariables false
set_option linter.unusedSimpArgs false
theorem exactSum_walk (p v u n : Int) (_ : (Lit.int .i64 p).wf = true) (_ : (Lit.int .i64 v).wf = true) (_ : (Lit.int .i64 u).wf = true) (_ : (Lit.int .i64 n).wf = true) (w : World) :
    Calls Try.prog 9 #[.agg (P4 p v u n)] w fun e w' => e = .returned (.bool true) ∧ Below w.heap.size w w' := by
  go_enter Try.func9, Try.ntmps9
  go_wp2_with (first | (go_at_call 25; refine (toPadic_any _ _ _ _ _).mono ?_; rintro e wn ⟨rfl, hb⟩; (first | have K := k1_first hb | have K := k1_next K hb); obtain ⟨c0, c1, c2, c3⟩ := lies_four K.2) | (go_at_call 22; refine (specSum_any _ _ _ _ _).mono ?_; rintro e wn ⟨rfl, hb⟩; (first | have K := k1_first hb | have K := k1_next K hb); obtain ⟨c0, c1, c2, c3⟩ := lies_four K.2) | (go_at_call 21; refine (implSum_any _ _ _ _ _).mono ?_; rintro e wn ⟨rfl, hb⟩; (first | have K := k1_first hb | have K := k1_next K hb); obtain ⟨c0, c1, c2, c3⟩ := lies_four K.2))
  go_ret
  exact ⟨rfl, K.1⟩
theorem exactFraction_walk (p v u n : Int) (_ : (Lit.int .i64 p).wf = true) (_ : (Lit.int .i64 v).wf = true) (_ : (Lit.int .i64 u).wf = true) (_ : (Lit.int .i64 n).wf = true) (w : World) :
    Calls Try.prog 8 #[.agg (P4 p v u n)] w fun e w' => e = .returned (.bool true) ∧ Below w.heap.size w w' := by
  go_enter Try.func8, Try.ntmps8
  go_wp2_with (first | (go_at_call 25; refine (toPadic_any _ _ _ _ _).mono ?_; rintro e wn ⟨rfl, hb⟩; (first | have K := k1_first hb | have K := k1_next K hb); obtain ⟨c0, c1, c2, c3⟩ := lies_four K.2) | (go_at_call 33; refine (specFraction_any _ _ _ _ _).mono ?_; rintro e wn ⟨rfl, hb⟩; (first | have K := k1_first hb | have K := k1_next K hb); obtain ⟨c0, c1, c2, c3⟩ := lies_four K.2) | (go_at_call 34; refine (implFraction_any _ _ _ _ _).mono ?_; rintro e wn ⟨rfl, hb⟩; (first | have K := k1_first hb | have K := k1_next K hb); obtain ⟨c0, c1, c2, c3⟩ := lies_four K.2))
  go_ret
  exact ⟨rfl, K.1⟩
theorem exactShift_walk (p v u n k : Int) (_ : (Lit.int .i64 p).wf = true) (_ : (Lit.int .i64 v).wf = true) (_ : (Lit.int .i64 u).wf = true) (_ : (Lit.int .i64 n).wf = true) (_ : (Lit.int .i64 k).wf = true) (w : World) :
    Calls Try.prog 6 #[.agg (P4 p v u n), .int .i64 k] w fun e w' => e = .returned (.bool true) ∧ Below w.heap.size w w' := by
  go_enter Try.func6, Try.ntmps6
  go_upto_region 1 with fail
  go_cut [5, 6] (fun s5 s6 wx => ∃ b, s5 = .pointer (some ⟨b, 0, none⟩) ∧ s6 = .int .i64 (shiftC p v u n k) ∧ K1 w (P4 p v u n) wx ∧ Lies wx b (P4 (shiftQ p v u n k).1 (shiftQ p v u n k).2.1 (shiftQ p v u n k).2.2.1 (shiftQ p v u n k).2.2.2))
  case first =>
    go_wp2_with (first | (go_at_call 25; refine (toPadic_any _ _ _ _ _).mono ?_; rintro e wn ⟨rfl, hb⟩; (first | have K := k1_first hb | have K := k1_next K hb); obtain ⟨c0, c1, c2, c3⟩ := lies_four K.2) | (go_at_call 19; refine (specShift_any _ _ _ _ _ _).mono ?_; rintro e wn ⟨rfl, hb⟩; (first | have K := k1_first hb | have K := k1_next K hb); obtain ⟨c0, c1, c2, c3⟩ := lies_four K.2))
    go_meet
    case rel => exact ⟨_, rfl, rfl, k1_alloc K _, lies_new _ _ _⟩
  case rest =>
  obtain ⟨b1, rfl, rfl, K, L⟩ := hcut
  obtain ⟨c0, c1, c2, c3⟩ := lies_four K.2
  go_upto_region 2 with fail
  go_cut [7, 8] (fun s7 s8 wx => ∃ b, s7 = .pointer (some ⟨b, 0, none⟩) ∧ s8 = .int .i64 (shiftC p v u n k) ∧ Below w.heap.size w wx ∧ Lies wx b (P4 (shiftQ p v u n k).1 (shiftQ p v u n k).2.1 (shiftQ p v u n k).2.2.1 (shiftQ p v u n k).2.2.2) ∧ Lies wx b1 (P4 (shiftQ p v u n k).1 (shiftQ p v u n k).2.1 (shiftQ p v u n k).2.2.1 (shiftQ p v u n k).2.2.2))
  case first =>
    go_wp2_with (first | (go_at_call 25; refine (toPadic_any _ _ _ _ _).mono ?_; rintro e wn ⟨rfl, hb⟩; have K := k1_next K hb; have L := lies_next L hb; obtain ⟨c0, c1, c2, c3⟩ := lies_four K.2) | (go_at_call 18; refine (implShift_any _ _ _ _ _ _).mono ?_; rintro e wn ⟨rfl, hb⟩; have K := k1_next K hb; have L := lies_next L hb))
    go_meet
    case rel => exact ⟨_, rfl, rfl, (k1_alloc K _).1, lies_new _ _ _, lies_alloc L _⟩
  case rest =>
  clear L
  obtain ⟨b2, rfl, rfl, HB, L2, L1⟩ := hcut
  obtain ⟨g0, g1, g2, g3⟩ := lies_four L1
  obtain ⟨h0, h1, h2, h3⟩ := lies_four L2
  go_wp2_with (first | (go_at_call 30; refine (eqPadic_any _ _ _ _ _).mono ?_; rintro e we ⟨rfl, hb⟩))
  go_ret
  exact ⟨rfl, HB.trans (hb.mono HB.size)⟩
theorem exactWhole_walk (p v u n : Int) (_ : (Lit.int .i64 p).wf = true) (_ : (Lit.int .i64 v).wf = true) (_ : (Lit.int .i64 u).wf = true) (_ : (Lit.int .i64 n).wf = true) (w : World) :
    Calls Try.prog 7 #[.agg (P4 p v u n)] w fun e w' => e = .returned (.bool true) ∧ Below w.heap.size w w' := by
  go_enter Try.func7, Try.ntmps7
  go_upto_region 1 with fail
  go_cut [3, 4] (fun s5 s6 wx => ∃ b, s5 = .pointer (some ⟨b, 0, none⟩) ∧ s6 = .int .i64 (splitC p v u n) ∧ K1 w (P4 p v u n) wx ∧ Lies wx b (P4 (wholeQ p v u n).1 (wholeQ p v u n).2.1 (wholeQ p v u n).2.2.1 (wholeQ p v u n).2.2.2))
  case first =>
    go_wp2_with (first | (go_at_call 25; refine (toPadic_any _ _ _ _ _).mono ?_; rintro e wn ⟨rfl, hb⟩; (first | have K := k1_first hb | have K := k1_next K hb); obtain ⟨c0, c1, c2, c3⟩ := lies_four K.2) | (go_at_call 31; refine (specWhole_any _ _ _ _ _).mono ?_; rintro e wn ⟨rfl, hb⟩; (first | have K := k1_first hb | have K := k1_next K hb); obtain ⟨c0, c1, c2, c3⟩ := lies_four K.2))
    go_meet
    case rel => exact ⟨_, rfl, rfl, k1_alloc K _, lies_new _ _ _⟩
  case rest =>
  obtain ⟨b1, rfl, rfl, K, L⟩ := hcut
  obtain ⟨c0, c1, c2, c3⟩ := lies_four K.2
  go_upto_region 2 with fail
  go_cut [5, 6] (fun s7 s8 wx => ∃ b, s7 = .pointer (some ⟨b, 0, none⟩) ∧ s8 = .int .i64 (splitC p v u n) ∧ Below w.heap.size w wx ∧ Lies wx b (P4 (wholeQ p v u n).1 (wholeQ p v u n).2.1 (wholeQ p v u n).2.2.1 (wholeQ p v u n).2.2.2) ∧ Lies wx b1 (P4 (wholeQ p v u n).1 (wholeQ p v u n).2.1 (wholeQ p v u n).2.2.1 (wholeQ p v u n).2.2.2))
  case first =>
    go_wp2_with (first | (go_at_call 25; refine (toPadic_any _ _ _ _ _).mono ?_; rintro e wn ⟨rfl, hb⟩; have K := k1_next K hb; have L := lies_next L hb; obtain ⟨c0, c1, c2, c3⟩ := lies_four K.2) | (go_at_call 32; refine (implWhole_any _ _ _ _ _).mono ?_; rintro e wn ⟨rfl, hb⟩; have K := k1_next K hb; have L := lies_next L hb))
    go_meet
    case rel => exact ⟨_, rfl, rfl, (k1_alloc K _).1, lies_new _ _ _, lies_alloc L _⟩
  case rest =>
  clear L
  obtain ⟨b2, rfl, rfl, HB, L2, L1⟩ := hcut
  obtain ⟨g0, g1, g2, g3⟩ := lies_four L1
  obtain ⟨h0, h1, h2, h3⟩ := lies_four L2
  go_wp2_with (first | (go_at_call 30; refine (eqPadic_any _ _ _ _ _).mono ?_; rintro e we ⟨rfl, hb⟩))
  go_ret
  exact ⟨rfl, HB.trans (hb.mono HB.size)⟩
end Go.Proofs.Ytejgcamogjgdkaa
