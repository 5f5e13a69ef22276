/- Walks of the laws FnExactIsPadic, FnExactMakePadic, FnExactNegatePadic, FnExactInvertPadic, FnExactCutPadic, FnExactEndOf, FnExactDigitAt: true at every input. -/
import Derived.Test.YtgckamlibbjgcaaPadSpec5
import Derived.Deep.DeepCutAuto
namespace Go.Proofs.Ytgckamlibbjgcaa
open Go.RowKit
set_option linter.unusedVariables false
set_option maxRecDepth 20000
set_option linter.unusedSimpArgs false
theorem toPadic_any (p v u n : Int) (w : World) :
    Calls Try.prog 52 #[.agg (P4 p v u n)] w fun e w' => e = .returned (.agg (P4 p v u n)) ∧ Below w.heap.size w w' := by
  go_enter Try.func52, Try.ntmps52
  go_wp2
  refine bodyPost_ret (v := .agg (P4 p v u n)) (by simp [results, Try.results52, go_sem]) rfl ?_
  exact ⟨rfl, below_a3 w _ _ _⟩
theorem eqPadic_any (p v u n : Int) (w : World) :
    Calls Try.prog 53 #[.agg (P4 p v u n), .agg (P4 p v u n)] w fun e w' => e = .returned (.bool true) ∧ Below w.heap.size w w' := by
  go_enter Try.func53, Try.ntmps53
  go_wp2
  go_ret
  exact ⟨rfl, below_a2 w _ _⟩
theorem k1_alloc {w w1 : World} {a : Array Value} (h : K1 w a w1) (o : Obj) : K1 w a (w1.alloc o) := k1_next h (below_a1 w1 o)
theorem exactInvert_walk (p v u n : Int) (_ : (Lit.int .i64 p).wf = true) (_ : (Lit.int .i64 v).wf = true) (_ : (Lit.int .i64 u).wf = true) (_ : (Lit.int .i64 n).wf = true) (w : World) :
    Calls Try.prog 8 #[.agg (P4 p v u n)] w fun e w' => e = .returned (.bool true) ∧ Below w.heap.size w w' := by
  go_enter Try.func8, Try.ntmps8
  go_upto_region 1 with fail
  go_cut [3, 4] (fun s5 s6 wx => ∃ b, s5 = .pointer (some ⟨b, 0, none⟩) ∧ s6 = .int .i64 (invC p v u n) ∧ K1 w (P4 p v u n) wx ∧ Lies wx b (P4 (invQ p v u n).1 (invQ p v u n).2.1 (invQ p v u n).2.2.1 (invQ p v u n).2.2.2))
  case first =>
    go_wp2_with (first | (go_at_call 52; refine (toPadic_any _ _ _ _ _).mono ?_; rintro e wn ⟨rfl, hb⟩; (first | have K := k1_first hb | have K := k1_next K hb); obtain ⟨c0, c1, c2, c3⟩ := lies_four K.2) | (go_at_call 29; refine (specInvert_any _ _ _ _ _).mono ?_; rintro e wn ⟨rfl, hb⟩; (first | have K := k1_first hb | have K := k1_next K hb); obtain ⟨c0, c1, c2, c3⟩ := lies_four K.2))
    go_meet
    case rel => exact ⟨_, rfl, rfl, k1_alloc K _, lies_new _ _ _⟩
  case rest =>
  obtain ⟨b1, rfl, rfl, K, L⟩ := hcut
  obtain ⟨c0, c1, c2, c3⟩ := lies_four K.2
  go_upto_region 2 with fail
  go_cut [5, 6] (fun s7 s8 wx => ∃ b, s7 = .pointer (some ⟨b, 0, none⟩) ∧ s8 = .int .i64 (invC p v u n) ∧ Below w.heap.size w wx ∧ Lies wx b (P4 (invQ p v u n).1 (invQ p v u n).2.1 (invQ p v u n).2.2.1 (invQ p v u n).2.2.2) ∧ Lies wx b1 (P4 (invQ p v u n).1 (invQ p v u n).2.1 (invQ p v u n).2.2.1 (invQ p v u n).2.2.2))
  case first =>
    go_wp2_with (first | (go_at_call 52; refine (toPadic_any _ _ _ _ _).mono ?_; rintro e wn ⟨rfl, hb⟩; have K := k1_next K hb; have L := lies_next L hb; obtain ⟨c0, c1, c2, c3⟩ := lies_four K.2) | (go_at_call 28; refine (implInvert_any _ _ _ _ _).mono ?_; rintro e wn ⟨rfl, hb⟩; have K := k1_next K hb; have L := lies_next L hb))
    go_meet
    case rel => exact ⟨_, rfl, rfl, (k1_alloc K _).1, lies_new _ _ _, lies_alloc L _⟩
  case rest =>
  clear L
  obtain ⟨b2, rfl, rfl, HB, L2, L1⟩ := hcut
  obtain ⟨g0, g1, g2, g3⟩ := lies_four L1
  obtain ⟨h0, h1, h2, h3⟩ := lies_four L2
  go_wp2_with (first | (go_at_call 53; refine (eqPadic_any _ _ _ _ _).mono ?_; rintro e we ⟨rfl, hb⟩))
  go_ret
  exact ⟨rfl, HB.trans (hb.mono HB.size)⟩
end Go.Proofs.Ytgckamlibbjgcaa
