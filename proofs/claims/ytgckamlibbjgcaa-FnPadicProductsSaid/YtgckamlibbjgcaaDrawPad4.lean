/- The drawn arguments of AddPadics, MultiplyPadics and AreEqualTo. -/
import Derived.Test.YtgckamlibbjgcaaDrawPad3
namespace Go.Proofs.Ytgckamlibbjgcaa
open Go.RowKit
set_option linter.unusedVariables false
set_option maxRecDepth 20000
set_option linter.unusedSimpArgs false
theorem drawMul_any (o : Option Addr) (len cap : Nat) (w : World) (hl : len ≤ 4096) (hc : CodeIn w o len) :
    Calls Try.prog 24 #[.slice o len cap] w (TwoPad w) := by
  have HC := Lib.hid (codeIn_below (B := w.heap.size) hc (show Below w.heap.size w ((w.alloc (.cells (P4 0 0 0 0) 34)).alloc (.cells (P4 0 0 0 0) 34)) from below_a2 w _ _))
  clear hc
  go_enter Try.func24, Try.ntmps24
  go_wp2_with fail
  refine (drawTwo_any _ _ _ _ hl HC.out).mono ?_
  rintro e w1 ⟨p, v, u, n, q, v', u', n', rfl, hb1⟩
  have K := k2_next (k2_new w (P4 0 0 0 0) (P4 0 0 0 0) 34 34) hb1
  clear hb1
  obtain ⟨c0, c1, c2, c3⟩ := lies_four K.2.1
  obtain ⟨cf0, cf1, cf2, cf3⟩ := lies_ice K.2.1
  obtain ⟨d0, d1, d2, d3⟩ := lies_four K.2.2
  obtain ⟨df0, df1, df2, df3⟩ := lies_ice K.2.2
  go_wp2
  refine bodyPost_ret (v := .tuple #[.agg (P4 p v u n), .agg (P4 q v' u' n')]) (by simp [results, Try.results24, go_sem, c0, c1, c2, c3, d0, d1, d2, d3]) rfl ?_
  exact ⟨_, _, _, _, _, _, _, _, rfl, below_set4 (below_set4 K.1 (by omega)) (by omega)⟩
end Go.Proofs.Ytgckamlibbjgcaa
