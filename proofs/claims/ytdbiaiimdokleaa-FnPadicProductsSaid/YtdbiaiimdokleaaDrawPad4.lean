/- The drawn arguments of AddPadics, MultiplyPadics and AreEqualTo. -/
import Derived.Test.YtdbiaiimdokleaaDrawPad3
namespace Go.Proofs.Ytdbiaiimdokleaa
open Go.RowKit
set_option linter.unusedVariables false
set_option maxRecDepth 20000
set_option linter.unusedSimpArgs false
theorem drawAdd_any (o : Option Addr) (len cap : Nat) (w : World) (hl : len ≤ 4096) (hc : CodeIn w o len) :
    Calls Try.prog 17 #[.slice o len cap] w (TwoPad w) := by
  have HC := Lib.hid (codeIn_below (B := w.heap.size) hc (show Below w.heap.size w ((w.alloc (.cells (P4 0 0 0 0) 25)).alloc (.cells (P4 0 0 0 0) 25)) from below_a2 w _ _))
  clear hc
  go_enter Try.func17, Try.ntmps17
  go_wp2_with fail
  refine (drawTwo_any _ _ _ _ hl HC.out).mono ?_
  rintro e w1 ⟨p, v, u, n, q, v', u', n', rfl, hb1⟩
  have K := k2_next (k2_new w (P4 0 0 0 0) (P4 0 0 0 0) 25 25) hb1
  clear hb1
  obtain ⟨c0, c1, c2, c3⟩ := lies_four K.2.1
  obtain ⟨cf0, cf1, cf2, cf3⟩ := lies_ice K.2.1
  obtain ⟨d0, d1, d2, d3⟩ := lies_four K.2.2
  obtain ⟨df0, df1, df2, df3⟩ := lies_ice K.2.2
  go_wp2
  refine bodyPost_ret (v := .tuple #[.agg (P4 p v u n), .agg (P4 q v' u' n')]) (by simp [results, Try.results17, go_sem, c0, c1, c2, c3, d0, d1, d2, d3]) rfl ?_
  exact ⟨_, _, _, _, _, _, _, _, rfl, below_set4 (below_set4 K.1 (by omega)) (by omega)⟩
theorem drawMul_any (o : Option Addr) (len cap : Nat) (w : World) (hl : len ≤ 4096) (hc : CodeIn w o len) :
    Calls Try.prog 28 #[.slice o len cap] w (TwoPad w) := by
  have HC := Lib.hid (codeIn_below (B := w.heap.size) hc (show Below w.heap.size w ((w.alloc (.cells (P4 0 0 0 0) 25)).alloc (.cells (P4 0 0 0 0) 25)) from below_a2 w _ _))
  clear hc
  go_enter Try.func28, Try.ntmps28
  go_wp2_with fail
  refine (drawTwo_any _ _ _ _ hl HC.out).mono ?_
  rintro e w1 ⟨p, v, u, n, q, v', u', n', rfl, hb1⟩
  have K := k2_next (k2_new w (P4 0 0 0 0) (P4 0 0 0 0) 25 25) hb1
  clear hb1
  obtain ⟨c0, c1, c2, c3⟩ := lies_four K.2.1
  obtain ⟨cf0, cf1, cf2, cf3⟩ := lies_ice K.2.1
  obtain ⟨d0, d1, d2, d3⟩ := lies_four K.2.2
  obtain ⟨df0, df1, df2, df3⟩ := lies_ice K.2.2
  go_wp2
  refine bodyPost_ret (v := .tuple #[.agg (P4 p v u n), .agg (P4 q v' u' n')]) (by simp [results, Try.results28, go_sem, c0, c1, c2, c3, d0, d1, d2, d3]) rfl ?_
  exact ⟨_, _, _, _, _, _, _, _, rfl, below_set4 (below_set4 K.1 (by omega)) (by omega)⟩
set_option maxHeartbeats 2000000 in
theorem drawEqual_any (o : Option Addr) (len cap : Nat) (w : World) (hl : len ≤ 4096) (hc : CodeIn w o len) :
    Calls Try.prog 23 #[.slice o len cap] w (TwoPad w) := by
  have HC := Lib.hid (codeIn_below (B := w.heap.size) hc (show Below w.heap.size w ((w.alloc (.cells (P4 0 0 0 0) 25)).alloc (.cells (P4 0 0 0 0) 25)) from below_a2 w _ _))
  clear hc
  go_enter Try.func23, Try.ntmps23
  go_wp2_with fail
  refine (drawTwo_any _ _ _ _ hl HC.out).mono ?_
  rintro e w1 ⟨p, v, u, n, q, v', u', n', rfl, hb1⟩
  have K := k2_next (k2_new w (P4 0 0 0 0) (P4 0 0 0 0) 25 25) hb1
  clear hb1
  go_upto_region 2 with fail
  have hlt := lies_lt K.2.2
  have Lx := lies_new w1 (P4 p v u n) 25
  have Lm := lies_new (w1.alloc (.cells (P4 p v u n) 25)) (P4 q v' u' n') 25
  replace Lx := lies_alloc Lx (.cells (P4 q v' u' n') 25)
  replace K := k2_next (k2_next K (below_a1 w1 (.cells (P4 p v u n) 25))) (below_a1 _ (.cells (P4 q v' u' n') 25))
  rw [size1] at Lm
  generalize (w1.alloc (.cells (P4 p v u n) 25)).alloc (.cells (P4 q v' u' n') 25) = Wx at Lx Lm K ⊢
  obtain ⟨bx, hbx⟩ : ∃ b, w1.heap.size = b := ⟨_, rfl⟩
  rw [hbx] at Lx Lm hlt ⊢
  clear hbx
  obtain ⟨x0, x1, x2, x3⟩ := lies_four Lx
  obtain ⟨y0, y1, y2, y3⟩ := lies_four Lm
  cases hy : padB q v' u' n'
  · skip
    have HX := Lib.hid hy
    clear hy
    go_wp2_with (first | (go_at_call 45; refine (specIsPadic_any _ _ _ _ _).mono ?_; rw [HX.out]; rintro e wn ⟨rfl, hb⟩; replace K := k2_next K hb; replace Lx := lies_next Lx hb; replace Lm := lies_next Lm hb))
    clear x0 x1 x2 x3 y0 y1 y2 y3 hb
    have hn1' : ¬ w.heap.size = bx := by omega
    have hn2' : ¬ w.heap.size + 1 = bx := by omega
    have hn3' : ¬ w.heap.size = bx + 1 := by omega
    have hn4' : ¬ w.heap.size + 1 = bx + 1 := by omega
    refine wp_region_held_drew (S := fun w' => Lies w' bx (P4 p v u n) ∧ Lies w' (bx + 1) (P4 q v' u' n')) (by kernel_rfl) ⟨Lx, Lm⟩ (fun hHeld => ?_)
    replace K := k2_drew K
    clear Lx Lm
    generalize World.drew _ = W9 at K hHeld ⊢
    obtain ⟨c0, c1, c2, c3⟩ := lies_four K.2.1
    obtain ⟨cf0, cf1, cf2, cf3⟩ := lies_ice K.2.1
    obtain ⟨d0, d1, d2, d3⟩ := lies_four K.2.2
    obtain ⟨df0, df1, df2, df3⟩ := lies_ice K.2.2
    refine take_at (i := 0) (d := 16) (v := .agg #[.int .i64 p, .int .i64 v, .int .i64 u, .int .i64 n]) rfl rfl (by kernel_rfl) (by kernel_rfl) (by kernel_rfl) (fun _ _ _ h => h) (Or.inl ⟨by rfl, ?_⟩) hHeld ?_
    · intro w' hS
      obtain ⟨k0, k1, k2, k3⟩ := lies_four hS.1
      go_simp
    try simp only [Act.put, List.setIfInBounds_toArray, List.set_cons_zero, List.set_cons_succ]
    refine take_at (i := 1) (d := 17) (v := .agg #[.int .i64 q, .int .i64 v', .int .i64 u', .int .i64 n']) rfl rfl (by kernel_rfl) (by kernel_rfl) (by kernel_rfl) (fun _ _ _ h => h) (Or.inl ⟨by rfl, ?_⟩) hHeld ?_
    · intro w' hS
      obtain ⟨k0, k1, k2, k3⟩ := lies_four hS.2
      go_simp
    try simp only [Act.put, List.setIfInBounds_toArray, List.set_cons_zero, List.set_cons_succ]
    refine wpAnyH_ready (rs := [2]) (by kernel_rfl) (by simp) ?_
    refine AllReadyH.cons rfl (fun K' hK => ?_) AllReadyH.nil
    go_simp
    refine hK.out _ _ (⟨lies_other4 hHeld.1 hn1', lies_other4 hHeld.2 hn3'⟩) (fun hHeld => ?_)
    clear hK K'
    try simp only [Act.put, List.setIfInBounds_toArray, List.set_cons_zero, List.set_cons_succ]
    refine wpAnyH_ready (rs := [3]) (by kernel_rfl) (by simp) ?_
    refine AllReadyH.cons rfl (fun K' hK => ?_) AllReadyH.nil
    go_simp
    refine hK.out _ _ (⟨lies_other4 hHeld.1 hn2', lies_other4 hHeld.2 hn4'⟩) (fun hHeld => ?_)
    clear hK K'
    try simp only [Act.put, List.setIfInBounds_toArray, List.set_cons_zero, List.set_cons_succ]
    refine wpAnyH_done (by kernel_rfl) ?_ _
    go_wp2
    refine bodyPost_ret (v := .tuple #[.agg (P4 p v u n), .agg (P4 q v' u' n')]) (by simp [results, Try.results23, go_sem, c0, c1, c2, c3, d0, d1, d2, d3]) rfl ?_
    exact ⟨_, _, _, _, _, _, _, _, rfl, below_set4 (below_set4 K.1 (by omega)) (by omega)⟩
  · skip
    have HX := Lib.hid hy
    clear hy
    go_wp2_with (first | (go_at_call 45; refine (specIsPadic_any _ _ _ _ _).mono ?_; rw [HX.out]; rintro e wn ⟨rfl, hb⟩; replace K := k2_next K hb; replace Lx := lies_next Lx hb; replace Lm := lies_next Lm hb))
    clear x0 x1 x2 x3 y0 y1 y2 y3 hb
    have hn1' : ¬ w.heap.size = bx := by omega
    have hn2' : ¬ w.heap.size + 1 = bx := by omega
    have hn3' : ¬ w.heap.size = bx + 1 := by omega
    have hn4' : ¬ w.heap.size + 1 = bx + 1 := by omega
    refine wp_region_held_drew (S := fun w' => Lies w' bx (P4 p v u n) ∧ Lies w' (bx + 1) (P4 q v' u' n')) (by kernel_rfl) ⟨Lx, Lm⟩ (fun hHeld => ?_)
    replace K := k2_drew K
    clear Lx Lm
    generalize World.drew _ = W9 at K hHeld ⊢
    refine take_at (i := 0) (d := 13) (v := .agg #[.int .i64 p, .int .i64 v, .int .i64 u, .int .i64 n]) rfl rfl (by kernel_rfl) (by kernel_rfl) (by kernel_rfl) (fun _ _ _ h => h) (Or.inl ⟨by rfl, ?_⟩) hHeld ?_
    · intro w' hS
      obtain ⟨k0, k1, k2, k3⟩ := lies_four hS.1
      go_simp
    try simp only [Act.put, List.setIfInBounds_toArray, List.set_cons_zero, List.set_cons_succ]
    refine take_at (i := 1) (d := 14) (v := .agg #[.int .i64 q, .int .i64 v', .int .i64 u', .int .i64 n']) rfl rfl (by kernel_rfl) (by kernel_rfl) (by kernel_rfl) (fun _ _ _ h => h) (Or.inl ⟨by rfl, ?_⟩) hHeld ?_
    · intro w' hS
      obtain ⟨k0, k1, k2, k3⟩ := lies_four hS.2
      go_simp
    try simp only [Act.put, List.setIfInBounds_toArray, List.set_cons_zero, List.set_cons_succ]
    refine wpAnyH_ready (rs := [2]) (by kernel_rfl) (by simp) ?_
    refine AllReadyH.cons rfl (fun K' hK => ?_) AllReadyH.nil
    go_simp
    refine (l03Negate_any _ _ _ _ _ (padB_ok HX.out)).mono ?_
    rintro e w4 ⟨rfl, hb⟩
    go_simp
    refine hK.out _ _ (⟨lies_next hHeld.1 hb, lies_next hHeld.2 hb⟩) (fun hHeld => ?_)
    clear hK K'
    try simp only [Act.put, List.setIfInBounds_toArray, List.set_cons_zero, List.set_cons_succ]
    replace K := k2_next K hb
    clear hb
    obtain ⟨c0, c1, c2, c3⟩ := lies_four K.2.1
    obtain ⟨cf0, cf1, cf2, cf3⟩ := lies_ice K.2.1
    obtain ⟨d0, d1, d2, d3⟩ := lies_four K.2.2
    obtain ⟨df0, df1, df2, df3⟩ := lies_ice K.2.2
    refine wpAnyH_ready (rs := [3]) (by kernel_rfl) (by simp) ?_
    refine AllReadyH.cons rfl (fun K' hK => ?_) AllReadyH.nil
    go_simp
    refine hK.out _ _ (⟨lies_other4 hHeld.1 hn1', lies_other4 hHeld.2 hn3'⟩) (fun hHeld => ?_)
    clear hK K'
    try simp only [Act.put, List.setIfInBounds_toArray, List.set_cons_zero, List.set_cons_succ]
    refine wpAnyH_ready (rs := [4]) (by kernel_rfl) (by simp) ?_
    refine AllReadyH.cons rfl (fun K' hK => ?_) AllReadyH.nil
    go_simp
    refine hK.out _ _ (⟨lies_other4 hHeld.1 hn2', lies_other4 hHeld.2 hn4'⟩) (fun hHeld => ?_)
    clear hK K'
    try simp only [Act.put, List.setIfInBounds_toArray, List.set_cons_zero, List.set_cons_succ]
    refine wpAnyH_done (by kernel_rfl) ?_ _
    go_wp2
    refine bodyPost_ret (v := .tuple #[.agg (P4 p v u n), .agg (P4 q v' (negU q u' n') n')]) (by simp [results, Try.results23, go_sem, c0, c1, c2, c3, d0, d1, d2, d3]) rfl ?_
    exact ⟨_, _, _, _, _, _, _, _, rfl, below_set4 (below_set4 K.1 (by omega)) (by omega)⟩
end Go.Proofs.Ytdbiaiimdokleaa
