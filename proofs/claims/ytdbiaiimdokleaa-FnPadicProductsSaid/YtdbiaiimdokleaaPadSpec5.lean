/- Contracts of the walk: chapter 3's exported functions in spec: places of equality, digits, and numbers made of integers. -/
import Derived.Test.YtdbiaiimdokleaaPadSpec4
namespace Go.Proofs.Ytdbiaiimdokleaa
open Go.RowKit
set_option linter.unusedVariables false
set_option maxRecDepth 20000
set_option linter.unusedSimpArgs false
set_option maxHeartbeats 1600000 in
theorem specEqual_any (p v u n q v' u' n' : Int) (w : World) :
    Calls Try.prog 25 #[.agg (P4 p v u n), .agg (P4 q v' u' n')] w fun e w' => e = .returned (.tuple #[.int .i64 (eqV p v u n q v' u' n'), .int .i64 (eqC p v u n q v' u' n')]) ∧ Below w.heap.size w w' := by
  by_cases hc : twoC p v u n q v' u' n' = 0
  · obtain ⟨h, h', rfl⟩ := twoC_zero hc
    have HC := Lib.hid hc
    have H := Lib.hid (And.intro h (And.intro h' (neg_ok h')))
    rw [show eqV p v u n p v' u' n' = (resQ p (difT p v u n v' u' n').1 (difT p v u n v' u' n').2.1 (difT p v u n v' u' n').2.2).2.1 by simp [eqV, hc], show eqC p v u n p v' u' n' = limC p (difT p v u n v' u' n').1 (difT p v u n v' u' n').2.1 (difT p v u n v' u' n').2.2 by simp [eqC, hc]]
    have HD := Lib.hid (show difT p v u n v' u' n' = addT p v u n v' (negU p u' n') n' from rfl)
    clear hc h h'
    go_enter Try.func25, Try.ntmps25
    go_wp2_with (first | (go_at_call 52; refine (l03Two_any _ _ _ _ _ _ _ _ _).mono ?_; rw [HC.out]; rintro e wn ⟨rfl, hb⟩; (first | have K := k2_first hb | have K := k2_next K hb); obtain ⟨c0, c1, c2, c3⟩ := lies_four K.2.1; obtain ⟨d0, d1, d2, d3⟩ := lies_four K.2.2))
    clear hb c0 c1 c2 c3 d0 d1 d2 d3
    refine wp_region_held_drew (S := SR w p v u n p v' u' n') (by kernel_rfl) (sr_of (k2_drew K)) (fun hHeld => ?_)
    generalize World.drew _ = w1 at hHeld ⊢
    refine take_at (i := 0) (d := 16) (v := .agg #[.int .i64 p, .int .i64 v, .int .i64 u, .int .i64 n]) rfl rfl (by kernel_rfl) (by kernel_rfl) (by kernel_rfl) (fun _ _ _ h => h) (Or.inl ⟨by rfl, ?_⟩) hHeld ?_
    · intro w' hS
      obtain ⟨_, k0, k1, k2, k3, l0, l1, l2, l3⟩ := hS
      go_simp
    try simp only [Act.put, List.setIfInBounds_toArray, List.set_cons_zero, List.set_cons_succ]
    refine take_at (i := 1) (d := 17) (v := .agg #[.int .i64 p, .int .i64 v', .int .i64 u', .int .i64 n']) rfl rfl (by kernel_rfl) (by kernel_rfl) (by kernel_rfl) (fun _ _ _ h => h) (Or.inl ⟨by rfl, ?_⟩) hHeld ?_
    · intro w' hS
      obtain ⟨_, k0, k1, k2, k3, l0, l1, l2, l3⟩ := hS
      go_simp
    try simp only [Act.put, List.setIfInBounds_toArray, List.set_cons_zero, List.set_cons_succ]
    refine wpAnyH_ready (rs := [2, 8]) (by kernel_rfl) (by simp) ?_
    refine AllReadyH.cons rfl (fun K hK => ?_) (AllReadyH.cons rfl (fun K hK => ?_) AllReadyH.nil)
    · skip
      go_simp
      go_at_call 59; refine (l03Negate_any _ _ _ _ _ H.out.2.1).mono ?_; rintro e wc2 ⟨rfl, hb⟩
      go_simp
      refine hK.out _ _ (sr_next hHeld hb) (fun hHeld => ?_)
      clear hK K
      try simp only [Act.put, List.setIfInBounds_toArray, List.set_cons_zero, List.set_cons_succ]
      clear hb
      refine wpAnyH_ready (rs := [3, 8]) (by kernel_rfl) (by simp) ?_
      refine AllReadyH.cons rfl (fun K hK => ?_) (AllReadyH.cons rfl (fun K hK => ?_) AllReadyH.nil)
      · skip
        go_simp
        go_at_call 54; refine (l03Add_any _ _ _ _ _ _ _ _ H.out.1 H.out.2.2).mono ?_; rw [← HD.out]; rintro e wc3 ⟨rfl, hb⟩
        go_simp
        refine hK.out _ _ (sr_next hHeld hb) (fun hHeld => ?_)
        clear hK K
        try simp only [Act.put, List.setIfInBounds_toArray, List.set_cons_zero, List.set_cons_succ]
        clear hb
        refine wpAnyH_ready (rs := [4, 8]) (by kernel_rfl) (by simp) ?_
        refine AllReadyH.cons rfl (fun K hK => ?_) (AllReadyH.cons rfl (fun K hK => ?_) AllReadyH.nil)
        · skip
          go_simp
          go_at_call 53; refine (l03Result_any _ _ _ _ _).mono ?_; rintro e wc4 ⟨rfl, hb⟩
          go_simp
          refine hK.out _ _ (sr_next hHeld hb) (fun hHeld => ?_)
          clear hK K
          try simp only [Act.put, List.setIfInBounds_toArray, List.set_cons_zero, List.set_cons_succ]
          clear hb
          refine take_at (i := 5) (d := 15) (v := .tuple #[.agg #[.int .i64 (resQ p (difT p v u n v' u' n').1 (difT p v u n v' u' n').2.1 (difT p v u n v' u' n').2.2).1, .int .i64 (resQ p (difT p v u n v' u' n').1 (difT p v u n v' u' n').2.1 (difT p v u n v' u' n').2.2).2.1, .int .i64 (resQ p (difT p v u n v' u' n').1 (difT p v u n v' u' n').2.1 (difT p v u n v' u' n').2.2).2.2.1, .int .i64 (resQ p (difT p v u n v' u' n').1 (difT p v u n v' u' n').2.1 (difT p v u n v' u' n').2.2).2.2.2], .int .i64 (limC p (difT p v u n v' u' n').1 (difT p v u n v' u' n').2.1 (difT p v u n v' u' n').2.2)]) rfl rfl (by kernel_rfl) (by kernel_rfl) (by kernel_rfl) (fun _ _ _ h => h) (Or.inl ⟨by rfl, ?_⟩) hHeld ?_
          · intro w' hS; go_simp
          try simp only [Act.put, List.setIfInBounds_toArray, List.set_cons_zero, List.set_cons_succ]
          refine take_at (i := 6) (d := 21) (v := .agg #[.int .i64 (resQ p (difT p v u n v' u' n').1 (difT p v u n v' u' n').2.1 (difT p v u n v' u' n').2.2).1, .int .i64 (resQ p (difT p v u n v' u' n').1 (difT p v u n v' u' n').2.1 (difT p v u n v' u' n').2.2).2.1, .int .i64 (resQ p (difT p v u n v' u' n').1 (difT p v u n v' u' n').2.1 (difT p v u n v' u' n').2.2).2.2.1, .int .i64 (resQ p (difT p v u n v' u' n').1 (difT p v u n v' u' n').2.1 (difT p v u n v' u' n').2.2).2.2.2]) rfl rfl (by kernel_rfl) (by kernel_rfl) (by kernel_rfl) (fun _ _ _ h => h) (Or.inl ⟨by rfl, ?_⟩) hHeld ?_
          · intro w' hS; go_simp
          try simp only [Act.put, List.setIfInBounds_toArray, List.set_cons_zero, List.set_cons_succ]
          refine take_at (i := 7) (d := 22) (v := .int .i64 (limC p (difT p v u n v' u' n').1 (difT p v u n v' u' n').2.1 (difT p v u n v' u' n').2.2)) rfl rfl (by kernel_rfl) (by kernel_rfl) (by kernel_rfl) (fun _ _ _ h => h) (Or.inl ⟨by rfl, ?_⟩) hHeld ?_
          · intro w' hS; go_simp
          try simp only [Act.put, List.setIfInBounds_toArray, List.set_cons_zero, List.set_cons_succ]
          refine wpAnyH_ready (rs := [8]) (by kernel_rfl) (by simp) ?_
          refine AllReadyH.cons rfl (fun K hK => ?_) AllReadyH.nil
          go_simp
          refine hK.out _ _ (sr_alloc hHeld _) (fun hHeld => ?_)
          clear hK K
          try simp only [Act.put, List.setIfInBounds_toArray, List.set_cons_zero, List.set_cons_succ]
          have HL := lies_new wc4 (P4 0 0 0 0) 25
          have hlt : w.heap.size + 1 < wc4.heap.size := lies_lt ‹SR _ _ _ _ _ _ _ _ _ wc4›.1.2.2
          generalize wc4.alloc (.cells (P4 0 0 0 0) 25) = wA at HL hHeld ⊢
          obtain ⟨bA, hbA⟩ : ∃ b, wc4.heap.size = b := ⟨_, rfl⟩
          rw [hbA] at HL hlt ⊢
          clear hbA
          obtain ⟨g0, g1, g2, g3⟩ := lies_four HL
          obtain ⟨gf0, gf1, gf2, gf3⟩ := lies_ice HL
          refine wpAnyH_ready (rs := [9]) (by kernel_rfl) (by simp) ?_
          refine AllReadyH.cons rfl (fun K hK => ?_) AllReadyH.nil
          go_simp
          refine hK.out _ _ (sr_set hHeld _ _ _ _ hlt) (fun hHeld => ?_)
          clear hK K
          try simp only [Act.put, List.setIfInBounds_toArray, List.set_cons_zero, List.set_cons_succ]
          refine take_at (i := 10) (d := 8) (v := .int .i64 (limC p (difT p v u n v' u' n').1 (difT p v u n v' u' n').2.1 (difT p v u n v' u' n').2.2)) rfl rfl (by kernel_rfl) (by kernel_rfl) (by kernel_rfl) (fun _ _ _ h => h) (Or.inl ⟨by rfl, ?_⟩) hHeld ?_
          · intro w' hS; go_simp
          try simp only [Act.put, List.setIfInBounds_toArray, List.set_cons_zero, List.set_cons_succ]
          refine wpAnyH_done (by kernel_rfl) ?_ _
          go_wp2
          go_ret2
          exact ⟨rfl, hHeld.1.1⟩
        · skip
          go_simp
          refine hK.out _ _ (sr_alloc hHeld _) (fun hHeld => ?_)
          clear hK K
          try simp only [Act.put, List.setIfInBounds_toArray, List.set_cons_zero, List.set_cons_succ]
          have HL := lies_new wc3 (P4 0 0 0 0) 25
          have hlt : w.heap.size + 1 < wc3.heap.size := lies_lt ‹SR _ _ _ _ _ _ _ _ _ wc3›.1.2.2
          generalize wc3.alloc (.cells (P4 0 0 0 0) 25) = wA at HL hHeld ⊢
          obtain ⟨bA, hbA⟩ : ∃ b, wc3.heap.size = b := ⟨_, rfl⟩
          rw [hbA] at HL hlt ⊢
          clear hbA
          refine wpAnyH_ready (rs := [4]) (by kernel_rfl) (by simp) ?_
          refine AllReadyH.cons rfl (fun K hK => ?_) AllReadyH.nil
          go_simp
          go_at_call 53; refine (l03Result_any _ _ _ _ _).mono ?_; rintro e wc4 ⟨rfl, hb⟩
          go_simp
          refine hK.out _ _ (sr_next hHeld hb) (fun hHeld => ?_)
          clear hK K
          try simp only [Act.put, List.setIfInBounds_toArray, List.set_cons_zero, List.set_cons_succ]
          replace HL := lies_next HL hb
          clear hb
          refine take_at (i := 5) (d := 15) (v := .tuple #[.agg #[.int .i64 (resQ p (difT p v u n v' u' n').1 (difT p v u n v' u' n').2.1 (difT p v u n v' u' n').2.2).1, .int .i64 (resQ p (difT p v u n v' u' n').1 (difT p v u n v' u' n').2.1 (difT p v u n v' u' n').2.2).2.1, .int .i64 (resQ p (difT p v u n v' u' n').1 (difT p v u n v' u' n').2.1 (difT p v u n v' u' n').2.2).2.2.1, .int .i64 (resQ p (difT p v u n v' u' n').1 (difT p v u n v' u' n').2.1 (difT p v u n v' u' n').2.2).2.2.2], .int .i64 (limC p (difT p v u n v' u' n').1 (difT p v u n v' u' n').2.1 (difT p v u n v' u' n').2.2)]) rfl rfl (by kernel_rfl) (by kernel_rfl) (by kernel_rfl) (fun _ _ _ h => h) (Or.inl ⟨by rfl, ?_⟩) hHeld ?_
          · intro w' hS; go_simp
          try simp only [Act.put, List.setIfInBounds_toArray, List.set_cons_zero, List.set_cons_succ]
          refine take_at (i := 6) (d := 21) (v := .agg #[.int .i64 (resQ p (difT p v u n v' u' n').1 (difT p v u n v' u' n').2.1 (difT p v u n v' u' n').2.2).1, .int .i64 (resQ p (difT p v u n v' u' n').1 (difT p v u n v' u' n').2.1 (difT p v u n v' u' n').2.2).2.1, .int .i64 (resQ p (difT p v u n v' u' n').1 (difT p v u n v' u' n').2.1 (difT p v u n v' u' n').2.2).2.2.1, .int .i64 (resQ p (difT p v u n v' u' n').1 (difT p v u n v' u' n').2.1 (difT p v u n v' u' n').2.2).2.2.2]) rfl rfl (by kernel_rfl) (by kernel_rfl) (by kernel_rfl) (fun _ _ _ h => h) (Or.inl ⟨by rfl, ?_⟩) hHeld ?_
          · intro w' hS; go_simp
          try simp only [Act.put, List.setIfInBounds_toArray, List.set_cons_zero, List.set_cons_succ]
          refine take_at (i := 7) (d := 22) (v := .int .i64 (limC p (difT p v u n v' u' n').1 (difT p v u n v' u' n').2.1 (difT p v u n v' u' n').2.2)) rfl rfl (by kernel_rfl) (by kernel_rfl) (by kernel_rfl) (fun _ _ _ h => h) (Or.inl ⟨by rfl, ?_⟩) hHeld ?_
          · intro w' hS; go_simp
          try simp only [Act.put, List.setIfInBounds_toArray, List.set_cons_zero, List.set_cons_succ]
          obtain ⟨g0, g1, g2, g3⟩ := lies_four HL
          obtain ⟨gf0, gf1, gf2, gf3⟩ := lies_ice HL
          refine wpAnyH_ready (rs := [9]) (by kernel_rfl) (by simp) ?_
          refine AllReadyH.cons rfl (fun K hK => ?_) AllReadyH.nil
          go_simp
          refine hK.out _ _ (sr_set hHeld _ _ _ _ hlt) (fun hHeld => ?_)
          clear hK K
          try simp only [Act.put, List.setIfInBounds_toArray, List.set_cons_zero, List.set_cons_succ]
          refine take_at (i := 10) (d := 8) (v := .int .i64 (limC p (difT p v u n v' u' n').1 (difT p v u n v' u' n').2.1 (difT p v u n v' u' n').2.2)) rfl rfl (by kernel_rfl) (by kernel_rfl) (by kernel_rfl) (fun _ _ _ h => h) (Or.inl ⟨by rfl, ?_⟩) hHeld ?_
          · intro w' hS; go_simp
          try simp only [Act.put, List.setIfInBounds_toArray, List.set_cons_zero, List.set_cons_succ]
          refine wpAnyH_done (by kernel_rfl) ?_ _
          go_wp2
          go_ret2
          exact ⟨rfl, hHeld.1.1⟩
      · skip
        go_simp
        refine hK.out _ _ (sr_alloc hHeld _) (fun hHeld => ?_)
        clear hK K
        try simp only [Act.put, List.setIfInBounds_toArray, List.set_cons_zero, List.set_cons_succ]
        have HL := lies_new wc2 (P4 0 0 0 0) 25
        have hlt : w.heap.size + 1 < wc2.heap.size := lies_lt ‹SR _ _ _ _ _ _ _ _ _ wc2›.1.2.2
        generalize wc2.alloc (.cells (P4 0 0 0 0) 25) = wA at HL hHeld ⊢
        obtain ⟨bA, hbA⟩ : ∃ b, wc2.heap.size = b := ⟨_, rfl⟩
        rw [hbA] at HL hlt ⊢
        clear hbA
        refine wpAnyH_ready (rs := [3]) (by kernel_rfl) (by simp) ?_
        refine AllReadyH.cons rfl (fun K hK => ?_) AllReadyH.nil
        go_simp
        go_at_call 54; refine (l03Add_any _ _ _ _ _ _ _ _ H.out.1 H.out.2.2).mono ?_; rw [← HD.out]; rintro e wc3 ⟨rfl, hb⟩
        go_simp
        refine hK.out _ _ (sr_next hHeld hb) (fun hHeld => ?_)
        clear hK K
        try simp only [Act.put, List.setIfInBounds_toArray, List.set_cons_zero, List.set_cons_succ]
        replace HL := lies_next HL hb
        clear hb
        refine wpAnyH_ready (rs := [4]) (by kernel_rfl) (by simp) ?_
        refine AllReadyH.cons rfl (fun K hK => ?_) AllReadyH.nil
        go_simp
        go_at_call 53; refine (l03Result_any _ _ _ _ _).mono ?_; rintro e wc4 ⟨rfl, hb⟩
        go_simp
        refine hK.out _ _ (sr_next hHeld hb) (fun hHeld => ?_)
        clear hK K
        try simp only [Act.put, List.setIfInBounds_toArray, List.set_cons_zero, List.set_cons_succ]
        replace HL := lies_next HL hb
        clear hb
        refine take_at (i := 5) (d := 15) (v := .tuple #[.agg #[.int .i64 (resQ p (difT p v u n v' u' n').1 (difT p v u n v' u' n').2.1 (difT p v u n v' u' n').2.2).1, .int .i64 (resQ p (difT p v u n v' u' n').1 (difT p v u n v' u' n').2.1 (difT p v u n v' u' n').2.2).2.1, .int .i64 (resQ p (difT p v u n v' u' n').1 (difT p v u n v' u' n').2.1 (difT p v u n v' u' n').2.2).2.2.1, .int .i64 (resQ p (difT p v u n v' u' n').1 (difT p v u n v' u' n').2.1 (difT p v u n v' u' n').2.2).2.2.2], .int .i64 (limC p (difT p v u n v' u' n').1 (difT p v u n v' u' n').2.1 (difT p v u n v' u' n').2.2)]) rfl rfl (by kernel_rfl) (by kernel_rfl) (by kernel_rfl) (fun _ _ _ h => h) (Or.inl ⟨by rfl, ?_⟩) hHeld ?_
        · intro w' hS; go_simp
        try simp only [Act.put, List.setIfInBounds_toArray, List.set_cons_zero, List.set_cons_succ]
        refine take_at (i := 6) (d := 21) (v := .agg #[.int .i64 (resQ p (difT p v u n v' u' n').1 (difT p v u n v' u' n').2.1 (difT p v u n v' u' n').2.2).1, .int .i64 (resQ p (difT p v u n v' u' n').1 (difT p v u n v' u' n').2.1 (difT p v u n v' u' n').2.2).2.1, .int .i64 (resQ p (difT p v u n v' u' n').1 (difT p v u n v' u' n').2.1 (difT p v u n v' u' n').2.2).2.2.1, .int .i64 (resQ p (difT p v u n v' u' n').1 (difT p v u n v' u' n').2.1 (difT p v u n v' u' n').2.2).2.2.2]) rfl rfl (by kernel_rfl) (by kernel_rfl) (by kernel_rfl) (fun _ _ _ h => h) (Or.inl ⟨by rfl, ?_⟩) hHeld ?_
        · intro w' hS; go_simp
        try simp only [Act.put, List.setIfInBounds_toArray, List.set_cons_zero, List.set_cons_succ]
        refine take_at (i := 7) (d := 22) (v := .int .i64 (limC p (difT p v u n v' u' n').1 (difT p v u n v' u' n').2.1 (difT p v u n v' u' n').2.2)) rfl rfl (by kernel_rfl) (by kernel_rfl) (by kernel_rfl) (fun _ _ _ h => h) (Or.inl ⟨by rfl, ?_⟩) hHeld ?_
        · intro w' hS; go_simp
        try simp only [Act.put, List.setIfInBounds_toArray, List.set_cons_zero, List.set_cons_succ]
        obtain ⟨g0, g1, g2, g3⟩ := lies_four HL
        obtain ⟨gf0, gf1, gf2, gf3⟩ := lies_ice HL
        refine wpAnyH_ready (rs := [9]) (by kernel_rfl) (by simp) ?_
        refine AllReadyH.cons rfl (fun K hK => ?_) AllReadyH.nil
        go_simp
        refine hK.out _ _ (sr_set hHeld _ _ _ _ hlt) (fun hHeld => ?_)
        clear hK K
        try simp only [Act.put, List.setIfInBounds_toArray, List.set_cons_zero, List.set_cons_succ]
        refine take_at (i := 10) (d := 8) (v := .int .i64 (limC p (difT p v u n v' u' n').1 (difT p v u n v' u' n').2.1 (difT p v u n v' u' n').2.2)) rfl rfl (by kernel_rfl) (by kernel_rfl) (by kernel_rfl) (fun _ _ _ h => h) (Or.inl ⟨by rfl, ?_⟩) hHeld ?_
        · intro w' hS; go_simp
        try simp only [Act.put, List.setIfInBounds_toArray, List.set_cons_zero, List.set_cons_succ]
        refine wpAnyH_done (by kernel_rfl) ?_ _
        go_wp2
        go_ret2
        exact ⟨rfl, hHeld.1.1⟩
    · skip
      go_simp
      refine hK.out _ _ (sr_alloc hHeld _) (fun hHeld => ?_)
      clear hK K
      try simp only [Act.put, List.setIfInBounds_toArray, List.set_cons_zero, List.set_cons_succ]
      have HL := lies_new w1 (P4 0 0 0 0) 25
      have hlt : w.heap.size + 1 < w1.heap.size := lies_lt ‹SR _ _ _ _ _ _ _ _ _ w1›.1.2.2
      generalize w1.alloc (.cells (P4 0 0 0 0) 25) = wA at HL hHeld ⊢
      obtain ⟨bA, hbA⟩ : ∃ b, w1.heap.size = b := ⟨_, rfl⟩
      rw [hbA] at HL hlt ⊢
      clear hbA
      refine wpAnyH_ready (rs := [2]) (by kernel_rfl) (by simp) ?_
      refine AllReadyH.cons rfl (fun K hK => ?_) AllReadyH.nil
      go_simp
      go_at_call 59; refine (l03Negate_any _ _ _ _ _ H.out.2.1).mono ?_; rintro e wc2 ⟨rfl, hb⟩
      go_simp
      refine hK.out _ _ (sr_next hHeld hb) (fun hHeld => ?_)
      clear hK K
      try simp only [Act.put, List.setIfInBounds_toArray, List.set_cons_zero, List.set_cons_succ]
      replace HL := lies_next HL hb
      clear hb
      refine wpAnyH_ready (rs := [3]) (by kernel_rfl) (by simp) ?_
      refine AllReadyH.cons rfl (fun K hK => ?_) AllReadyH.nil
      go_simp
      go_at_call 54; refine (l03Add_any _ _ _ _ _ _ _ _ H.out.1 H.out.2.2).mono ?_; rw [← HD.out]; rintro e wc3 ⟨rfl, hb⟩
      go_simp
      refine hK.out _ _ (sr_next hHeld hb) (fun hHeld => ?_)
      clear hK K
      try simp only [Act.put, List.setIfInBounds_toArray, List.set_cons_zero, List.set_cons_succ]
      replace HL := lies_next HL hb
      clear hb
      refine wpAnyH_ready (rs := [4]) (by kernel_rfl) (by simp) ?_
      refine AllReadyH.cons rfl (fun K hK => ?_) AllReadyH.nil
      go_simp
      go_at_call 53; refine (l03Result_any _ _ _ _ _).mono ?_; rintro e wc4 ⟨rfl, hb⟩
      go_simp
      refine hK.out _ _ (sr_next hHeld hb) (fun hHeld => ?_)
      clear hK K
      try simp only [Act.put, List.setIfInBounds_toArray, List.set_cons_zero, List.set_cons_succ]
      replace HL := lies_next HL hb
      clear hb
      refine take_at (i := 5) (d := 15) (v := .tuple #[.agg #[.int .i64 (resQ p (difT p v u n v' u' n').1 (difT p v u n v' u' n').2.1 (difT p v u n v' u' n').2.2).1, .int .i64 (resQ p (difT p v u n v' u' n').1 (difT p v u n v' u' n').2.1 (difT p v u n v' u' n').2.2).2.1, .int .i64 (resQ p (difT p v u n v' u' n').1 (difT p v u n v' u' n').2.1 (difT p v u n v' u' n').2.2).2.2.1, .int .i64 (resQ p (difT p v u n v' u' n').1 (difT p v u n v' u' n').2.1 (difT p v u n v' u' n').2.2).2.2.2], .int .i64 (limC p (difT p v u n v' u' n').1 (difT p v u n v' u' n').2.1 (difT p v u n v' u' n').2.2)]) rfl rfl (by kernel_rfl) (by kernel_rfl) (by kernel_rfl) (fun _ _ _ h => h) (Or.inl ⟨by rfl, ?_⟩) hHeld ?_
      · intro w' hS; go_simp
      try simp only [Act.put, List.setIfInBounds_toArray, List.set_cons_zero, List.set_cons_succ]
      refine take_at (i := 6) (d := 21) (v := .agg #[.int .i64 (resQ p (difT p v u n v' u' n').1 (difT p v u n v' u' n').2.1 (difT p v u n v' u' n').2.2).1, .int .i64 (resQ p (difT p v u n v' u' n').1 (difT p v u n v' u' n').2.1 (difT p v u n v' u' n').2.2).2.1, .int .i64 (resQ p (difT p v u n v' u' n').1 (difT p v u n v' u' n').2.1 (difT p v u n v' u' n').2.2).2.2.1, .int .i64 (resQ p (difT p v u n v' u' n').1 (difT p v u n v' u' n').2.1 (difT p v u n v' u' n').2.2).2.2.2]) rfl rfl (by kernel_rfl) (by kernel_rfl) (by kernel_rfl) (fun _ _ _ h => h) (Or.inl ⟨by rfl, ?_⟩) hHeld ?_
      · intro w' hS; go_simp
      try simp only [Act.put, List.setIfInBounds_toArray, List.set_cons_zero, List.set_cons_succ]
      refine take_at (i := 7) (d := 22) (v := .int .i64 (limC p (difT p v u n v' u' n').1 (difT p v u n v' u' n').2.1 (difT p v u n v' u' n').2.2)) rfl rfl (by kernel_rfl) (by kernel_rfl) (by kernel_rfl) (fun _ _ _ h => h) (Or.inl ⟨by rfl, ?_⟩) hHeld ?_
      · intro w' hS; go_simp
      try simp only [Act.put, List.setIfInBounds_toArray, List.set_cons_zero, List.set_cons_succ]
      obtain ⟨g0, g1, g2, g3⟩ := lies_four HL
      obtain ⟨gf0, gf1, gf2, gf3⟩ := lies_ice HL
      refine wpAnyH_ready (rs := [9]) (by kernel_rfl) (by simp) ?_
      refine AllReadyH.cons rfl (fun K hK => ?_) AllReadyH.nil
      go_simp
      refine hK.out _ _ (sr_set hHeld _ _ _ _ hlt) (fun hHeld => ?_)
      clear hK K
      try simp only [Act.put, List.setIfInBounds_toArray, List.set_cons_zero, List.set_cons_succ]
      refine take_at (i := 10) (d := 8) (v := .int .i64 (limC p (difT p v u n v' u' n').1 (difT p v u n v' u' n').2.1 (difT p v u n v' u' n').2.2)) rfl rfl (by kernel_rfl) (by kernel_rfl) (by kernel_rfl) (fun _ _ _ h => h) (Or.inl ⟨by rfl, ?_⟩) hHeld ?_
      · intro w' hS; go_simp
      try simp only [Act.put, List.setIfInBounds_toArray, List.set_cons_zero, List.set_cons_succ]
      refine wpAnyH_done (by kernel_rfl) ?_ _
      go_wp2
      go_ret2
      exact ⟨rfl, hHeld.1.1⟩
  · have hc' : (twoC p v u n q v' u' n' == 0) = false := by simpa using hc
    rw [show eqV p v u n q v' u' n' = 0 by simp [eqV, hc], show eqC p v u n q v' u' n' = twoC p v u n q v' u' n' by simp [eqC, hc]]
    clear hc
    go_enter Try.func25, Try.ntmps25
    go_wp2_with (first | (go_at_call 52; refine (l03Two_any _ _ _ _ _ _ _ _ _).mono ?_; rintro e wn ⟨rfl, hb⟩; (first | have K := k2_first hb | have K := k2_next K hb); obtain ⟨c0, c1, c2, c3⟩ := lies_four K.2.1; obtain ⟨d0, d1, d2, d3⟩ := lies_four K.2.2))
    go_ret2
    exact ⟨rfl, K.1⟩
theorem specDigit_any (p v u n k : Int) (w : World) :
    Calls Try.prog 42 #[.agg (P4 p v u n), .int .i64 k] w fun e w' => e = .returned (.tuple #[.int .i64 (digV p v u n k), .int .i64 (digC p v u n k)]) ∧ Below w.heap.size w w' := by
  cases hx : padB p v u n
  · rw [show digV p v u n k = 0 by simp [digV, hx], show digC p v u n k = 1 by simp [digC, hx]]
    go_enter Try.func42, Try.ntmps42
    go_wp2_with (first | (go_at_call 45; refine (specIsPadic_any _ _ _ _ _).mono ?_; rintro e wn ⟨rfl, hb⟩; (first | have K := k1_first hb | have K := k1_next K hb); obtain ⟨c0, c1, c2, c3⟩ := lies_four K.2))
    go_ret2
    exact ⟨rfl, K.1⟩
  · have hk := padB_ok hx
    obtain ⟨hp2, hp97, hn0, hn1, _, _, _⟩ := pok_bd hk
    have hv0 := hk.2.1
    have hv1 := hk.2.2.1
    by_cases he : v + n ≤ k
    · rw [show digV p v u n k = 0 by simp [digV, he], show digC p v u n k = 4 by simp [digC, hx, he]]
      clear hk
      go_enter Try.func42, Try.ntmps42
      go_wp2_with (first | (go_at_call 45; refine (specIsPadic_any _ _ _ _ _).mono ?_; rintro e wn ⟨rfl, hb⟩; (first | have K := k1_first hb | have K := k1_next K hb); obtain ⟨c0, c1, c2, c3⟩ := lies_four K.2))
      go_ret2
      exact ⟨rfl, K.1⟩
    · have HE := Lib.hid (show digV p v u n k = (if k < v then 0 else u / pw p (k - v) % p) by simp [digV, hx, he])
      have HD := Lib.hid fun w => l03Digit_any p v u n k w hk (by omega)
      rw [show digC p v u n k = 0 by simp [digC, hx, he], HE.out]
      generalize (if k < v then 0 else u / pw p (k - v) % p) = r at *
      clear hk HE
      go_enter Try.func42, Try.ntmps42
      go_wp2_with (first | (go_at_call 45; refine (specIsPadic_any _ _ _ _ _).mono ?_; rintro e wn ⟨rfl, hb⟩; (first | have K := k1_first hb | have K := k1_next K hb); obtain ⟨c0, c1, c2, c3⟩ := lies_four K.2) | (go_at_call 83; refine (HD.out _).mono ?_; rintro e wn ⟨rfl, hb⟩; (first | have K := k1_first hb | have K := k1_next K hb); obtain ⟨c0, c1, c2, c3⟩ := lies_four K.2))
      go_ret2
      exact ⟨rfl, K.1⟩
theorem specMake_any (p m k : Int) (w : World) :
    Calls Try.prog 39 #[.int .i64 p, .int .i64 m, .int .i64 k] w fun e w' => e = .returned (.tuple #[.agg (A4 (madeQ p m k)), .int .i64 (madeC p m k)]) ∧ Below w.heap.size w w' := by
  by_cases h0 : ringM p k = 0
  · have HC := Lib.hid (ringB_f h0)
    rw [show madeQ p m k = (0, 0, 0, 0) by simp [madeQ, h0], show madeC p m k = 1 by simp [madeC, h0]]
    clear h0
    go_enter Try.func39, Try.ntmps39
    go_wp2_with (first | (go_at_call 79; refine (specIsRing_any _ _ _).mono ?_; rw [HC.out]; rintro e wn ⟨rfl, hb⟩; (first | have K := k1_first hb | have K := k1_next K hb); obtain ⟨c0, c1, c2, c3⟩ := lies_four K.2; obtain ⟨cf0, cf1, cf2, cf3⟩ := lies_ice K.2))
    refine bodyPost_ret (v := .tuple #[.agg (P4 0 0 0 0), .int .i64 1]) (by simp [results, Try.results39, go_sem, c0, c1, c2, c3]) rfl ?_
    exact ⟨rfl, below_set4 K.1 (by omega)⟩
  · have HC := Lib.hid (ringB_t h0)
    obtain ⟨hp2, hp97, hk1, hk2, hm1, hm2, _⟩ := ringM_bd h0
    have hsm := Lib.hid (ringM_in h0).1
    cases hv : valueB m
    · rw [show madeQ p m k = (0, 0, 0, 0) by simp [madeQ, hv], show madeC p m k = 2 by simp [madeC, h0, hv]]
      clear h0
      go_enter Try.func39, Try.ntmps39
      go_wp2_with (first | (go_at_call 79; refine (specIsRing_any _ _ _).mono ?_; rw [HC.out]; rintro e wn ⟨rfl, hb⟩; (first | have K := k1_first hb | have K := k1_next K hb); obtain ⟨c0, c1, c2, c3⟩ := lies_four K.2; obtain ⟨cf0, cf1, cf2, cf3⟩ := lies_ice K.2) | (go_at_call 80; refine (l01Is_any _ _).mono ?_; rintro e wn ⟨rfl, rfl⟩))
      refine bodyPost_ret (v := .tuple #[.agg (P4 0 0 0 0), .int .i64 2]) (by simp [results, Try.results39, go_sem, c0, c1, c2, c3]) rfl ?_
      exact ⟨rfl, below_set4 K.1 (by omega)⟩
    · by_cases hm : m = 0
      · subst hm
        rw [show madeQ p 0 k = (0, 0, 0, 0) by simp [madeQ], show madeC p 0 k = 2 by simp [madeC, h0]]
        clear h0
        go_enter Try.func39, Try.ntmps39
        go_wp2_with (first | (go_at_call 79; refine (specIsRing_any _ _ _).mono ?_; rw [HC.out]; rintro e wn ⟨rfl, hb⟩; (first | have K := k1_first hb | have K := k1_next K hb); obtain ⟨c0, c1, c2, c3⟩ := lies_four K.2; obtain ⟨cf0, cf1, cf2, cf3⟩ := lies_ice K.2) | (go_at_call 80; refine (l01Is_any _ _).mono ?_; rintro e wn ⟨rfl, rfl⟩))
        refine bodyPost_ret (v := .tuple #[.agg (P4 0 0 0 0), .int .i64 2]) (by simp [results, Try.results39, go_sem, c0, c1, c2, c3]) rfl ?_
        exact ⟨rfl, below_set4 K.1 (by omega)⟩
      · have hm' : (m == 0) = false := by simpa using hm
        have hvb := valueB_bd hv
        obtain ⟨_, _, k0, k1⟩ := pad_val hp2 hm (by omega)
        have HV := Lib.hid fun w => l01Val_any m p w hp2 hm (by omega)
        have HS := Lib.hid (vRel_start (p := p) hm (by omega))
        have HL := Lib.hid fun w => l02Modulus_any p k w hsm.out hk1 (by omega)
        have HM := Lib.hid fun x w => l01Mod_any x (ringM p k) w hm1 hm2
        have hp4 : ¬ p = 0 := by omega
        have hp5 : (p == 0) = false := by simp; omega
        rw [show madeQ p m k = (p, valCount m p, valRest m p % ringM p k, k) by simp [madeQ, h0, hv, hm], show madeC p m k = 0 by simp [madeC, h0, hv, hm]]
        clear h0 hm
        go_enter Try.func39, Try.ntmps39
        go_wp2_with (first | (go_at_call 79; refine (specIsRing_any _ _ _).mono ?_; rw [HC.out]; rintro e wn ⟨rfl, hb⟩; (first | have K := k1_first hb | have K := k1_next K hb); obtain ⟨c0, c1, c2, c3⟩ := lies_four K.2; obtain ⟨cf0, cf1, cf2, cf3⟩ := lies_ice K.2) | (go_at_call 80; refine (l01Is_any _ _).mono ?_; rintro e wn ⟨rfl, rfl⟩) | (go_at_call 81; refine (HV.out _).mono ?_; rintro e wn ⟨rfl, rfl⟩))
        go_loop [1, 9] (fun a c => ∃ x i : Int, a = .int .i64 x ∧ c = .int .i64 i ∧ VRel m p x i ∧ i ≤ valCount m p) (fun _ c => 100 - (intOf c).toNat)
        case atStart => exact ⟨m, 0, rfl, rfl, HS.out, k0⟩
        case round =>
          obtain ⟨x, i, rfl, rfl, hrel, hk⟩ := hrel
          have b1 := hrel.2.1
          have b2 := hrel.2.2.2.1
          by_cases hlt2 : i < valCount m p
          · have hm0 := (pad_more hp2 hrel).1.2 hlt2
            have H := Lib.hid (vRel_step hp2 hrel hm0)
            clear hrel hm0
            go_wp2
            exact ⟨⟨_, _, rfl, rfl, H.out.1, by omega⟩, by simp only [intOf]; omega⟩
          · have hm0 : ¬ x.tmod p = 0 := fun h => hlt2 ((pad_more hp2 hrel).1.1 h)
            have H := Lib.hid (vRel_end hrel hm0)
            clear hrel hm0
            go_wp2_with (first | (go_at_call 67; refine (HL.out _).mono ?_; rintro e wn ⟨rfl, rfl⟩) | (go_at_call 82; refine (HM.out _ _).mono ?_; rintro e wn ⟨rfl, rfl⟩))
            refine bodyPost_ret (v := .tuple #[.agg (P4 p (valCount m p) (x % ringM p k) k), .int .i64 0]) (by simp [results, Try.results39, go_sem, c0, c1, c2, c3]) rfl ?_
            exact ⟨by rw [← H.out.2], below_set4 K.1 (by omega)⟩
end Go.Proofs.Ytdbiaiimdokleaa
