/- Walks of the laws FnExactAddPadics, FnExactMultiplyPadics and FnExactAreEqualTo: true at every input. -/
import Derived.Test.YtdbiaiimdokleaaPadLaw
namespace Go.Proofs.Ytdbiaiimdokleaa
open Go.RowKit
set_option linter.unusedVariables false
set_option maxRecDepth 20000
set_option linter.unusedSimpArgs false
/-- two numbers that are read, and a third block -/
abbrev SX (w : World) (p v u n q v' u' n' : Int) (b : Nat) (vs : Array Value) (w1 : World) : Prop := SR w p v u n q v' u' n' w1 ∧ Lies w1 b vs
theorem sx_of {w : World} {p v u n q v' u' n' : Int} {b : Nat} {vs : Array Value} {w1 : World} (K : K2 w (P4 p v u n) (P4 q v' u' n') w1.drew) (L : Lies w1 b vs) : SX w p v u n q v' u' n' b vs w1.drew := ⟨sr_of K, L⟩
theorem sx_next {w : World} {p v u n q v' u' n' : Int} {b : Nat} {vs : Array Value} {w1 w2 : World} (h : SX w p v u n q v' u' n' b vs w1) (hb : Below w1.heap.size w1 w2) : SX w p v u n q v' u' n' b vs w2 := ⟨sr_next h.1 hb, lies_next h.2 hb⟩
theorem sx_alloc {w : World} {p v u n q v' u' n' : Int} {b : Nat} {vs : Array Value} {w1 : World} (h : SX w p v u n q v' u' n' b vs w1) (o : Obj) : SX w p v u n q v' u' n' b vs (w1.alloc o) := ⟨sr_alloc h.1 o, lies_alloc h.2 o⟩
theorem sx_set {w : World} {p v u n q v' u' n' : Int} {b : Nat} {vs : Array Value} {w1 : World} {c : Nat} (h : SX w p v u n q v' u' n' b vs w1) (x0 x1 x2 x3 : Value) (hb : w.heap.size + 1 < c) (hc : b < c) :
    SX w p v u n q v' u' n' b vs ((((w1.setCell ⟨c, 0, none⟩ x0).setCell ⟨c, 1, none⟩ x1).setCell ⟨c, 2, none⟩ x2).setCell ⟨c, 3, none⟩ x3) := ⟨sr_set h.1 x0 x1 x2 x3 hb, lies_other4 h.2 (by omega)⟩
set_option maxHeartbeats 4000000 in
theorem exactAdd_walk (p v u n q v' u' n' : Int) (_ : (Lit.int .i64 p).wf = true) (_ : (Lit.int .i64 v).wf = true) (_ : (Lit.int .i64 u).wf = true) (_ : (Lit.int .i64 n).wf = true) (_ : (Lit.int .i64 q).wf = true) (_ : (Lit.int .i64 v').wf = true) (_ : (Lit.int .i64 u').wf = true) (_ : (Lit.int .i64 n').wf = true) (w : World) :
    Calls Try.prog 8 #[.agg (P4 p v u n), .agg (P4 q v' u' n')] w fun e w' => e = .returned (.bool true) ∧ Below w.heap.size w w' := by
  go_enter Try.func8, Try.ntmps8
  go_upto_region 1 with fail
  go_cut [5, 6] (fun s5 s6 wx => ∃ b, s5 = .pointer (some ⟨b, 0, none⟩) ∧ s6 = .int .i64 (sumC p v u n q v' u' n') ∧ K2 w (P4 p v u n) (P4 q v' u' n') wx ∧ Lies wx b (P4 (sumQ p v u n q v' u' n').1 (sumQ p v u n q v' u' n').2.1 (sumQ p v u n q v' u' n').2.2.1 (sumQ p v u n q v' u' n').2.2.2))
  case first =>
    have K := k2_new w (P4 p v u n) (P4 q v' u' n') 42 42
    generalize ((w.alloc (.cells (P4 p v u n) 42)).alloc (.cells (P4 q v' u' n') 42)) = W at K ⊢
    refine wp_region_held_drew (S := SR w p v u n q v' u' n') (by kernel_rfl) (sr_of (k2_drew K)) (fun hHeld => ?_)
    generalize World.drew _ = w1 at hHeld ⊢
    refine take_at (i := 0) (d := 10) (v := .agg #[.int .i64 p, .int .i64 v, .int .i64 u, .int .i64 n]) rfl rfl (by kernel_rfl) (by kernel_rfl) (by kernel_rfl) (fun _ _ _ h => h) (Or.inl ⟨by rfl, ?_⟩) hHeld ?_
    · intro w' hS
      obtain ⟨_, k0, k1, k2, k3, l0, l1, l2, l3⟩ := hS
      go_simp
    try simp only [Act.put, List.setIfInBounds_toArray, List.set_cons_zero, List.set_cons_succ]
    refine take_at (i := 2) (d := 12) (v := .agg #[.int .i64 q, .int .i64 v', .int .i64 u', .int .i64 n']) rfl rfl (by kernel_rfl) (by kernel_rfl) (by kernel_rfl) (fun _ _ _ h => h) (Or.inl ⟨by rfl, ?_⟩) hHeld ?_
    · intro w' hS
      obtain ⟨_, k0, k1, k2, k3, l0, l1, l2, l3⟩ := hS
      go_simp
    try simp only [Act.put, List.setIfInBounds_toArray, List.set_cons_zero, List.set_cons_succ]
    refine wpAnyH_ready (rs := [1, 8]) (by kernel_rfl) (by simp) ?_
    refine AllReadyH.cons rfl (fun K hK => ?_) (AllReadyH.cons rfl (fun K hK => ?_) AllReadyH.nil)
    · skip
      go_simp
      go_at_call 46; refine (toPadic_any _ _ _ _ _).mono ?_; rintro e wc1 ⟨rfl, hb⟩
      go_simp
      refine hK.out _ _ (sr_next hHeld hb) (fun hHeld => ?_)
      clear hK K
      try simp only [Act.put, List.setIfInBounds_toArray, List.set_cons_zero, List.set_cons_succ]
      clear hb
      refine wpAnyH_ready (rs := [3, 8]) (by kernel_rfl) (by simp) ?_
      refine AllReadyH.cons rfl (fun K hK => ?_) (AllReadyH.cons rfl (fun K hK => ?_) AllReadyH.nil)
      · skip
        go_simp
        go_at_call 46; refine (toPadic_any _ _ _ _ _).mono ?_; rintro e wc3 ⟨rfl, hb⟩
        go_simp
        refine hK.out _ _ (sr_next hHeld hb) (fun hHeld => ?_)
        clear hK K
        try simp only [Act.put, List.setIfInBounds_toArray, List.set_cons_zero, List.set_cons_succ]
        clear hb
        refine wpAnyH_ready (rs := [4, 8]) (by kernel_rfl) (by simp) ?_
        refine AllReadyH.cons rfl (fun K hK => ?_) (AllReadyH.cons rfl (fun K hK => ?_) AllReadyH.nil)
        · skip
          go_simp
          go_at_call 19; refine (specAdd_any _ _ _ _ _ _ _ _ _).mono ?_; rintro e wc4 ⟨rfl, hb⟩
          go_simp
          refine hK.out _ _ (sr_next hHeld hb) (fun hHeld => ?_)
          clear hK K
          try simp only [Act.put, List.setIfInBounds_toArray, List.set_cons_zero, List.set_cons_succ]
          clear hb
          refine take_at (i := 5) (d := 9) (v := .tuple #[.agg #[.int .i64 (sumQ p v u n q v' u' n').1, .int .i64 (sumQ p v u n q v' u' n').2.1, .int .i64 (sumQ p v u n q v' u' n').2.2.1, .int .i64 (sumQ p v u n q v' u' n').2.2.2], .int .i64 (sumC p v u n q v' u' n')]) rfl rfl (by kernel_rfl) (by kernel_rfl) (by kernel_rfl) (fun _ _ _ h => h) (Or.inl ⟨by rfl, ?_⟩) hHeld ?_
          · intro w' hS; go_simp
          try simp only [Act.put, List.setIfInBounds_toArray, List.set_cons_zero, List.set_cons_succ]
          refine take_at (i := 6) (d := 15) (v := .agg #[.int .i64 (sumQ p v u n q v' u' n').1, .int .i64 (sumQ p v u n q v' u' n').2.1, .int .i64 (sumQ p v u n q v' u' n').2.2.1, .int .i64 (sumQ p v u n q v' u' n').2.2.2]) rfl rfl (by kernel_rfl) (by kernel_rfl) (by kernel_rfl) (fun _ _ _ h => h) (Or.inl ⟨by rfl, ?_⟩) hHeld ?_
          · intro w' hS; go_simp
          try simp only [Act.put, List.setIfInBounds_toArray, List.set_cons_zero, List.set_cons_succ]
          refine take_at (i := 7) (d := 16) (v := .int .i64 (sumC p v u n q v' u' n')) rfl rfl (by kernel_rfl) (by kernel_rfl) (by kernel_rfl) (fun _ _ _ h => h) (Or.inl ⟨by rfl, ?_⟩) hHeld ?_
          · intro w' hS; go_simp
          try simp only [Act.put, List.setIfInBounds_toArray, List.set_cons_zero, List.set_cons_succ]
          refine wpAnyH_ready (rs := [8]) (by kernel_rfl) (by simp) ?_
          refine AllReadyH.cons rfl (fun K hK => ?_) AllReadyH.nil
          go_simp
          refine hK.out _ _ (sr_alloc hHeld _) (fun hHeld => ?_)
          clear hK K
          try simp only [Act.put, List.setIfInBounds_toArray, List.set_cons_zero, List.set_cons_succ]
          have HL := lies_new wc4 (P4 0 0 0 0) 25
          have hlt : w.heap.size + 1 < wc4.heap.size := lies_lt ‹SR _ _ _ _ _ _ _ _ _ wc4›.1.2.2
          generalize wc4.alloc (.cells (P4 0 0 0 0) 25) = wA at HL hHeld ⊢
          obtain ⟨bA, hbA⟩ : ∃ b, wc4.heap.size = b := ⟨_, rfl⟩
          rw [hbA] at HL hlt ⊢
          clear hbA
          obtain ⟨g0, g1, g2, g3⟩ := lies_four HL
          obtain ⟨gf0, gf1, gf2, gf3⟩ := lies_ice HL
          refine wpAnyH_ready (rs := [9]) (by kernel_rfl) (by simp) ?_
          refine AllReadyH.cons rfl (fun K hK => ?_) AllReadyH.nil
          go_simp
          refine hK.out _ _ (sr_set hHeld _ _ _ _ hlt) (fun hHeld => ?_)
          clear hK K
          try simp only [Act.put, List.setIfInBounds_toArray, List.set_cons_zero, List.set_cons_succ]
          refine take_at (i := 10) (d := 6) (v := .int .i64 (sumC p v u n q v' u' n')) rfl rfl (by kernel_rfl) (by kernel_rfl) (by kernel_rfl) (fun _ _ _ h => h) (Or.inl ⟨by rfl, ?_⟩) hHeld ?_
          · intro w' hS; go_simp
          try simp only [Act.put, List.setIfInBounds_toArray, List.set_cons_zero, List.set_cons_succ]
          refine wpAnyH_done (by kernel_rfl) ?_ _
          go_wp2_with fail
          go_meet
          case rel => exact ⟨_, rfl, rfl, hHeld.1, lies_set4 HL⟩
        · skip
          go_simp
          refine hK.out _ _ (sr_alloc hHeld _) (fun hHeld => ?_)
          clear hK K
          try simp only [Act.put, List.setIfInBounds_toArray, List.set_cons_zero, List.set_cons_succ]
          have HL := lies_new wc3 (P4 0 0 0 0) 25
          have hlt : w.heap.size + 1 < wc3.heap.size := lies_lt ‹SR _ _ _ _ _ _ _ _ _ wc3›.1.2.2
          generalize wc3.alloc (.cells (P4 0 0 0 0) 25) = wA at HL hHeld ⊢
          obtain ⟨bA, hbA⟩ : ∃ b, wc3.heap.size = b := ⟨_, rfl⟩
          rw [hbA] at HL hlt ⊢
          clear hbA
          refine wpAnyH_ready (rs := [4]) (by kernel_rfl) (by simp) ?_
          refine AllReadyH.cons rfl (fun K hK => ?_) AllReadyH.nil
          go_simp
          go_at_call 19; refine (specAdd_any _ _ _ _ _ _ _ _ _).mono ?_; rintro e wc4 ⟨rfl, hb⟩
          go_simp
          refine hK.out _ _ (sr_next hHeld hb) (fun hHeld => ?_)
          clear hK K
          try simp only [Act.put, List.setIfInBounds_toArray, List.set_cons_zero, List.set_cons_succ]
          replace HL := lies_next HL hb
          clear hb
          refine take_at (i := 5) (d := 9) (v := .tuple #[.agg #[.int .i64 (sumQ p v u n q v' u' n').1, .int .i64 (sumQ p v u n q v' u' n').2.1, .int .i64 (sumQ p v u n q v' u' n').2.2.1, .int .i64 (sumQ p v u n q v' u' n').2.2.2], .int .i64 (sumC p v u n q v' u' n')]) rfl rfl (by kernel_rfl) (by kernel_rfl) (by kernel_rfl) (fun _ _ _ h => h) (Or.inl ⟨by rfl, ?_⟩) hHeld ?_
          · intro w' hS; go_simp
          try simp only [Act.put, List.setIfInBounds_toArray, List.set_cons_zero, List.set_cons_succ]
          refine take_at (i := 6) (d := 15) (v := .agg #[.int .i64 (sumQ p v u n q v' u' n').1, .int .i64 (sumQ p v u n q v' u' n').2.1, .int .i64 (sumQ p v u n q v' u' n').2.2.1, .int .i64 (sumQ p v u n q v' u' n').2.2.2]) rfl rfl (by kernel_rfl) (by kernel_rfl) (by kernel_rfl) (fun _ _ _ h => h) (Or.inl ⟨by rfl, ?_⟩) hHeld ?_
          · intro w' hS; go_simp
          try simp only [Act.put, List.setIfInBounds_toArray, List.set_cons_zero, List.set_cons_succ]
          refine take_at (i := 7) (d := 16) (v := .int .i64 (sumC p v u n q v' u' n')) rfl rfl (by kernel_rfl) (by kernel_rfl) (by kernel_rfl) (fun _ _ _ h => h) (Or.inl ⟨by rfl, ?_⟩) hHeld ?_
          · intro w' hS; go_simp
          try simp only [Act.put, List.setIfInBounds_toArray, List.set_cons_zero, List.set_cons_succ]
          obtain ⟨g0, g1, g2, g3⟩ := lies_four HL
          obtain ⟨gf0, gf1, gf2, gf3⟩ := lies_ice HL
          refine wpAnyH_ready (rs := [9]) (by kernel_rfl) (by simp) ?_
          refine AllReadyH.cons rfl (fun K hK => ?_) AllReadyH.nil
          go_simp
          refine hK.out _ _ (sr_set hHeld _ _ _ _ hlt) (fun hHeld => ?_)
          clear hK K
          try simp only [Act.put, List.setIfInBounds_toArray, List.set_cons_zero, List.set_cons_succ]
          refine take_at (i := 10) (d := 6) (v := .int .i64 (sumC p v u n q v' u' n')) rfl rfl (by kernel_rfl) (by kernel_rfl) (by kernel_rfl) (fun _ _ _ h => h) (Or.inl ⟨by rfl, ?_⟩) hHeld ?_
          · intro w' hS; go_simp
          try simp only [Act.put, List.setIfInBounds_toArray, List.set_cons_zero, List.set_cons_succ]
          refine wpAnyH_done (by kernel_rfl) ?_ _
          go_wp2_with fail
          go_meet
          case rel => exact ⟨_, rfl, rfl, hHeld.1, lies_set4 HL⟩
      · skip
        go_simp
        refine hK.out _ _ (sr_alloc hHeld _) (fun hHeld => ?_)
        clear hK K
        try simp only [Act.put, List.setIfInBounds_toArray, List.set_cons_zero, List.set_cons_succ]
        have HL := lies_new wc1 (P4 0 0 0 0) 25
        have hlt : w.heap.size + 1 < wc1.heap.size := lies_lt ‹SR _ _ _ _ _ _ _ _ _ wc1›.1.2.2
        generalize wc1.alloc (.cells (P4 0 0 0 0) 25) = wA at HL hHeld ⊢
        obtain ⟨bA, hbA⟩ : ∃ b, wc1.heap.size = b := ⟨_, rfl⟩
        rw [hbA] at HL hlt ⊢
        clear hbA
        refine wpAnyH_ready (rs := [3]) (by kernel_rfl) (by simp) ?_
        refine AllReadyH.cons rfl (fun K hK => ?_) AllReadyH.nil
        go_simp
        go_at_call 46; refine (toPadic_any _ _ _ _ _).mono ?_; rintro e wc3 ⟨rfl, hb⟩
        go_simp
        refine hK.out _ _ (sr_next hHeld hb) (fun hHeld => ?_)
        clear hK K
        try simp only [Act.put, List.setIfInBounds_toArray, List.set_cons_zero, List.set_cons_succ]
        replace HL := lies_next HL hb
        clear hb
        refine wpAnyH_ready (rs := [4]) (by kernel_rfl) (by simp) ?_
        refine AllReadyH.cons rfl (fun K hK => ?_) AllReadyH.nil
        go_simp
        go_at_call 19; refine (specAdd_any _ _ _ _ _ _ _ _ _).mono ?_; rintro e wc4 ⟨rfl, hb⟩
        go_simp
        refine hK.out _ _ (sr_next hHeld hb) (fun hHeld => ?_)
        clear hK K
        try simp only [Act.put, List.setIfInBounds_toArray, List.set_cons_zero, List.set_cons_succ]
        replace HL := lies_next HL hb
        clear hb
        refine take_at (i := 5) (d := 9) (v := .tuple #[.agg #[.int .i64 (sumQ p v u n q v' u' n').1, .int .i64 (sumQ p v u n q v' u' n').2.1, .int .i64 (sumQ p v u n q v' u' n').2.2.1, .int .i64 (sumQ p v u n q v' u' n').2.2.2], .int .i64 (sumC p v u n q v' u' n')]) rfl rfl (by kernel_rfl) (by kernel_rfl) (by kernel_rfl) (fun _ _ _ h => h) (Or.inl ⟨by rfl, ?_⟩) hHeld ?_
        · intro w' hS; go_simp
        try simp only [Act.put, List.setIfInBounds_toArray, List.set_cons_zero, List.set_cons_succ]
        refine take_at (i := 6) (d := 15) (v := .agg #[.int .i64 (sumQ p v u n q v' u' n').1, .int .i64 (sumQ p v u n q v' u' n').2.1, .int .i64 (sumQ p v u n q v' u' n').2.2.1, .int .i64 (sumQ p v u n q v' u' n').2.2.2]) rfl rfl (by kernel_rfl) (by kernel_rfl) (by kernel_rfl) (fun _ _ _ h => h) (Or.inl ⟨by rfl, ?_⟩) hHeld ?_
        · intro w' hS; go_simp
        try simp only [Act.put, List.setIfInBounds_toArray, List.set_cons_zero, List.set_cons_succ]
        refine take_at (i := 7) (d := 16) (v := .int .i64 (sumC p v u n q v' u' n')) rfl rfl (by kernel_rfl) (by kernel_rfl) (by kernel_rfl) (fun _ _ _ h => h) (Or.inl ⟨by rfl, ?_⟩) hHeld ?_
        · intro w' hS; go_simp
        try simp only [Act.put, List.setIfInBounds_toArray, List.set_cons_zero, List.set_cons_succ]
        obtain ⟨g0, g1, g2, g3⟩ := lies_four HL
        obtain ⟨gf0, gf1, gf2, gf3⟩ := lies_ice HL
        refine wpAnyH_ready (rs := [9]) (by kernel_rfl) (by simp) ?_
        refine AllReadyH.cons rfl (fun K hK => ?_) AllReadyH.nil
        go_simp
        refine hK.out _ _ (sr_set hHeld _ _ _ _ hlt) (fun hHeld => ?_)
        clear hK K
        try simp only [Act.put, List.setIfInBounds_toArray, List.set_cons_zero, List.set_cons_succ]
        refine take_at (i := 10) (d := 6) (v := .int .i64 (sumC p v u n q v' u' n')) rfl rfl (by kernel_rfl) (by kernel_rfl) (by kernel_rfl) (fun _ _ _ h => h) (Or.inl ⟨by rfl, ?_⟩) hHeld ?_
        · intro w' hS; go_simp
        try simp only [Act.put, List.setIfInBounds_toArray, List.set_cons_zero, List.set_cons_succ]
        refine wpAnyH_done (by kernel_rfl) ?_ _
        go_wp2_with fail
        go_meet
        case rel => exact ⟨_, rfl, rfl, hHeld.1, lies_set4 HL⟩
    · skip
      go_simp
      refine hK.out _ _ (sr_alloc hHeld _) (fun hHeld => ?_)
      clear hK K
      try simp only [Act.put, List.setIfInBounds_toArray, List.set_cons_zero, List.set_cons_succ]
      have HL := lies_new w1 (P4 0 0 0 0) 25
      have hlt : w.heap.size + 1 < w1.heap.size := lies_lt ‹SR _ _ _ _ _ _ _ _ _ w1›.1.2.2
      generalize w1.alloc (.cells (P4 0 0 0 0) 25) = wA at HL hHeld ⊢
      obtain ⟨bA, hbA⟩ : ∃ b, w1.heap.size = b := ⟨_, rfl⟩
      rw [hbA] at HL hlt ⊢
      clear hbA
      refine wpAnyH_ready (rs := [1]) (by kernel_rfl) (by simp) ?_
      refine AllReadyH.cons rfl (fun K hK => ?_) AllReadyH.nil
      go_simp
      go_at_call 46; refine (toPadic_any _ _ _ _ _).mono ?_; rintro e wc1 ⟨rfl, hb⟩
      go_simp
      refine hK.out _ _ (sr_next hHeld hb) (fun hHeld => ?_)
      clear hK K
      try simp only [Act.put, List.setIfInBounds_toArray, List.set_cons_zero, List.set_cons_succ]
      replace HL := lies_next HL hb
      clear hb
      refine wpAnyH_ready (rs := [3]) (by kernel_rfl) (by simp) ?_
      refine AllReadyH.cons rfl (fun K hK => ?_) AllReadyH.nil
      go_simp
      go_at_call 46; refine (toPadic_any _ _ _ _ _).mono ?_; rintro e wc3 ⟨rfl, hb⟩
      go_simp
      refine hK.out _ _ (sr_next hHeld hb) (fun hHeld => ?_)
      clear hK K
      try simp only [Act.put, List.setIfInBounds_toArray, List.set_cons_zero, List.set_cons_succ]
      replace HL := lies_next HL hb
      clear hb
      refine wpAnyH_ready (rs := [4]) (by kernel_rfl) (by simp) ?_
      refine AllReadyH.cons rfl (fun K hK => ?_) AllReadyH.nil
      go_simp
      go_at_call 19; refine (specAdd_any _ _ _ _ _ _ _ _ _).mono ?_; rintro e wc4 ⟨rfl, hb⟩
      go_simp
      refine hK.out _ _ (sr_next hHeld hb) (fun hHeld => ?_)
      clear hK K
      try simp only [Act.put, List.setIfInBounds_toArray, List.set_cons_zero, List.set_cons_succ]
      replace HL := lies_next HL hb
      clear hb
      refine take_at (i := 5) (d := 9) (v := .tuple #[.agg #[.int .i64 (sumQ p v u n q v' u' n').1, .int .i64 (sumQ p v u n q v' u' n').2.1, .int .i64 (sumQ p v u n q v' u' n').2.2.1, .int .i64 (sumQ p v u n q v' u' n').2.2.2], .int .i64 (sumC p v u n q v' u' n')]) rfl rfl (by kernel_rfl) (by kernel_rfl) (by kernel_rfl) (fun _ _ _ h => h) (Or.inl ⟨by rfl, ?_⟩) hHeld ?_
      · intro w' hS; go_simp
      try simp only [Act.put, List.setIfInBounds_toArray, List.set_cons_zero, List.set_cons_succ]
      refine take_at (i := 6) (d := 15) (v := .agg #[.int .i64 (sumQ p v u n q v' u' n').1, .int .i64 (sumQ p v u n q v' u' n').2.1, .int .i64 (sumQ p v u n q v' u' n').2.2.1, .int .i64 (sumQ p v u n q v' u' n').2.2.2]) rfl rfl (by kernel_rfl) (by kernel_rfl) (by kernel_rfl) (fun _ _ _ h => h) (Or.inl ⟨by rfl, ?_⟩) hHeld ?_
      · intro w' hS; go_simp
      try simp only [Act.put, List.setIfInBounds_toArray, List.set_cons_zero, List.set_cons_succ]
      refine take_at (i := 7) (d := 16) (v := .int .i64 (sumC p v u n q v' u' n')) rfl rfl (by kernel_rfl) (by kernel_rfl) (by kernel_rfl) (fun _ _ _ h => h) (Or.inl ⟨by rfl, ?_⟩) hHeld ?_
      · intro w' hS; go_simp
      try simp only [Act.put, List.setIfInBounds_toArray, List.set_cons_zero, List.set_cons_succ]
      obtain ⟨g0, g1, g2, g3⟩ := lies_four HL
      obtain ⟨gf0, gf1, gf2, gf3⟩ := lies_ice HL
      refine wpAnyH_ready (rs := [9]) (by kernel_rfl) (by simp) ?_
      refine AllReadyH.cons rfl (fun K hK => ?_) AllReadyH.nil
      go_simp
      refine hK.out _ _ (sr_set hHeld _ _ _ _ hlt) (fun hHeld => ?_)
      clear hK K
      try simp only [Act.put, List.setIfInBounds_toArray, List.set_cons_zero, List.set_cons_succ]
      refine take_at (i := 10) (d := 6) (v := .int .i64 (sumC p v u n q v' u' n')) rfl rfl (by kernel_rfl) (by kernel_rfl) (by kernel_rfl) (fun _ _ _ h => h) (Or.inl ⟨by rfl, ?_⟩) hHeld ?_
      · intro w' hS; go_simp
      try simp only [Act.put, List.setIfInBounds_toArray, List.set_cons_zero, List.set_cons_succ]
      refine wpAnyH_done (by kernel_rfl) ?_ _
      go_wp2_with fail
      go_meet
      case rel => exact ⟨_, rfl, rfl, hHeld.1, lies_set4 HL⟩
  case rest =>
  obtain ⟨b1, rfl, rfl, K, L⟩ := hcut
  go_upto_region 2 with fail
  go_cut [7, 8] (fun s7 s8 wx => ∃ b, s7 = .pointer (some ⟨b, 0, none⟩) ∧ s8 = .int .i64 (sumC p v u n q v' u' n') ∧ Below w.heap.size w wx ∧ Lies wx b (P4 (sumQ p v u n q v' u' n').1 (sumQ p v u n q v' u' n').2.1 (sumQ p v u n q v' u' n').2.2.1 (sumQ p v u n q v' u' n').2.2.2) ∧ Lies wx b1 (P4 (sumQ p v u n q v' u' n').1 (sumQ p v u n q v' u' n').2.1 (sumQ p v u n q v' u' n').2.2.1 (sumQ p v u n q v' u' n').2.2.2))
  case first =>
    refine wp_region_held_drew (S := SX w p v u n q v' u' n' b1 (P4 (sumQ p v u n q v' u' n').1 (sumQ p v u n q v' u' n').2.1 (sumQ p v u n q v' u' n').2.2.1 (sumQ p v u n q v' u' n').2.2.2)) (by kernel_rfl) (sx_of (k2_drew K) L) (fun hHeld => ?_)
    generalize World.drew _ = w1 at hHeld ⊢
    refine take_at (i := 0) (d := 18) (v := .agg #[.int .i64 p, .int .i64 v, .int .i64 u, .int .i64 n]) rfl rfl (by kernel_rfl) (by kernel_rfl) (by kernel_rfl) (fun _ _ _ h => h) (Or.inl ⟨by rfl, ?_⟩) hHeld ?_
    · intro w' hS
      obtain ⟨⟨_, k0, k1, k2, k3, l0, l1, l2, l3⟩, _⟩ := hS
      go_simp
    try simp only [Act.put, List.setIfInBounds_toArray, List.set_cons_zero, List.set_cons_succ]
    refine take_at (i := 2) (d := 20) (v := .agg #[.int .i64 q, .int .i64 v', .int .i64 u', .int .i64 n']) rfl rfl (by kernel_rfl) (by kernel_rfl) (by kernel_rfl) (fun _ _ _ h => h) (Or.inl ⟨by rfl, ?_⟩) hHeld ?_
    · intro w' hS
      obtain ⟨⟨_, k0, k1, k2, k3, l0, l1, l2, l3⟩, _⟩ := hS
      go_simp
    try simp only [Act.put, List.setIfInBounds_toArray, List.set_cons_zero, List.set_cons_succ]
    refine wpAnyH_ready (rs := [1, 8]) (by kernel_rfl) (by simp) ?_
    refine AllReadyH.cons rfl (fun K hK => ?_) (AllReadyH.cons rfl (fun K hK => ?_) AllReadyH.nil)
    · skip
      go_simp
      go_at_call 46; refine (toPadic_any _ _ _ _ _).mono ?_; rintro e wc1 ⟨rfl, hb⟩
      go_simp
      refine hK.out _ _ (sx_next hHeld hb) (fun hHeld => ?_)
      clear hK K
      try simp only [Act.put, List.setIfInBounds_toArray, List.set_cons_zero, List.set_cons_succ]
      clear hb
      refine wpAnyH_ready (rs := [3, 8]) (by kernel_rfl) (by simp) ?_
      refine AllReadyH.cons rfl (fun K hK => ?_) (AllReadyH.cons rfl (fun K hK => ?_) AllReadyH.nil)
      · skip
        go_simp
        go_at_call 46; refine (toPadic_any _ _ _ _ _).mono ?_; rintro e wc3 ⟨rfl, hb⟩
        go_simp
        refine hK.out _ _ (sx_next hHeld hb) (fun hHeld => ?_)
        clear hK K
        try simp only [Act.put, List.setIfInBounds_toArray, List.set_cons_zero, List.set_cons_succ]
        clear hb
        refine wpAnyH_ready (rs := [4, 8]) (by kernel_rfl) (by simp) ?_
        refine AllReadyH.cons rfl (fun K hK => ?_) (AllReadyH.cons rfl (fun K hK => ?_) AllReadyH.nil)
        · skip
          go_simp
          go_at_call 18; refine (implAdd_any _ _ _ _ _ _ _ _ _).mono ?_; rintro e wc4 ⟨rfl, hb⟩
          go_simp
          refine hK.out _ _ (sx_next hHeld hb) (fun hHeld => ?_)
          clear hK K
          try simp only [Act.put, List.setIfInBounds_toArray, List.set_cons_zero, List.set_cons_succ]
          clear hb
          refine take_at (i := 5) (d := 17) (v := .tuple #[.agg #[.int .i64 (sumQ p v u n q v' u' n').1, .int .i64 (sumQ p v u n q v' u' n').2.1, .int .i64 (sumQ p v u n q v' u' n').2.2.1, .int .i64 (sumQ p v u n q v' u' n').2.2.2], .int .i64 (sumC p v u n q v' u' n')]) rfl rfl (by kernel_rfl) (by kernel_rfl) (by kernel_rfl) (fun _ _ _ h => h) (Or.inl ⟨by rfl, ?_⟩) hHeld ?_
          · intro w' hS; go_simp
          try simp only [Act.put, List.setIfInBounds_toArray, List.set_cons_zero, List.set_cons_succ]
          refine take_at (i := 6) (d := 23) (v := .agg #[.int .i64 (sumQ p v u n q v' u' n').1, .int .i64 (sumQ p v u n q v' u' n').2.1, .int .i64 (sumQ p v u n q v' u' n').2.2.1, .int .i64 (sumQ p v u n q v' u' n').2.2.2]) rfl rfl (by kernel_rfl) (by kernel_rfl) (by kernel_rfl) (fun _ _ _ h => h) (Or.inl ⟨by rfl, ?_⟩) hHeld ?_
          · intro w' hS; go_simp
          try simp only [Act.put, List.setIfInBounds_toArray, List.set_cons_zero, List.set_cons_succ]
          refine take_at (i := 7) (d := 24) (v := .int .i64 (sumC p v u n q v' u' n')) rfl rfl (by kernel_rfl) (by kernel_rfl) (by kernel_rfl) (fun _ _ _ h => h) (Or.inl ⟨by rfl, ?_⟩) hHeld ?_
          · intro w' hS; go_simp
          try simp only [Act.put, List.setIfInBounds_toArray, List.set_cons_zero, List.set_cons_succ]
          refine wpAnyH_ready (rs := [8]) (by kernel_rfl) (by simp) ?_
          refine AllReadyH.cons rfl (fun K hK => ?_) AllReadyH.nil
          go_simp
          refine hK.out _ _ (sx_alloc hHeld _) (fun hHeld => ?_)
          clear hK K
          try simp only [Act.put, List.setIfInBounds_toArray, List.set_cons_zero, List.set_cons_succ]
          have HL := lies_new wc4 (P4 0 0 0 0) 25
          have hlt : w.heap.size + 1 < wc4.heap.size := lies_lt ‹SX _ _ _ _ _ _ _ _ _ _ _ wc4›.1.1.2.2
          have hlt2 : b1 < wc4.heap.size := lies_lt ‹SX _ _ _ _ _ _ _ _ _ _ _ wc4›.2
          generalize wc4.alloc (.cells (P4 0 0 0 0) 25) = wA at HL hHeld ⊢
          obtain ⟨bA, hbA⟩ : ∃ b, wc4.heap.size = b := ⟨_, rfl⟩
          rw [hbA] at HL hlt hlt2 ⊢
          clear hbA
          obtain ⟨g0, g1, g2, g3⟩ := lies_four HL
          obtain ⟨gf0, gf1, gf2, gf3⟩ := lies_ice HL
          refine wpAnyH_ready (rs := [9]) (by kernel_rfl) (by simp) ?_
          refine AllReadyH.cons rfl (fun K hK => ?_) AllReadyH.nil
          go_simp
          refine hK.out _ _ (sx_set hHeld _ _ _ _ hlt hlt2) (fun hHeld => ?_)
          clear hK K
          try simp only [Act.put, List.setIfInBounds_toArray, List.set_cons_zero, List.set_cons_succ]
          refine take_at (i := 10) (d := 8) (v := .int .i64 (sumC p v u n q v' u' n')) rfl rfl (by kernel_rfl) (by kernel_rfl) (by kernel_rfl) (fun _ _ _ h => h) (Or.inl ⟨by rfl, ?_⟩) hHeld ?_
          · intro w' hS; go_simp
          try simp only [Act.put, List.setIfInBounds_toArray, List.set_cons_zero, List.set_cons_succ]
          refine wpAnyH_done (by kernel_rfl) ?_ _
          go_wp2_with fail
          go_meet
          case rel => exact ⟨_, rfl, rfl, hHeld.1.1.1, lies_set4 HL, hHeld.2⟩
        · skip
          go_simp
          refine hK.out _ _ (sx_alloc hHeld _) (fun hHeld => ?_)
          clear hK K
          try simp only [Act.put, List.setIfInBounds_toArray, List.set_cons_zero, List.set_cons_succ]
          have HL := lies_new wc3 (P4 0 0 0 0) 25
          have hlt : w.heap.size + 1 < wc3.heap.size := lies_lt ‹SX _ _ _ _ _ _ _ _ _ _ _ wc3›.1.1.2.2
          have hlt2 : b1 < wc3.heap.size := lies_lt ‹SX _ _ _ _ _ _ _ _ _ _ _ wc3›.2
          generalize wc3.alloc (.cells (P4 0 0 0 0) 25) = wA at HL hHeld ⊢
          obtain ⟨bA, hbA⟩ : ∃ b, wc3.heap.size = b := ⟨_, rfl⟩
          rw [hbA] at HL hlt hlt2 ⊢
          clear hbA
          refine wpAnyH_ready (rs := [4]) (by kernel_rfl) (by simp) ?_
          refine AllReadyH.cons rfl (fun K hK => ?_) AllReadyH.nil
          go_simp
          go_at_call 18; refine (implAdd_any _ _ _ _ _ _ _ _ _).mono ?_; rintro e wc4 ⟨rfl, hb⟩
          go_simp
          refine hK.out _ _ (sx_next hHeld hb) (fun hHeld => ?_)
          clear hK K
          try simp only [Act.put, List.setIfInBounds_toArray, List.set_cons_zero, List.set_cons_succ]
          replace HL := lies_next HL hb
          clear hb
          refine take_at (i := 5) (d := 17) (v := .tuple #[.agg #[.int .i64 (sumQ p v u n q v' u' n').1, .int .i64 (sumQ p v u n q v' u' n').2.1, .int .i64 (sumQ p v u n q v' u' n').2.2.1, .int .i64 (sumQ p v u n q v' u' n').2.2.2], .int .i64 (sumC p v u n q v' u' n')]) rfl rfl (by kernel_rfl) (by kernel_rfl) (by kernel_rfl) (fun _ _ _ h => h) (Or.inl ⟨by rfl, ?_⟩) hHeld ?_
          · intro w' hS; go_simp
          try simp only [Act.put, List.setIfInBounds_toArray, List.set_cons_zero, List.set_cons_succ]
          refine take_at (i := 6) (d := 23) (v := .agg #[.int .i64 (sumQ p v u n q v' u' n').1, .int .i64 (sumQ p v u n q v' u' n').2.1, .int .i64 (sumQ p v u n q v' u' n').2.2.1, .int .i64 (sumQ p v u n q v' u' n').2.2.2]) rfl rfl (by kernel_rfl) (by kernel_rfl) (by kernel_rfl) (fun _ _ _ h => h) (Or.inl ⟨by rfl, ?_⟩) hHeld ?_
          · intro w' hS; go_simp
          try simp only [Act.put, List.setIfInBounds_toArray, List.set_cons_zero, List.set_cons_succ]
          refine take_at (i := 7) (d := 24) (v := .int .i64 (sumC p v u n q v' u' n')) rfl rfl (by kernel_rfl) (by kernel_rfl) (by kernel_rfl) (fun _ _ _ h => h) (Or.inl ⟨by rfl, ?_⟩) hHeld ?_
          · intro w' hS; go_simp
          try simp only [Act.put, List.setIfInBounds_toArray, List.set_cons_zero, List.set_cons_succ]
          obtain ⟨g0, g1, g2, g3⟩ := lies_four HL
          obtain ⟨gf0, gf1, gf2, gf3⟩ := lies_ice HL
          refine wpAnyH_ready (rs := [9]) (by kernel_rfl) (by simp) ?_
          refine AllReadyH.cons rfl (fun K hK => ?_) AllReadyH.nil
          go_simp
          refine hK.out _ _ (sx_set hHeld _ _ _ _ hlt hlt2) (fun hHeld => ?_)
          clear hK K
          try simp only [Act.put, List.setIfInBounds_toArray, List.set_cons_zero, List.set_cons_succ]
          refine take_at (i := 10) (d := 8) (v := .int .i64 (sumC p v u n q v' u' n')) rfl rfl (by kernel_rfl) (by kernel_rfl) (by kernel_rfl) (fun _ _ _ h => h) (Or.inl ⟨by rfl, ?_⟩) hHeld ?_
          · intro w' hS; go_simp
          try simp only [Act.put, List.setIfInBounds_toArray, List.set_cons_zero, List.set_cons_succ]
          refine wpAnyH_done (by kernel_rfl) ?_ _
          go_wp2_with fail
          go_meet
          case rel => exact ⟨_, rfl, rfl, hHeld.1.1.1, lies_set4 HL, hHeld.2⟩
      · skip
        go_simp
        refine hK.out _ _ (sx_alloc hHeld _) (fun hHeld => ?_)
        clear hK K
        try simp only [Act.put, List.setIfInBounds_toArray, List.set_cons_zero, List.set_cons_succ]
        have HL := lies_new wc1 (P4 0 0 0 0) 25
        have hlt : w.heap.size + 1 < wc1.heap.size := lies_lt ‹SX _ _ _ _ _ _ _ _ _ _ _ wc1›.1.1.2.2
        have hlt2 : b1 < wc1.heap.size := lies_lt ‹SX _ _ _ _ _ _ _ _ _ _ _ wc1›.2
        generalize wc1.alloc (.cells (P4 0 0 0 0) 25) = wA at HL hHeld ⊢
        obtain ⟨bA, hbA⟩ : ∃ b, wc1.heap.size = b := ⟨_, rfl⟩
        rw [hbA] at HL hlt hlt2 ⊢
        clear hbA
        refine wpAnyH_ready (rs := [3]) (by kernel_rfl) (by simp) ?_
        refine AllReadyH.cons rfl (fun K hK => ?_) AllReadyH.nil
        go_simp
        go_at_call 46; refine (toPadic_any _ _ _ _ _).mono ?_; rintro e wc3 ⟨rfl, hb⟩
        go_simp
        refine hK.out _ _ (sx_next hHeld hb) (fun hHeld => ?_)
        clear hK K
        try simp only [Act.put, List.setIfInBounds_toArray, List.set_cons_zero, List.set_cons_succ]
        replace HL := lies_next HL hb
        clear hb
        refine wpAnyH_ready (rs := [4]) (by kernel_rfl) (by simp) ?_
        refine AllReadyH.cons rfl (fun K hK => ?_) AllReadyH.nil
        go_simp
        go_at_call 18; refine (implAdd_any _ _ _ _ _ _ _ _ _).mono ?_; rintro e wc4 ⟨rfl, hb⟩
        go_simp
        refine hK.out _ _ (sx_next hHeld hb) (fun hHeld => ?_)
        clear hK K
        try simp only [Act.put, List.setIfInBounds_toArray, List.set_cons_zero, List.set_cons_succ]
        replace HL := lies_next HL hb
        clear hb
        refine take_at (i := 5) (d := 17) (v := .tuple #[.agg #[.int .i64 (sumQ p v u n q v' u' n').1, .int .i64 (sumQ p v u n q v' u' n').2.1, .int .i64 (sumQ p v u n q v' u' n').2.2.1, .int .i64 (sumQ p v u n q v' u' n').2.2.2], .int .i64 (sumC p v u n q v' u' n')]) rfl rfl (by kernel_rfl) (by kernel_rfl) (by kernel_rfl) (fun _ _ _ h => h) (Or.inl ⟨by rfl, ?_⟩) hHeld ?_
        · intro w' hS; go_simp
        try simp only [Act.put, List.setIfInBounds_toArray, List.set_cons_zero, List.set_cons_succ]
        refine take_at (i := 6) (d := 23) (v := .agg #[.int .i64 (sumQ p v u n q v' u' n').1, .int .i64 (sumQ p v u n q v' u' n').2.1, .int .i64 (sumQ p v u n q v' u' n').2.2.1, .int .i64 (sumQ p v u n q v' u' n').2.2.2]) rfl rfl (by kernel_rfl) (by kernel_rfl) (by kernel_rfl) (fun _ _ _ h => h) (Or.inl ⟨by rfl, ?_⟩) hHeld ?_
        · intro w' hS; go_simp
        try simp only [Act.put, List.setIfInBounds_toArray, List.set_cons_zero, List.set_cons_succ]
        refine take_at (i := 7) (d := 24) (v := .int .i64 (sumC p v u n q v' u' n')) rfl rfl (by kernel_rfl) (by kernel_rfl) (by kernel_rfl) (fun _ _ _ h => h) (Or.inl ⟨by rfl, ?_⟩) hHeld ?_
        · intro w' hS; go_simp
        try simp only [Act.put, List.setIfInBounds_toArray, List.set_cons_zero, List.set_cons_succ]
        obtain ⟨g0, g1, g2, g3⟩ := lies_four HL
        obtain ⟨gf0, gf1, gf2, gf3⟩ := lies_ice HL
        refine wpAnyH_ready (rs := [9]) (by kernel_rfl) (by simp) ?_
        refine AllReadyH.cons rfl (fun K hK => ?_) AllReadyH.nil
        go_simp
        refine hK.out _ _ (sx_set hHeld _ _ _ _ hlt hlt2) (fun hHeld => ?_)
        clear hK K
        try simp only [Act.put, List.setIfInBounds_toArray, List.set_cons_zero, List.set_cons_succ]
        refine take_at (i := 10) (d := 8) (v := .int .i64 (sumC p v u n q v' u' n')) rfl rfl (by kernel_rfl) (by kernel_rfl) (by kernel_rfl) (fun _ _ _ h => h) (Or.inl ⟨by rfl, ?_⟩) hHeld ?_
        · intro w' hS; go_simp
        try simp only [Act.put, List.setIfInBounds_toArray, List.set_cons_zero, List.set_cons_succ]
        refine wpAnyH_done (by kernel_rfl) ?_ _
        go_wp2_with fail
        go_meet
        case rel => exact ⟨_, rfl, rfl, hHeld.1.1.1, lies_set4 HL, hHeld.2⟩
    · skip
      go_simp
      refine hK.out _ _ (sx_alloc hHeld _) (fun hHeld => ?_)
      clear hK K
      try simp only [Act.put, List.setIfInBounds_toArray, List.set_cons_zero, List.set_cons_succ]
      have HL := lies_new w1 (P4 0 0 0 0) 25
      have hlt : w.heap.size + 1 < w1.heap.size := lies_lt ‹SX _ _ _ _ _ _ _ _ _ _ _ w1›.1.1.2.2
      have hlt2 : b1 < w1.heap.size := lies_lt ‹SX _ _ _ _ _ _ _ _ _ _ _ w1›.2
      generalize w1.alloc (.cells (P4 0 0 0 0) 25) = wA at HL hHeld ⊢
      obtain ⟨bA, hbA⟩ : ∃ b, w1.heap.size = b := ⟨_, rfl⟩
      rw [hbA] at HL hlt hlt2 ⊢
      clear hbA
      refine wpAnyH_ready (rs := [1]) (by kernel_rfl) (by simp) ?_
      refine AllReadyH.cons rfl (fun K hK => ?_) AllReadyH.nil
      go_simp
      go_at_call 46; refine (toPadic_any _ _ _ _ _).mono ?_; rintro e wc1 ⟨rfl, hb⟩
      go_simp
      refine hK.out _ _ (sx_next hHeld hb) (fun hHeld => ?_)
      clear hK K
      try simp only [Act.put, List.setIfInBounds_toArray, List.set_cons_zero, List.set_cons_succ]
      replace HL := lies_next HL hb
      clear hb
      refine wpAnyH_ready (rs := [3]) (by kernel_rfl) (by simp) ?_
      refine AllReadyH.cons rfl (fun K hK => ?_) AllReadyH.nil
      go_simp
      go_at_call 46; refine (toPadic_any _ _ _ _ _).mono ?_; rintro e wc3 ⟨rfl, hb⟩
      go_simp
      refine hK.out _ _ (sx_next hHeld hb) (fun hHeld => ?_)
      clear hK K
      try simp only [Act.put, List.setIfInBounds_toArray, List.set_cons_zero, List.set_cons_succ]
      replace HL := lies_next HL hb
      clear hb
      refine wpAnyH_ready (rs := [4]) (by kernel_rfl) (by simp) ?_
      refine AllReadyH.cons rfl (fun K hK => ?_) AllReadyH.nil
      go_simp
      go_at_call 18; refine (implAdd_any _ _ _ _ _ _ _ _ _).mono ?_; rintro e wc4 ⟨rfl, hb⟩
      go_simp
      refine hK.out _ _ (sx_next hHeld hb) (fun hHeld => ?_)
      clear hK K
      try simp only [Act.put, List.setIfInBounds_toArray, List.set_cons_zero, List.set_cons_succ]
      replace HL := lies_next HL hb
      clear hb
      refine take_at (i := 5) (d := 17) (v := .tuple #[.agg #[.int .i64 (sumQ p v u n q v' u' n').1, .int .i64 (sumQ p v u n q v' u' n').2.1, .int .i64 (sumQ p v u n q v' u' n').2.2.1, .int .i64 (sumQ p v u n q v' u' n').2.2.2], .int .i64 (sumC p v u n q v' u' n')]) rfl rfl (by kernel_rfl) (by kernel_rfl) (by kernel_rfl) (fun _ _ _ h => h) (Or.inl ⟨by rfl, ?_⟩) hHeld ?_
      · intro w' hS; go_simp
      try simp only [Act.put, List.setIfInBounds_toArray, List.set_cons_zero, List.set_cons_succ]
      refine take_at (i := 6) (d := 23) (v := .agg #[.int .i64 (sumQ p v u n q v' u' n').1, .int .i64 (sumQ p v u n q v' u' n').2.1, .int .i64 (sumQ p v u n q v' u' n').2.2.1, .int .i64 (sumQ p v u n q v' u' n').2.2.2]) rfl rfl (by kernel_rfl) (by kernel_rfl) (by kernel_rfl) (fun _ _ _ h => h) (Or.inl ⟨by rfl, ?_⟩) hHeld ?_
      · intro w' hS; go_simp
      try simp only [Act.put, List.setIfInBounds_toArray, List.set_cons_zero, List.set_cons_succ]
      refine take_at (i := 7) (d := 24) (v := .int .i64 (sumC p v u n q v' u' n')) rfl rfl (by kernel_rfl) (by kernel_rfl) (by kernel_rfl) (fun _ _ _ h => h) (Or.inl ⟨by rfl, ?_⟩) hHeld ?_
      · intro w' hS; go_simp
      try simp only [Act.put, List.setIfInBounds_toArray, List.set_cons_zero, List.set_cons_succ]
      obtain ⟨g0, g1, g2, g3⟩ := lies_four HL
      obtain ⟨gf0, gf1, gf2, gf3⟩ := lies_ice HL
      refine wpAnyH_ready (rs := [9]) (by kernel_rfl) (by simp) ?_
      refine AllReadyH.cons rfl (fun K hK => ?_) AllReadyH.nil
      go_simp
      refine hK.out _ _ (sx_set hHeld _ _ _ _ hlt hlt2) (fun hHeld => ?_)
      clear hK K
      try simp only [Act.put, List.setIfInBounds_toArray, List.set_cons_zero, List.set_cons_succ]
      refine take_at (i := 10) (d := 8) (v := .int .i64 (sumC p v u n q v' u' n')) rfl rfl (by kernel_rfl) (by kernel_rfl) (by kernel_rfl) (fun _ _ _ h => h) (Or.inl ⟨by rfl, ?_⟩) hHeld ?_
      · intro w' hS; go_simp
      try simp only [Act.put, List.setIfInBounds_toArray, List.set_cons_zero, List.set_cons_succ]
      refine wpAnyH_done (by kernel_rfl) ?_ _
      go_wp2_with fail
      go_meet
      case rel => exact ⟨_, rfl, rfl, hHeld.1.1.1, lies_set4 HL, hHeld.2⟩
  case rest =>
  clear L
  obtain ⟨b2, rfl, rfl, HB, L2, L1⟩ := hcut
  obtain ⟨g0, g1, g2, g3⟩ := lies_four L1
  obtain ⟨h0, h1, h2, h3⟩ := lies_four L2
  go_wp2_with (first | (go_at_call 47; refine (eqPadic_any _ _ _ _ _).mono ?_; rintro e we ⟨rfl, hb⟩))
  go_ret
  exact ⟨rfl, HB.trans (hb.mono HB.size)⟩
set_option maxHeartbeats 4000000 in
theorem exactMul_walk (p v u n q v' u' n' : Int) (_ : (Lit.int .i64 p).wf = true) (_ : (Lit.int .i64 v).wf = true) (_ : (Lit.int .i64 u).wf = true) (_ : (Lit.int .i64 n).wf = true) (_ : (Lit.int .i64 q).wf = true) (_ : (Lit.int .i64 v').wf = true) (_ : (Lit.int .i64 u').wf = true) (_ : (Lit.int .i64 n').wf = true) (w : World) :
    Calls Try.prog 10 #[.agg (P4 p v u n), .agg (P4 q v' u' n')] w fun e w' => e = .returned (.bool true) ∧ Below w.heap.size w w' := by
  go_enter Try.func10, Try.ntmps10
  go_upto_region 1 with fail
  go_cut [5, 6] (fun s5 s6 wx => ∃ b, s5 = .pointer (some ⟨b, 0, none⟩) ∧ s6 = .int .i64 (proC p v u n q v' u' n') ∧ K2 w (P4 p v u n) (P4 q v' u' n') wx ∧ Lies wx b (P4 (proQ p v u n q v' u' n').1 (proQ p v u n q v' u' n').2.1 (proQ p v u n q v' u' n').2.2.1 (proQ p v u n q v' u' n').2.2.2))
  case first =>
    have K := k2_new w (P4 p v u n) (P4 q v' u' n') 42 42
    generalize ((w.alloc (.cells (P4 p v u n) 42)).alloc (.cells (P4 q v' u' n') 42)) = W at K ⊢
    refine wp_region_held_drew (S := SR w p v u n q v' u' n') (by kernel_rfl) (sr_of (k2_drew K)) (fun hHeld => ?_)
    generalize World.drew _ = w1 at hHeld ⊢
    refine take_at (i := 0) (d := 10) (v := .agg #[.int .i64 p, .int .i64 v, .int .i64 u, .int .i64 n]) rfl rfl (by kernel_rfl) (by kernel_rfl) (by kernel_rfl) (fun _ _ _ h => h) (Or.inl ⟨by rfl, ?_⟩) hHeld ?_
    · intro w' hS
      obtain ⟨_, k0, k1, k2, k3, l0, l1, l2, l3⟩ := hS
      go_simp
    try simp only [Act.put, List.setIfInBounds_toArray, List.set_cons_zero, List.set_cons_succ]
    refine take_at (i := 2) (d := 12) (v := .agg #[.int .i64 q, .int .i64 v', .int .i64 u', .int .i64 n']) rfl rfl (by kernel_rfl) (by kernel_rfl) (by kernel_rfl) (fun _ _ _ h => h) (Or.inl ⟨by rfl, ?_⟩) hHeld ?_
    · intro w' hS
      obtain ⟨_, k0, k1, k2, k3, l0, l1, l2, l3⟩ := hS
      go_simp
    try simp only [Act.put, List.setIfInBounds_toArray, List.set_cons_zero, List.set_cons_succ]
    refine wpAnyH_ready (rs := [1, 8]) (by kernel_rfl) (by simp) ?_
    refine AllReadyH.cons rfl (fun K hK => ?_) (AllReadyH.cons rfl (fun K hK => ?_) AllReadyH.nil)
    · skip
      go_simp
      go_at_call 46; refine (toPadic_any _ _ _ _ _).mono ?_; rintro e wc1 ⟨rfl, hb⟩
      go_simp
      refine hK.out _ _ (sr_next hHeld hb) (fun hHeld => ?_)
      clear hK K
      try simp only [Act.put, List.setIfInBounds_toArray, List.set_cons_zero, List.set_cons_succ]
      clear hb
      refine wpAnyH_ready (rs := [3, 8]) (by kernel_rfl) (by simp) ?_
      refine AllReadyH.cons rfl (fun K hK => ?_) (AllReadyH.cons rfl (fun K hK => ?_) AllReadyH.nil)
      · skip
        go_simp
        go_at_call 46; refine (toPadic_any _ _ _ _ _).mono ?_; rintro e wc3 ⟨rfl, hb⟩
        go_simp
        refine hK.out _ _ (sr_next hHeld hb) (fun hHeld => ?_)
        clear hK K
        try simp only [Act.put, List.setIfInBounds_toArray, List.set_cons_zero, List.set_cons_succ]
        clear hb
        refine wpAnyH_ready (rs := [4, 8]) (by kernel_rfl) (by simp) ?_
        refine AllReadyH.cons rfl (fun K hK => ?_) (AllReadyH.cons rfl (fun K hK => ?_) AllReadyH.nil)
        · skip
          go_simp
          go_at_call 30; refine (specMul_any _ _ _ _ _ _ _ _ _).mono ?_; rintro e wc4 ⟨rfl, hb⟩
          go_simp
          refine hK.out _ _ (sr_next hHeld hb) (fun hHeld => ?_)
          clear hK K
          try simp only [Act.put, List.setIfInBounds_toArray, List.set_cons_zero, List.set_cons_succ]
          clear hb
          refine take_at (i := 5) (d := 9) (v := .tuple #[.agg #[.int .i64 (proQ p v u n q v' u' n').1, .int .i64 (proQ p v u n q v' u' n').2.1, .int .i64 (proQ p v u n q v' u' n').2.2.1, .int .i64 (proQ p v u n q v' u' n').2.2.2], .int .i64 (proC p v u n q v' u' n')]) rfl rfl (by kernel_rfl) (by kernel_rfl) (by kernel_rfl) (fun _ _ _ h => h) (Or.inl ⟨by rfl, ?_⟩) hHeld ?_
          · intro w' hS; go_simp
          try simp only [Act.put, List.setIfInBounds_toArray, List.set_cons_zero, List.set_cons_succ]
          refine take_at (i := 6) (d := 15) (v := .agg #[.int .i64 (proQ p v u n q v' u' n').1, .int .i64 (proQ p v u n q v' u' n').2.1, .int .i64 (proQ p v u n q v' u' n').2.2.1, .int .i64 (proQ p v u n q v' u' n').2.2.2]) rfl rfl (by kernel_rfl) (by kernel_rfl) (by kernel_rfl) (fun _ _ _ h => h) (Or.inl ⟨by rfl, ?_⟩) hHeld ?_
          · intro w' hS; go_simp
          try simp only [Act.put, List.setIfInBounds_toArray, List.set_cons_zero, List.set_cons_succ]
          refine take_at (i := 7) (d := 16) (v := .int .i64 (proC p v u n q v' u' n')) rfl rfl (by kernel_rfl) (by kernel_rfl) (by kernel_rfl) (fun _ _ _ h => h) (Or.inl ⟨by rfl, ?_⟩) hHeld ?_
          · intro w' hS; go_simp
          try simp only [Act.put, List.setIfInBounds_toArray, List.set_cons_zero, List.set_cons_succ]
          refine wpAnyH_ready (rs := [8]) (by kernel_rfl) (by simp) ?_
          refine AllReadyH.cons rfl (fun K hK => ?_) AllReadyH.nil
          go_simp
          refine hK.out _ _ (sr_alloc hHeld _) (fun hHeld => ?_)
          clear hK K
          try simp only [Act.put, List.setIfInBounds_toArray, List.set_cons_zero, List.set_cons_succ]
          have HL := lies_new wc4 (P4 0 0 0 0) 25
          have hlt : w.heap.size + 1 < wc4.heap.size := lies_lt ‹SR _ _ _ _ _ _ _ _ _ wc4›.1.2.2
          generalize wc4.alloc (.cells (P4 0 0 0 0) 25) = wA at HL hHeld ⊢
          obtain ⟨bA, hbA⟩ : ∃ b, wc4.heap.size = b := ⟨_, rfl⟩
          rw [hbA] at HL hlt ⊢
          clear hbA
          obtain ⟨g0, g1, g2, g3⟩ := lies_four HL
          obtain ⟨gf0, gf1, gf2, gf3⟩ := lies_ice HL
          refine wpAnyH_ready (rs := [9]) (by kernel_rfl) (by simp) ?_
          refine AllReadyH.cons rfl (fun K hK => ?_) AllReadyH.nil
          go_simp
          refine hK.out _ _ (sr_set hHeld _ _ _ _ hlt) (fun hHeld => ?_)
          clear hK K
          try simp only [Act.put, List.setIfInBounds_toArray, List.set_cons_zero, List.set_cons_succ]
          refine take_at (i := 10) (d := 6) (v := .int .i64 (proC p v u n q v' u' n')) rfl rfl (by kernel_rfl) (by kernel_rfl) (by kernel_rfl) (fun _ _ _ h => h) (Or.inl ⟨by rfl, ?_⟩) hHeld ?_
          · intro w' hS; go_simp
          try simp only [Act.put, List.setIfInBounds_toArray, List.set_cons_zero, List.set_cons_succ]
          refine wpAnyH_done (by kernel_rfl) ?_ _
          go_wp2_with fail
          go_meet
          case rel => exact ⟨_, rfl, rfl, hHeld.1, lies_set4 HL⟩
        · skip
          go_simp
          refine hK.out _ _ (sr_alloc hHeld _) (fun hHeld => ?_)
          clear hK K
          try simp only [Act.put, List.setIfInBounds_toArray, List.set_cons_zero, List.set_cons_succ]
          have HL := lies_new wc3 (P4 0 0 0 0) 25
          have hlt : w.heap.size + 1 < wc3.heap.size := lies_lt ‹SR _ _ _ _ _ _ _ _ _ wc3›.1.2.2
          generalize wc3.alloc (.cells (P4 0 0 0 0) 25) = wA at HL hHeld ⊢
          obtain ⟨bA, hbA⟩ : ∃ b, wc3.heap.size = b := ⟨_, rfl⟩
          rw [hbA] at HL hlt ⊢
          clear hbA
          refine wpAnyH_ready (rs := [4]) (by kernel_rfl) (by simp) ?_
          refine AllReadyH.cons rfl (fun K hK => ?_) AllReadyH.nil
          go_simp
          go_at_call 30; refine (specMul_any _ _ _ _ _ _ _ _ _).mono ?_; rintro e wc4 ⟨rfl, hb⟩
          go_simp
          refine hK.out _ _ (sr_next hHeld hb) (fun hHeld => ?_)
          clear hK K
          try simp only [Act.put, List.setIfInBounds_toArray, List.set_cons_zero, List.set_cons_succ]
          replace HL := lies_next HL hb
          clear hb
          refine take_at (i := 5) (d := 9) (v := .tuple #[.agg #[.int .i64 (proQ p v u n q v' u' n').1, .int .i64 (proQ p v u n q v' u' n').2.1, .int .i64 (proQ p v u n q v' u' n').2.2.1, .int .i64 (proQ p v u n q v' u' n').2.2.2], .int .i64 (proC p v u n q v' u' n')]) rfl rfl (by kernel_rfl) (by kernel_rfl) (by kernel_rfl) (fun _ _ _ h => h) (Or.inl ⟨by rfl, ?_⟩) hHeld ?_
          · intro w' hS; go_simp
          try simp only [Act.put, List.setIfInBounds_toArray, List.set_cons_zero, List.set_cons_succ]
          refine take_at (i := 6) (d := 15) (v := .agg #[.int .i64 (proQ p v u n q v' u' n').1, .int .i64 (proQ p v u n q v' u' n').2.1, .int .i64 (proQ p v u n q v' u' n').2.2.1, .int .i64 (proQ p v u n q v' u' n').2.2.2]) rfl rfl (by kernel_rfl) (by kernel_rfl) (by kernel_rfl) (fun _ _ _ h => h) (Or.inl ⟨by rfl, ?_⟩) hHeld ?_
          · intro w' hS; go_simp
          try simp only [Act.put, List.setIfInBounds_toArray, List.set_cons_zero, List.set_cons_succ]
          refine take_at (i := 7) (d := 16) (v := .int .i64 (proC p v u n q v' u' n')) rfl rfl (by kernel_rfl) (by kernel_rfl) (by kernel_rfl) (fun _ _ _ h => h) (Or.inl ⟨by rfl, ?_⟩) hHeld ?_
          · intro w' hS; go_simp
          try simp only [Act.put, List.setIfInBounds_toArray, List.set_cons_zero, List.set_cons_succ]
          obtain ⟨g0, g1, g2, g3⟩ := lies_four HL
          obtain ⟨gf0, gf1, gf2, gf3⟩ := lies_ice HL
          refine wpAnyH_ready (rs := [9]) (by kernel_rfl) (by simp) ?_
          refine AllReadyH.cons rfl (fun K hK => ?_) AllReadyH.nil
          go_simp
          refine hK.out _ _ (sr_set hHeld _ _ _ _ hlt) (fun hHeld => ?_)
          clear hK K
          try simp only [Act.put, List.setIfInBounds_toArray, List.set_cons_zero, List.set_cons_succ]
          refine take_at (i := 10) (d := 6) (v := .int .i64 (proC p v u n q v' u' n')) rfl rfl (by kernel_rfl) (by kernel_rfl) (by kernel_rfl) (fun _ _ _ h => h) (Or.inl ⟨by rfl, ?_⟩) hHeld ?_
          · intro w' hS; go_simp
          try simp only [Act.put, List.setIfInBounds_toArray, List.set_cons_zero, List.set_cons_succ]
          refine wpAnyH_done (by kernel_rfl) ?_ _
          go_wp2_with fail
          go_meet
          case rel => exact ⟨_, rfl, rfl, hHeld.1, lies_set4 HL⟩
      · skip
        go_simp
        refine hK.out _ _ (sr_alloc hHeld _) (fun hHeld => ?_)
        clear hK K
        try simp only [Act.put, List.setIfInBounds_toArray, List.set_cons_zero, List.set_cons_succ]
        have HL := lies_new wc1 (P4 0 0 0 0) 25
        have hlt : w.heap.size + 1 < wc1.heap.size := lies_lt ‹SR _ _ _ _ _ _ _ _ _ wc1›.1.2.2
        generalize wc1.alloc (.cells (P4 0 0 0 0) 25) = wA at HL hHeld ⊢
        obtain ⟨bA, hbA⟩ : ∃ b, wc1.heap.size = b := ⟨_, rfl⟩
        rw [hbA] at HL hlt ⊢
        clear hbA
        refine wpAnyH_ready (rs := [3]) (by kernel_rfl) (by simp) ?_
        refine AllReadyH.cons rfl (fun K hK => ?_) AllReadyH.nil
        go_simp
        go_at_call 46; refine (toPadic_any _ _ _ _ _).mono ?_; rintro e wc3 ⟨rfl, hb⟩
        go_simp
        refine hK.out _ _ (sr_next hHeld hb) (fun hHeld => ?_)
        clear hK K
        try simp only [Act.put, List.setIfInBounds_toArray, List.set_cons_zero, List.set_cons_succ]
        replace HL := lies_next HL hb
        clear hb
        refine wpAnyH_ready (rs := [4]) (by kernel_rfl) (by simp) ?_
        refine AllReadyH.cons rfl (fun K hK => ?_) AllReadyH.nil
        go_simp
        go_at_call 30; refine (specMul_any _ _ _ _ _ _ _ _ _).mono ?_; rintro e wc4 ⟨rfl, hb⟩
        go_simp
        refine hK.out _ _ (sr_next hHeld hb) (fun hHeld => ?_)
        clear hK K
        try simp only [Act.put, List.setIfInBounds_toArray, List.set_cons_zero, List.set_cons_succ]
        replace HL := lies_next HL hb
        clear hb
        refine take_at (i := 5) (d := 9) (v := .tuple #[.agg #[.int .i64 (proQ p v u n q v' u' n').1, .int .i64 (proQ p v u n q v' u' n').2.1, .int .i64 (proQ p v u n q v' u' n').2.2.1, .int .i64 (proQ p v u n q v' u' n').2.2.2], .int .i64 (proC p v u n q v' u' n')]) rfl rfl (by kernel_rfl) (by kernel_rfl) (by kernel_rfl) (fun _ _ _ h => h) (Or.inl ⟨by rfl, ?_⟩) hHeld ?_
        · intro w' hS; go_simp
        try simp only [Act.put, List.setIfInBounds_toArray, List.set_cons_zero, List.set_cons_succ]
        refine take_at (i := 6) (d := 15) (v := .agg #[.int .i64 (proQ p v u n q v' u' n').1, .int .i64 (proQ p v u n q v' u' n').2.1, .int .i64 (proQ p v u n q v' u' n').2.2.1, .int .i64 (proQ p v u n q v' u' n').2.2.2]) rfl rfl (by kernel_rfl) (by kernel_rfl) (by kernel_rfl) (fun _ _ _ h => h) (Or.inl ⟨by rfl, ?_⟩) hHeld ?_
        · intro w' hS; go_simp
        try simp only [Act.put, List.setIfInBounds_toArray, List.set_cons_zero, List.set_cons_succ]
        refine take_at (i := 7) (d := 16) (v := .int .i64 (proC p v u n q v' u' n')) rfl rfl (by kernel_rfl) (by kernel_rfl) (by kernel_rfl) (fun _ _ _ h => h) (Or.inl ⟨by rfl, ?_⟩) hHeld ?_
        · intro w' hS; go_simp
        try simp only [Act.put, List.setIfInBounds_toArray, List.set_cons_zero, List.set_cons_succ]
        obtain ⟨g0, g1, g2, g3⟩ := lies_four HL
        obtain ⟨gf0, gf1, gf2, gf3⟩ := lies_ice HL
        refine wpAnyH_ready (rs := [9]) (by kernel_rfl) (by simp) ?_
        refine AllReadyH.cons rfl (fun K hK => ?_) AllReadyH.nil
        go_simp
        refine hK.out _ _ (sr_set hHeld _ _ _ _ hlt) (fun hHeld => ?_)
        clear hK K
        try simp only [Act.put, List.setIfInBounds_toArray, List.set_cons_zero, List.set_cons_succ]
        refine take_at (i := 10) (d := 6) (v := .int .i64 (proC p v u n q v' u' n')) rfl rfl (by kernel_rfl) (by kernel_rfl) (by kernel_rfl) (fun _ _ _ h => h) (Or.inl ⟨by rfl, ?_⟩) hHeld ?_
        · intro w' hS; go_simp
        try simp only [Act.put, List.setIfInBounds_toArray, List.set_cons_zero, List.set_cons_succ]
        refine wpAnyH_done (by kernel_rfl) ?_ _
        go_wp2_with fail
        go_meet
        case rel => exact ⟨_, rfl, rfl, hHeld.1, lies_set4 HL⟩
    · skip
      go_simp
      refine hK.out _ _ (sr_alloc hHeld _) (fun hHeld => ?_)
      clear hK K
      try simp only [Act.put, List.setIfInBounds_toArray, List.set_cons_zero, List.set_cons_succ]
      have HL := lies_new w1 (P4 0 0 0 0) 25
      have hlt : w.heap.size + 1 < w1.heap.size := lies_lt ‹SR _ _ _ _ _ _ _ _ _ w1›.1.2.2
      generalize w1.alloc (.cells (P4 0 0 0 0) 25) = wA at HL hHeld ⊢
      obtain ⟨bA, hbA⟩ : ∃ b, w1.heap.size = b := ⟨_, rfl⟩
      rw [hbA] at HL hlt ⊢
      clear hbA
      refine wpAnyH_ready (rs := [1]) (by kernel_rfl) (by simp) ?_
      refine AllReadyH.cons rfl (fun K hK => ?_) AllReadyH.nil
      go_simp
      go_at_call 46; refine (toPadic_any _ _ _ _ _).mono ?_; rintro e wc1 ⟨rfl, hb⟩
      go_simp
      refine hK.out _ _ (sr_next hHeld hb) (fun hHeld => ?_)
      clear hK K
      try simp only [Act.put, List.setIfInBounds_toArray, List.set_cons_zero, List.set_cons_succ]
      replace HL := lies_next HL hb
      clear hb
      refine wpAnyH_ready (rs := [3]) (by kernel_rfl) (by simp) ?_
      refine AllReadyH.cons rfl (fun K hK => ?_) AllReadyH.nil
      go_simp
      go_at_call 46; refine (toPadic_any _ _ _ _ _).mono ?_; rintro e wc3 ⟨rfl, hb⟩
      go_simp
      refine hK.out _ _ (sr_next hHeld hb) (fun hHeld => ?_)
      clear hK K
      try simp only [Act.put, List.setIfInBounds_toArray, List.set_cons_zero, List.set_cons_succ]
      replace HL := lies_next HL hb
      clear hb
      refine wpAnyH_ready (rs := [4]) (by kernel_rfl) (by simp) ?_
      refine AllReadyH.cons rfl (fun K hK => ?_) AllReadyH.nil
      go_simp
      go_at_call 30; refine (specMul_any _ _ _ _ _ _ _ _ _).mono ?_; rintro e wc4 ⟨rfl, hb⟩
      go_simp
      refine hK.out _ _ (sr_next hHeld hb) (fun hHeld => ?_)
      clear hK K
      try simp only [Act.put, List.setIfInBounds_toArray, List.set_cons_zero, List.set_cons_succ]
      replace HL := lies_next HL hb
      clear hb
      refine take_at (i := 5) (d := 9) (v := .tuple #[.agg #[.int .i64 (proQ p v u n q v' u' n').1, .int .i64 (proQ p v u n q v' u' n').2.1, .int .i64 (proQ p v u n q v' u' n').2.2.1, .int .i64 (proQ p v u n q v' u' n').2.2.2], .int .i64 (proC p v u n q v' u' n')]) rfl rfl (by kernel_rfl) (by kernel_rfl) (by kernel_rfl) (fun _ _ _ h => h) (Or.inl ⟨by rfl, ?_⟩) hHeld ?_
      · intro w' hS; go_simp
      try simp only [Act.put, List.setIfInBounds_toArray, List.set_cons_zero, List.set_cons_succ]
      refine take_at (i := 6) (d := 15) (v := .agg #[.int .i64 (proQ p v u n q v' u' n').1, .int .i64 (proQ p v u n q v' u' n').2.1, .int .i64 (proQ p v u n q v' u' n').2.2.1, .int .i64 (proQ p v u n q v' u' n').2.2.2]) rfl rfl (by kernel_rfl) (by kernel_rfl) (by kernel_rfl) (fun _ _ _ h => h) (Or.inl ⟨by rfl, ?_⟩) hHeld ?_
      · intro w' hS; go_simp
      try simp only [Act.put, List.setIfInBounds_toArray, List.set_cons_zero, List.set_cons_succ]
      refine take_at (i := 7) (d := 16) (v := .int .i64 (proC p v u n q v' u' n')) rfl rfl (by kernel_rfl) (by kernel_rfl) (by kernel_rfl) (fun _ _ _ h => h) (Or.inl ⟨by rfl, ?_⟩) hHeld ?_
      · intro w' hS; go_simp
      try simp only [Act.put, List.setIfInBounds_toArray, List.set_cons_zero, List.set_cons_succ]
      obtain ⟨g0, g1, g2, g3⟩ := lies_four HL
      obtain ⟨gf0, gf1, gf2, gf3⟩ := lies_ice HL
      refine wpAnyH_ready (rs := [9]) (by kernel_rfl) (by simp) ?_
      refine AllReadyH.cons rfl (fun K hK => ?_) AllReadyH.nil
      go_simp
      refine hK.out _ _ (sr_set hHeld _ _ _ _ hlt) (fun hHeld => ?_)
      clear hK K
      try simp only [Act.put, List.setIfInBounds_toArray, List.set_cons_zero, List.set_cons_succ]
      refine take_at (i := 10) (d := 6) (v := .int .i64 (proC p v u n q v' u' n')) rfl rfl (by kernel_rfl) (by kernel_rfl) (by kernel_rfl) (fun _ _ _ h => h) (Or.inl ⟨by rfl, ?_⟩) hHeld ?_
      · intro w' hS; go_simp
      try simp only [Act.put, List.setIfInBounds_toArray, List.set_cons_zero, List.set_cons_succ]
      refine wpAnyH_done (by kernel_rfl) ?_ _
      go_wp2_with fail
      go_meet
      case rel => exact ⟨_, rfl, rfl, hHeld.1, lies_set4 HL⟩
  case rest =>
  obtain ⟨b1, rfl, rfl, K, L⟩ := hcut
  go_upto_region 2 with fail
  go_cut [7, 8] (fun s7 s8 wx => ∃ b, s7 = .pointer (some ⟨b, 0, none⟩) ∧ s8 = .int .i64 (proC p v u n q v' u' n') ∧ Below w.heap.size w wx ∧ Lies wx b (P4 (proQ p v u n q v' u' n').1 (proQ p v u n q v' u' n').2.1 (proQ p v u n q v' u' n').2.2.1 (proQ p v u n q v' u' n').2.2.2) ∧ Lies wx b1 (P4 (proQ p v u n q v' u' n').1 (proQ p v u n q v' u' n').2.1 (proQ p v u n q v' u' n').2.2.1 (proQ p v u n q v' u' n').2.2.2))
  case first =>
    refine wp_region_held_drew (S := SX w p v u n q v' u' n' b1 (P4 (proQ p v u n q v' u' n').1 (proQ p v u n q v' u' n').2.1 (proQ p v u n q v' u' n').2.2.1 (proQ p v u n q v' u' n').2.2.2)) (by kernel_rfl) (sx_of (k2_drew K) L) (fun hHeld => ?_)
    generalize World.drew _ = w1 at hHeld ⊢
    refine take_at (i := 0) (d := 18) (v := .agg #[.int .i64 p, .int .i64 v, .int .i64 u, .int .i64 n]) rfl rfl (by kernel_rfl) (by kernel_rfl) (by kernel_rfl) (fun _ _ _ h => h) (Or.inl ⟨by rfl, ?_⟩) hHeld ?_
    · intro w' hS
      obtain ⟨⟨_, k0, k1, k2, k3, l0, l1, l2, l3⟩, _⟩ := hS
      go_simp
    try simp only [Act.put, List.setIfInBounds_toArray, List.set_cons_zero, List.set_cons_succ]
    refine take_at (i := 2) (d := 20) (v := .agg #[.int .i64 q, .int .i64 v', .int .i64 u', .int .i64 n']) rfl rfl (by kernel_rfl) (by kernel_rfl) (by kernel_rfl) (fun _ _ _ h => h) (Or.inl ⟨by rfl, ?_⟩) hHeld ?_
    · intro w' hS
      obtain ⟨⟨_, k0, k1, k2, k3, l0, l1, l2, l3⟩, _⟩ := hS
      go_simp
    try simp only [Act.put, List.setIfInBounds_toArray, List.set_cons_zero, List.set_cons_succ]
    refine wpAnyH_ready (rs := [1, 8]) (by kernel_rfl) (by simp) ?_
    refine AllReadyH.cons rfl (fun K hK => ?_) (AllReadyH.cons rfl (fun K hK => ?_) AllReadyH.nil)
    · skip
      go_simp
      go_at_call 46; refine (toPadic_any _ _ _ _ _).mono ?_; rintro e wc1 ⟨rfl, hb⟩
      go_simp
      refine hK.out _ _ (sx_next hHeld hb) (fun hHeld => ?_)
      clear hK K
      try simp only [Act.put, List.setIfInBounds_toArray, List.set_cons_zero, List.set_cons_succ]
      clear hb
      refine wpAnyH_ready (rs := [3, 8]) (by kernel_rfl) (by simp) ?_
      refine AllReadyH.cons rfl (fun K hK => ?_) (AllReadyH.cons rfl (fun K hK => ?_) AllReadyH.nil)
      · skip
        go_simp
        go_at_call 46; refine (toPadic_any _ _ _ _ _).mono ?_; rintro e wc3 ⟨rfl, hb⟩
        go_simp
        refine hK.out _ _ (sx_next hHeld hb) (fun hHeld => ?_)
        clear hK K
        try simp only [Act.put, List.setIfInBounds_toArray, List.set_cons_zero, List.set_cons_succ]
        clear hb
        refine wpAnyH_ready (rs := [4, 8]) (by kernel_rfl) (by simp) ?_
        refine AllReadyH.cons rfl (fun K hK => ?_) (AllReadyH.cons rfl (fun K hK => ?_) AllReadyH.nil)
        · skip
          go_simp
          go_at_call 29; refine (implMul_any _ _ _ _ _ _ _ _ _).mono ?_; rintro e wc4 ⟨rfl, hb⟩
          go_simp
          refine hK.out _ _ (sx_next hHeld hb) (fun hHeld => ?_)
          clear hK K
          try simp only [Act.put, List.setIfInBounds_toArray, List.set_cons_zero, List.set_cons_succ]
          clear hb
          refine take_at (i := 5) (d := 17) (v := .tuple #[.agg #[.int .i64 (proQ p v u n q v' u' n').1, .int .i64 (proQ p v u n q v' u' n').2.1, .int .i64 (proQ p v u n q v' u' n').2.2.1, .int .i64 (proQ p v u n q v' u' n').2.2.2], .int .i64 (proC p v u n q v' u' n')]) rfl rfl (by kernel_rfl) (by kernel_rfl) (by kernel_rfl) (fun _ _ _ h => h) (Or.inl ⟨by rfl, ?_⟩) hHeld ?_
          · intro w' hS; go_simp
          try simp only [Act.put, List.setIfInBounds_toArray, List.set_cons_zero, List.set_cons_succ]
          refine take_at (i := 6) (d := 23) (v := .agg #[.int .i64 (proQ p v u n q v' u' n').1, .int .i64 (proQ p v u n q v' u' n').2.1, .int .i64 (proQ p v u n q v' u' n').2.2.1, .int .i64 (proQ p v u n q v' u' n').2.2.2]) rfl rfl (by kernel_rfl) (by kernel_rfl) (by kernel_rfl) (fun _ _ _ h => h) (Or.inl ⟨by rfl, ?_⟩) hHeld ?_
          · intro w' hS; go_simp
          try simp only [Act.put, List.setIfInBounds_toArray, List.set_cons_zero, List.set_cons_succ]
          refine take_at (i := 7) (d := 24) (v := .int .i64 (proC p v u n q v' u' n')) rfl rfl (by kernel_rfl) (by kernel_rfl) (by kernel_rfl) (fun _ _ _ h => h) (Or.inl ⟨by rfl, ?_⟩) hHeld ?_
          · intro w' hS; go_simp
          try simp only [Act.put, List.setIfInBounds_toArray, List.set_cons_zero, List.set_cons_succ]
          refine wpAnyH_ready (rs := [8]) (by kernel_rfl) (by simp) ?_
          refine AllReadyH.cons rfl (fun K hK => ?_) AllReadyH.nil
          go_simp
          refine hK.out _ _ (sx_alloc hHeld _) (fun hHeld => ?_)
          clear hK K
          try simp only [Act.put, List.setIfInBounds_toArray, List.set_cons_zero, List.set_cons_succ]
          have HL := lies_new wc4 (P4 0 0 0 0) 25
          have hlt : w.heap.size + 1 < wc4.heap.size := lies_lt ‹SX _ _ _ _ _ _ _ _ _ _ _ wc4›.1.1.2.2
          have hlt2 : b1 < wc4.heap.size := lies_lt ‹SX _ _ _ _ _ _ _ _ _ _ _ wc4›.2
          generalize wc4.alloc (.cells (P4 0 0 0 0) 25) = wA at HL hHeld ⊢
          obtain ⟨bA, hbA⟩ : ∃ b, wc4.heap.size = b := ⟨_, rfl⟩
          rw [hbA] at HL hlt hlt2 ⊢
          clear hbA
          obtain ⟨g0, g1, g2, g3⟩ := lies_four HL
          obtain ⟨gf0, gf1, gf2, gf3⟩ := lies_ice HL
          refine wpAnyH_ready (rs := [9]) (by kernel_rfl) (by simp) ?_
          refine AllReadyH.cons rfl (fun K hK => ?_) AllReadyH.nil
          go_simp
          refine hK.out _ _ (sx_set hHeld _ _ _ _ hlt hlt2) (fun hHeld => ?_)
          clear hK K
          try simp only [Act.put, List.setIfInBounds_toArray, List.set_cons_zero, List.set_cons_succ]
          refine take_at (i := 10) (d := 8) (v := .int .i64 (proC p v u n q v' u' n')) rfl rfl (by kernel_rfl) (by kernel_rfl) (by kernel_rfl) (fun _ _ _ h => h) (Or.inl ⟨by rfl, ?_⟩) hHeld ?_
          · intro w' hS; go_simp
          try simp only [Act.put, List.setIfInBounds_toArray, List.set_cons_zero, List.set_cons_succ]
          refine wpAnyH_done (by kernel_rfl) ?_ _
          go_wp2_with fail
          go_meet
          case rel => exact ⟨_, rfl, rfl, hHeld.1.1.1, lies_set4 HL, hHeld.2⟩
        · skip
          go_simp
          refine hK.out _ _ (sx_alloc hHeld _) (fun hHeld => ?_)
          clear hK K
          try simp only [Act.put, List.setIfInBounds_toArray, List.set_cons_zero, List.set_cons_succ]
          have HL := lies_new wc3 (P4 0 0 0 0) 25
          have hlt : w.heap.size + 1 < wc3.heap.size := lies_lt ‹SX _ _ _ _ _ _ _ _ _ _ _ wc3›.1.1.2.2
          have hlt2 : b1 < wc3.heap.size := lies_lt ‹SX _ _ _ _ _ _ _ _ _ _ _ wc3›.2
          generalize wc3.alloc (.cells (P4 0 0 0 0) 25) = wA at HL hHeld ⊢
          obtain ⟨bA, hbA⟩ : ∃ b, wc3.heap.size = b := ⟨_, rfl⟩
          rw [hbA] at HL hlt hlt2 ⊢
          clear hbA
          refine wpAnyH_ready (rs := [4]) (by kernel_rfl) (by simp) ?_
          refine AllReadyH.cons rfl (fun K hK => ?_) AllReadyH.nil
          go_simp
          go_at_call 29; refine (implMul_any _ _ _ _ _ _ _ _ _).mono ?_; rintro e wc4 ⟨rfl, hb⟩
          go_simp
          refine hK.out _ _ (sx_next hHeld hb) (fun hHeld => ?_)
          clear hK K
          try simp only [Act.put, List.setIfInBounds_toArray, List.set_cons_zero, List.set_cons_succ]
          replace HL := lies_next HL hb
          clear hb
          refine take_at (i := 5) (d := 17) (v := .tuple #[.agg #[.int .i64 (proQ p v u n q v' u' n').1, .int .i64 (proQ p v u n q v' u' n').2.1, .int .i64 (proQ p v u n q v' u' n').2.2.1, .int .i64 (proQ p v u n q v' u' n').2.2.2], .int .i64 (proC p v u n q v' u' n')]) rfl rfl (by kernel_rfl) (by kernel_rfl) (by kernel_rfl) (fun _ _ _ h => h) (Or.inl ⟨by rfl, ?_⟩) hHeld ?_
          · intro w' hS; go_simp
          try simp only [Act.put, List.setIfInBounds_toArray, List.set_cons_zero, List.set_cons_succ]
          refine take_at (i := 6) (d := 23) (v := .agg #[.int .i64 (proQ p v u n q v' u' n').1, .int .i64 (proQ p v u n q v' u' n').2.1, .int .i64 (proQ p v u n q v' u' n').2.2.1, .int .i64 (proQ p v u n q v' u' n').2.2.2]) rfl rfl (by kernel_rfl) (by kernel_rfl) (by kernel_rfl) (fun _ _ _ h => h) (Or.inl ⟨by rfl, ?_⟩) hHeld ?_
          · intro w' hS; go_simp
          try simp only [Act.put, List.setIfInBounds_toArray, List.set_cons_zero, List.set_cons_succ]
          refine take_at (i := 7) (d := 24) (v := .int .i64 (proC p v u n q v' u' n')) rfl rfl (by kernel_rfl) (by kernel_rfl) (by kernel_rfl) (fun _ _ _ h => h) (Or.inl ⟨by rfl, ?_⟩) hHeld ?_
          · intro w' hS; go_simp
          try simp only [Act.put, List.setIfInBounds_toArray, List.set_cons_zero, List.set_cons_succ]
          obtain ⟨g0, g1, g2, g3⟩ := lies_four HL
          obtain ⟨gf0, gf1, gf2, gf3⟩ := lies_ice HL
          refine wpAnyH_ready (rs := [9]) (by kernel_rfl) (by simp) ?_
          refine AllReadyH.cons rfl (fun K hK => ?_) AllReadyH.nil
          go_simp
          refine hK.out _ _ (sx_set hHeld _ _ _ _ hlt hlt2) (fun hHeld => ?_)
          clear hK K
          try simp only [Act.put, List.setIfInBounds_toArray, List.set_cons_zero, List.set_cons_succ]
          refine take_at (i := 10) (d := 8) (v := .int .i64 (proC p v u n q v' u' n')) rfl rfl (by kernel_rfl) (by kernel_rfl) (by kernel_rfl) (fun _ _ _ h => h) (Or.inl ⟨by rfl, ?_⟩) hHeld ?_
          · intro w' hS; go_simp
          try simp only [Act.put, List.setIfInBounds_toArray, List.set_cons_zero, List.set_cons_succ]
          refine wpAnyH_done (by kernel_rfl) ?_ _
          go_wp2_with fail
          go_meet
          case rel => exact ⟨_, rfl, rfl, hHeld.1.1.1, lies_set4 HL, hHeld.2⟩
      · skip
        go_simp
        refine hK.out _ _ (sx_alloc hHeld _) (fun hHeld => ?_)
        clear hK K
        try simp only [Act.put, List.setIfInBounds_toArray, List.set_cons_zero, List.set_cons_succ]
        have HL := lies_new wc1 (P4 0 0 0 0) 25
        have hlt : w.heap.size + 1 < wc1.heap.size := lies_lt ‹SX _ _ _ _ _ _ _ _ _ _ _ wc1›.1.1.2.2
        have hlt2 : b1 < wc1.heap.size := lies_lt ‹SX _ _ _ _ _ _ _ _ _ _ _ wc1›.2
        generalize wc1.alloc (.cells (P4 0 0 0 0) 25) = wA at HL hHeld ⊢
        obtain ⟨bA, hbA⟩ : ∃ b, wc1.heap.size = b := ⟨_, rfl⟩
        rw [hbA] at HL hlt hlt2 ⊢
        clear hbA
        refine wpAnyH_ready (rs := [3]) (by kernel_rfl) (by simp) ?_
        refine AllReadyH.cons rfl (fun K hK => ?_) AllReadyH.nil
        go_simp
        go_at_call 46; refine (toPadic_any _ _ _ _ _).mono ?_; rintro e wc3 ⟨rfl, hb⟩
        go_simp
        refine hK.out _ _ (sx_next hHeld hb) (fun hHeld => ?_)
        clear hK K
        try simp only [Act.put, List.setIfInBounds_toArray, List.set_cons_zero, List.set_cons_succ]
        replace HL := lies_next HL hb
        clear hb
        refine wpAnyH_ready (rs := [4]) (by kernel_rfl) (by simp) ?_
        refine AllReadyH.cons rfl (fun K hK => ?_) AllReadyH.nil
        go_simp
        go_at_call 29; refine (implMul_any _ _ _ _ _ _ _ _ _).mono ?_; rintro e wc4 ⟨rfl, hb⟩
        go_simp
        refine hK.out _ _ (sx_next hHeld hb) (fun hHeld => ?_)
        clear hK K
        try simp only [Act.put, List.setIfInBounds_toArray, List.set_cons_zero, List.set_cons_succ]
        replace HL := lies_next HL hb
        clear hb
        refine take_at (i := 5) (d := 17) (v := .tuple #[.agg #[.int .i64 (proQ p v u n q v' u' n').1, .int .i64 (proQ p v u n q v' u' n').2.1, .int .i64 (proQ p v u n q v' u' n').2.2.1, .int .i64 (proQ p v u n q v' u' n').2.2.2], .int .i64 (proC p v u n q v' u' n')]) rfl rfl (by kernel_rfl) (by kernel_rfl) (by kernel_rfl) (fun _ _ _ h => h) (Or.inl ⟨by rfl, ?_⟩) hHeld ?_
        · intro w' hS; go_simp
        try simp only [Act.put, List.setIfInBounds_toArray, List.set_cons_zero, List.set_cons_succ]
        refine take_at (i := 6) (d := 23) (v := .agg #[.int .i64 (proQ p v u n q v' u' n').1, .int .i64 (proQ p v u n q v' u' n').2.1, .int .i64 (proQ p v u n q v' u' n').2.2.1, .int .i64 (proQ p v u n q v' u' n').2.2.2]) rfl rfl (by kernel_rfl) (by kernel_rfl) (by kernel_rfl) (fun _ _ _ h => h) (Or.inl ⟨by rfl, ?_⟩) hHeld ?_
        · intro w' hS; go_simp
        try simp only [Act.put, List.setIfInBounds_toArray, List.set_cons_zero, List.set_cons_succ]
        refine take_at (i := 7) (d := 24) (v := .int .i64 (proC p v u n q v' u' n')) rfl rfl (by kernel_rfl) (by kernel_rfl) (by kernel_rfl) (fun _ _ _ h => h) (Or.inl ⟨by rfl, ?_⟩) hHeld ?_
        · intro w' hS; go_simp
        try simp only [Act.put, List.setIfInBounds_toArray, List.set_cons_zero, List.set_cons_succ]
        obtain ⟨g0, g1, g2, g3⟩ := lies_four HL
        obtain ⟨gf0, gf1, gf2, gf3⟩ := lies_ice HL
        refine wpAnyH_ready (rs := [9]) (by kernel_rfl) (by simp) ?_
        refine AllReadyH.cons rfl (fun K hK => ?_) AllReadyH.nil
        go_simp
        refine hK.out _ _ (sx_set hHeld _ _ _ _ hlt hlt2) (fun hHeld => ?_)
        clear hK K
        try simp only [Act.put, List.setIfInBounds_toArray, List.set_cons_zero, List.set_cons_succ]
        refine take_at (i := 10) (d := 8) (v := .int .i64 (proC p v u n q v' u' n')) rfl rfl (by kernel_rfl) (by kernel_rfl) (by kernel_rfl) (fun _ _ _ h => h) (Or.inl ⟨by rfl, ?_⟩) hHeld ?_
        · intro w' hS; go_simp
        try simp only [Act.put, List.setIfInBounds_toArray, List.set_cons_zero, List.set_cons_succ]
        refine wpAnyH_done (by kernel_rfl) ?_ _
        go_wp2_with fail
        go_meet
        case rel => exact ⟨_, rfl, rfl, hHeld.1.1.1, lies_set4 HL, hHeld.2⟩
    · skip
      go_simp
      refine hK.out _ _ (sx_alloc hHeld _) (fun hHeld => ?_)
      clear hK K
      try simp only [Act.put, List.setIfInBounds_toArray, List.set_cons_zero, List.set_cons_succ]
      have HL := lies_new w1 (P4 0 0 0 0) 25
      have hlt : w.heap.size + 1 < w1.heap.size := lies_lt ‹SX _ _ _ _ _ _ _ _ _ _ _ w1›.1.1.2.2
      have hlt2 : b1 < w1.heap.size := lies_lt ‹SX _ _ _ _ _ _ _ _ _ _ _ w1›.2
      generalize w1.alloc (.cells (P4 0 0 0 0) 25) = wA at HL hHeld ⊢
      obtain ⟨bA, hbA⟩ : ∃ b, w1.heap.size = b := ⟨_, rfl⟩
      rw [hbA] at HL hlt hlt2 ⊢
      clear hbA
      refine wpAnyH_ready (rs := [1]) (by kernel_rfl) (by simp) ?_
      refine AllReadyH.cons rfl (fun K hK => ?_) AllReadyH.nil
      go_simp
      go_at_call 46; refine (toPadic_any _ _ _ _ _).mono ?_; rintro e wc1 ⟨rfl, hb⟩
      go_simp
      refine hK.out _ _ (sx_next hHeld hb) (fun hHeld => ?_)
      clear hK K
      try simp only [Act.put, List.setIfInBounds_toArray, List.set_cons_zero, List.set_cons_succ]
      replace HL := lies_next HL hb
      clear hb
      refine wpAnyH_ready (rs := [3]) (by kernel_rfl) (by simp) ?_
      refine AllReadyH.cons rfl (fun K hK => ?_) AllReadyH.nil
      go_simp
      go_at_call 46; refine (toPadic_any _ _ _ _ _).mono ?_; rintro e wc3 ⟨rfl, hb⟩
      go_simp
      refine hK.out _ _ (sx_next hHeld hb) (fun hHeld => ?_)
      clear hK K
      try simp only [Act.put, List.setIfInBounds_toArray, List.set_cons_zero, List.set_cons_succ]
      replace HL := lies_next HL hb
      clear hb
      refine wpAnyH_ready (rs := [4]) (by kernel_rfl) (by simp) ?_
      refine AllReadyH.cons rfl (fun K hK => ?_) AllReadyH.nil
      go_simp
      go_at_call 29; refine (implMul_any _ _ _ _ _ _ _ _ _).mono ?_; rintro e wc4 ⟨rfl, hb⟩
      go_simp
      refine hK.out _ _ (sx_next hHeld hb) (fun hHeld => ?_)
      clear hK K
      try simp only [Act.put, List.setIfInBounds_toArray, List.set_cons_zero, List.set_cons_succ]
      replace HL := lies_next HL hb
      clear hb
      refine take_at (i := 5) (d := 17) (v := .tuple #[.agg #[.int .i64 (proQ p v u n q v' u' n').1, .int .i64 (proQ p v u n q v' u' n').2.1, .int .i64 (proQ p v u n q v' u' n').2.2.1, .int .i64 (proQ p v u n q v' u' n').2.2.2], .int .i64 (proC p v u n q v' u' n')]) rfl rfl (by kernel_rfl) (by kernel_rfl) (by kernel_rfl) (fun _ _ _ h => h) (Or.inl ⟨by rfl, ?_⟩) hHeld ?_
      · intro w' hS; go_simp
      try simp only [Act.put, List.setIfInBounds_toArray, List.set_cons_zero, List.set_cons_succ]
      refine take_at (i := 6) (d := 23) (v := .agg #[.int .i64 (proQ p v u n q v' u' n').1, .int .i64 (proQ p v u n q v' u' n').2.1, .int .i64 (proQ p v u n q v' u' n').2.2.1, .int .i64 (proQ p v u n q v' u' n').2.2.2]) rfl rfl (by kernel_rfl) (by kernel_rfl) (by kernel_rfl) (fun _ _ _ h => h) (Or.inl ⟨by rfl, ?_⟩) hHeld ?_
      · intro w' hS; go_simp
      try simp only [Act.put, List.setIfInBounds_toArray, List.set_cons_zero, List.set_cons_succ]
      refine take_at (i := 7) (d := 24) (v := .int .i64 (proC p v u n q v' u' n')) rfl rfl (by kernel_rfl) (by kernel_rfl) (by kernel_rfl) (fun _ _ _ h => h) (Or.inl ⟨by rfl, ?_⟩) hHeld ?_
      · intro w' hS; go_simp
      try simp only [Act.put, List.setIfInBounds_toArray, List.set_cons_zero, List.set_cons_succ]
      obtain ⟨g0, g1, g2, g3⟩ := lies_four HL
      obtain ⟨gf0, gf1, gf2, gf3⟩ := lies_ice HL
      refine wpAnyH_ready (rs := [9]) (by kernel_rfl) (by simp) ?_
      refine AllReadyH.cons rfl (fun K hK => ?_) AllReadyH.nil
      go_simp
      refine hK.out _ _ (sx_set hHeld _ _ _ _ hlt hlt2) (fun hHeld => ?_)
      clear hK K
      try simp only [Act.put, List.setIfInBounds_toArray, List.set_cons_zero, List.set_cons_succ]
      refine take_at (i := 10) (d := 8) (v := .int .i64 (proC p v u n q v' u' n')) rfl rfl (by kernel_rfl) (by kernel_rfl) (by kernel_rfl) (fun _ _ _ h => h) (Or.inl ⟨by rfl, ?_⟩) hHeld ?_
      · intro w' hS; go_simp
      try simp only [Act.put, List.setIfInBounds_toArray, List.set_cons_zero, List.set_cons_succ]
      refine wpAnyH_done (by kernel_rfl) ?_ _
      go_wp2_with fail
      go_meet
      case rel => exact ⟨_, rfl, rfl, hHeld.1.1.1, lies_set4 HL, hHeld.2⟩
  case rest =>
  clear L
  obtain ⟨b2, rfl, rfl, HB, L2, L1⟩ := hcut
  obtain ⟨g0, g1, g2, g3⟩ := lies_four L1
  obtain ⟨h0, h1, h2, h3⟩ := lies_four L2
  go_wp2_with (first | (go_at_call 47; refine (eqPadic_any _ _ _ _ _).mono ?_; rintro e we ⟨rfl, hb⟩))
  go_ret
  exact ⟨rfl, HB.trans (hb.mono HB.size)⟩
set_option maxHeartbeats 2000000 in
theorem exactEqual_walk (p v u n q v' u' n' : Int) (_ : (Lit.int .i64 p).wf = true) (_ : (Lit.int .i64 v).wf = true) (_ : (Lit.int .i64 u).wf = true) (_ : (Lit.int .i64 n).wf = true) (_ : (Lit.int .i64 q).wf = true) (_ : (Lit.int .i64 v').wf = true) (_ : (Lit.int .i64 u').wf = true) (_ : (Lit.int .i64 n').wf = true) (w : World) :
    Calls Try.prog 13 #[.agg (P4 p v u n), .agg (P4 q v' u' n')] w fun e w' => e = .returned (.bool true) ∧ Below w.heap.size w w' := by
  go_enter Try.func13, Try.ntmps13
  go_wp2_with fail
  have K := k2_new w (P4 p v u n) (P4 q v' u' n') 42 42
  generalize ((w.alloc (.cells (P4 p v u n) 42)).alloc (.cells (P4 q v' u' n') 42)) = W at K ⊢
  go_region_held3 (fun w' => K2 w (P4 p v u n) (P4 q v' u' n') w' ∧ w'.cell? ⟨w.heap.size, 0, none⟩ = some (.int .i64 p) ∧ w'.cell? ⟨w.heap.size, 1, none⟩ = some (.int .i64 v) ∧ w'.cell? ⟨w.heap.size, 2, none⟩ = some (.int .i64 u) ∧ w'.cell? ⟨w.heap.size, 3, none⟩ = some (.int .i64 n) ∧ w'.cell? ⟨w.heap.size + 1, 0, none⟩ = some (.int .i64 q) ∧ w'.cell? ⟨w.heap.size + 1, 1, none⟩ = some (.int .i64 v') ∧ w'.cell? ⟨w.heap.size + 1, 2, none⟩ = some (.int .i64 u') ∧ w'.cell? ⟨w.heap.size + 1, 3, none⟩ = some (.int .i64 n'))
    (first | with_reducible assumption | exact sr_of (k2_drew K) | exact sr_next ‹_› hb)
    (first | (go_at_call 46; refine (toPadic_any _ _ _ _ _).mono ?_; rintro e wn ⟨rfl, hb⟩) | (go_at_call 25; refine (specEqual_any _ _ _ _ _ _ _ _ _).mono ?_; rintro e wn ⟨rfl, hb⟩))
  rename_i hHeld
  clear hb K
  have K := hHeld.1
  clear hHeld
  go_wp2_with fail
  go_region_held3 (fun w' => K2 w (P4 p v u n) (P4 q v' u' n') w' ∧ w'.cell? ⟨w.heap.size, 0, none⟩ = some (.int .i64 p) ∧ w'.cell? ⟨w.heap.size, 1, none⟩ = some (.int .i64 v) ∧ w'.cell? ⟨w.heap.size, 2, none⟩ = some (.int .i64 u) ∧ w'.cell? ⟨w.heap.size, 3, none⟩ = some (.int .i64 n) ∧ w'.cell? ⟨w.heap.size + 1, 0, none⟩ = some (.int .i64 q) ∧ w'.cell? ⟨w.heap.size + 1, 1, none⟩ = some (.int .i64 v') ∧ w'.cell? ⟨w.heap.size + 1, 2, none⟩ = some (.int .i64 u') ∧ w'.cell? ⟨w.heap.size + 1, 3, none⟩ = some (.int .i64 n'))
    (first | with_reducible assumption | exact sr_of (k2_drew K) | exact sr_next ‹_› hb)
    (first | (go_at_call 46; refine (toPadic_any _ _ _ _ _).mono ?_; rintro e wn ⟨rfl, hb⟩) | (go_at_call 24; refine (implEqual_any _ _ _ _ _ _ _ _ _).mono ?_; rintro e wn ⟨rfl, hb⟩))
  rename_i hHeld
  clear hb K
  have K := hHeld.1
  clear hHeld
  go_wp2
  go_ret
  exact ⟨rfl, K.1⟩
end Go.Proofs.Ytdbiaiimdokleaa
