/- Contracts of the walk: chapter 3's exported functions in impl: places of equality, digits, and numbers made of integers. -/
import Derived.Test.YtgckamlibbjgcaaPadExp2
namespace Go.Proofs.Ytgckamlibbjgcaa
open Go.RowKit
set_option linter.unusedVariables false
set_option maxRecDepth 20000
set_option linter.unusedSimpArgs false
/-- two blocks that hold numbers that are read -/
abbrev SR (w : World) (p v u n q v' u' n' : Int) (w1 : World) : Prop :=
  K2 w (P4 p v u n) (P4 q v' u' n') w1 ∧ w1.cell? ⟨w.heap.size, 0, none⟩ = some (.int .i64 p) ∧ w1.cell? ⟨w.heap.size, 1, none⟩ = some (.int .i64 v) ∧ w1.cell? ⟨w.heap.size, 2, none⟩ = some (.int .i64 u) ∧ w1.cell? ⟨w.heap.size, 3, none⟩ = some (.int .i64 n) ∧
  w1.cell? ⟨w.heap.size + 1, 0, none⟩ = some (.int .i64 q) ∧ w1.cell? ⟨w.heap.size + 1, 1, none⟩ = some (.int .i64 v') ∧ w1.cell? ⟨w.heap.size + 1, 2, none⟩ = some (.int .i64 u') ∧ w1.cell? ⟨w.heap.size + 1, 3, none⟩ = some (.int .i64 n')
theorem sr_of {w : World} {p v u n q v' u' n' : Int} {w1 : World} (K : K2 w (P4 p v u n) (P4 q v' u' n') w1) : SR w p v u n q v' u' n' w1 := by
  obtain ⟨c0, c1, c2, c3⟩ := lies_four K.2.1
  obtain ⟨d0, d1, d2, d3⟩ := lies_four K.2.2
  exact ⟨K, c0, c1, c2, c3, d0, d1, d2, d3⟩
theorem sr_next {w : World} {p v u n q v' u' n' : Int} {w1 w2 : World} (h : SR w p v u n q v' u' n' w1) (hb : Below w1.heap.size w1 w2) : SR w p v u n q v' u' n' w2 := sr_of (k2_next h.1 hb)
theorem k2_alloc {w w1 : World} {a b : Array Value} (h : K2 w a b w1) (o : Obj) : K2 w a b (w1.alloc o) := k2_next h (below_a1 w1 o)
theorem sr_set {w : World} {p v u n q v' u' n' : Int} {w1 : World} {b : Nat} (h : SR w p v u n q v' u' n' w1) (x0 x1 x2 x3 : Value) (hb : w.heap.size + 1 < b) :
    SR w p v u n q v' u' n' ((((w1.setCell ⟨b, 0, none⟩ x0).setCell ⟨b, 1, none⟩ x1).setCell ⟨b, 2, none⟩ x2).setCell ⟨b, 3, none⟩ x3) :=
  sr_of ⟨below_set4 h.1.1 (by omega), lies_other4 h.1.2.1 (by omega), lies_other4 h.1.2.2 (by omega)⟩
theorem sr_alloc {w : World} {p v u n q v' u' n' : Int} {w1 : World} (h : SR w p v u n q v' u' n' w1) (o : Obj) : SR w p v u n q v' u' n' (w1.alloc o) := sr_of (k2_alloc h.1 o)
set_option maxHeartbeats 1600000 in
theorem implEqual_any (p v u n q v' u' n' : Int) (w : World) :
    Calls Try.prog 33 #[.agg (P4 p v u n), .agg (P4 q v' u' n')] w fun e w' => e = .returned (.tuple #[.int .i64 (eqV p v u n q v' u' n'), .int .i64 (eqC p v u n q v' u' n')]) ∧ Below w.heap.size w w' := by
  by_cases hc : twoC p v u n q v' u' n' = 0
  · obtain ⟨h, h', rfl⟩ := twoC_zero hc
    have HC := Lib.hid hc
    have H := Lib.hid (And.intro h (And.intro h' (neg_ok h')))
    rw [show eqV p v u n p v' u' n' = (resQ p (difT p v u n v' u' n').1 (difT p v u n v' u' n').2.1 (difT p v u n v' u' n').2.2).2.1 by simp [eqV, hc], show eqC p v u n p v' u' n' = limC p (difT p v u n v' u' n').1 (difT p v u n v' u' n').2.1 (difT p v u n v' u' n').2.2 by simp [eqC, hc]]
    have HD := Lib.hid (show difT p v u n v' u' n' = addT p v u n v' (negU p u' n') n' from rfl)
    clear hc h h'
    go_enter Try.func33, Try.ntmps33
    go_wp2_with (first | (go_at_call 73; refine (checkWith_any _ _ _ _ _ _ _ _ _).mono ?_; rw [HC.out]; rintro e wn ⟨rfl, hb⟩; (first | have K := k2_first hb | have K := k2_next K hb); obtain ⟨c0, c1, c2, c3⟩ := lies_four K.2.1; obtain ⟨d0, d1, d2, d3⟩ := lies_four K.2.2))
    refine wp_region_held_drew (S := SR w p v u n p v' u' n') (by kernel_rfl) (sr_of (k2_drew K)) (fun hHeld => ?_)
    clear K hb c0 c1 c2 c3 d0 d1 d2 d3
    generalize World.drew _ = w1 at hHeld ⊢
    refine take_at (i := 0) (d := 16) (v := .agg #[.int .i64 p, .int .i64 v, .int .i64 u, .int .i64 n]) rfl rfl (by kernel_rfl) (by kernel_rfl) (by kernel_rfl) (fun _ _ _ h => h) (Or.inl ⟨by rfl, ?_⟩) hHeld ?_
    · intro w' hS
      obtain ⟨_, k0, k1, k2, k3, l0, l1, l2, l3⟩ := hS
      go_simp
    try simp only [Act.put, List.setIfInBounds_toArray, List.set_cons_zero, List.set_cons_succ]
    refine take_at (i := 1) (d := 17) (v := .agg #[.int .i64 p, .int .i64 v', .int .i64 u', .int .i64 n']) rfl rfl (by kernel_rfl) (by kernel_rfl) (by kernel_rfl) (fun _ _ _ h => h) (Or.inl ⟨by rfl, ?_⟩) hHeld ?_
    · intro w' hS
      obtain ⟨_, k0, k1, k2, k3, l0, l1, l2, l3⟩ := hS
      go_simp
    try simp only [Act.put, List.setIfInBounds_toArray, List.set_cons_zero, List.set_cons_succ]
    refine wpAnyH_ready (rs := [2, 8]) (by kernel_rfl) (by simp) ?_
    refine AllReadyH.cons rfl (fun K hK => ?_) (AllReadyH.cons rfl (fun K hK => ?_) AllReadyH.nil)
    · skip
      go_simp
      go_at_call 88; refine (negative_any _ _ _ _ _ H.out.2.1).mono ?_; rintro e w2 ⟨rfl, hb⟩
      go_simp
      refine hK.out _ _ (sr_next hHeld hb) (fun hHeld => ?_)
      clear hK K
      try simp only [Act.put, List.setIfInBounds_toArray, List.set_cons_zero, List.set_cons_succ]
      clear hb
      refine wpAnyH_ready (rs := [3, 8]) (by kernel_rfl) (by simp) ?_
      refine AllReadyH.cons rfl (fun K hK => ?_) (AllReadyH.cons rfl (fun K hK => ?_) AllReadyH.nil)
      · skip
        go_simp
        go_at_call 87; refine (plus_any _ _ _ _ _ _ _ _ H.out.1 H.out.2.2).mono ?_; rw [← HD.out]; rintro e w3 ⟨rfl, hb⟩
        go_simp
        refine hK.out _ _ (sr_next hHeld hb) (fun hHeld => ?_)
        clear hK K
        try simp only [Act.put, List.setIfInBounds_toArray, List.set_cons_zero, List.set_cons_succ]
        clear hb
        refine wpAnyH_ready (rs := [4, 8]) (by kernel_rfl) (by simp) ?_
        refine AllReadyH.cons rfl (fun K hK => ?_) (AllReadyH.cons rfl (fun K hK => ?_) AllReadyH.nil)
        · skip
          go_simp
          go_at_call 75; refine (asResultQ_any _ _ _ _ _).mono ?_; rintro e w4 ⟨rfl, hb⟩
          go_simp
          refine hK.out _ _ (sr_next hHeld hb) (fun hHeld => ?_)
          clear hK K
          try simp only [Act.put, List.setIfInBounds_toArray, List.set_cons_zero, List.set_cons_succ]
          clear hb
          refine take_at (i := 5) (d := 15) (v := .tuple #[.agg #[.int .i64 (resQ p (difT p v u n v' u' n').1 (difT p v u n v' u' n').2.1 (difT p v u n v' u' n').2.2).1, .int .i64 (resQ p (difT p v u n v' u' n').1 (difT p v u n v' u' n').2.1 (difT p v u n v' u' n').2.2).2.1, .int .i64 (resQ p (difT p v u n v' u' n').1 (difT p v u n v' u' n').2.1 (difT p v u n v' u' n').2.2).2.2.1, .int .i64 (resQ p (difT p v u n v' u' n').1 (difT p v u n v' u' n').2.1 (difT p v u n v' u' n').2.2).2.2.2], .int .i64 (limC p (difT p v u n v' u' n').1 (difT p v u n v' u' n').2.1 (difT p v u n v' u' n').2.2)]) rfl rfl (by kernel_rfl) (by kernel_rfl) (by kernel_rfl) (fun _ _ _ h => h) (Or.inl ⟨by rfl, ?_⟩) hHeld ?_
          · intro w' hS; go_simp
          try simp only [Act.put, List.setIfInBounds_toArray, List.set_cons_zero, List.set_cons_succ]
          refine take_at (i := 6) (d := 21) (v := .agg #[.int .i64 (resQ p (difT p v u n v' u' n').1 (difT p v u n v' u' n').2.1 (difT p v u n v' u' n').2.2).1, .int .i64 (resQ p (difT p v u n v' u' n').1 (difT p v u n v' u' n').2.1 (difT p v u n v' u' n').2.2).2.1, .int .i64 (resQ p (difT p v u n v' u' n').1 (difT p v u n v' u' n').2.1 (difT p v u n v' u' n').2.2).2.2.1, .int .i64 (resQ p (difT p v u n v' u' n').1 (difT p v u n v' u' n').2.1 (difT p v u n v' u' n').2.2).2.2.2]) rfl rfl (by kernel_rfl) (by kernel_rfl) (by kernel_rfl) (fun _ _ _ h => h) (Or.inl ⟨by rfl, ?_⟩) hHeld ?_
          · intro w' hS; go_simp
          try simp only [Act.put, List.setIfInBounds_toArray, List.set_cons_zero, List.set_cons_succ]
          refine take_at (i := 7) (d := 22) (v := .int .i64 (limC p (difT p v u n v' u' n').1 (difT p v u n v' u' n').2.1 (difT p v u n v' u' n').2.2)) rfl rfl (by kernel_rfl) (by kernel_rfl) (by kernel_rfl) (fun _ _ _ h => h) (Or.inl ⟨by rfl, ?_⟩) hHeld ?_
          · intro w' hS; go_simp
          try simp only [Act.put, List.setIfInBounds_toArray, List.set_cons_zero, List.set_cons_succ]
          refine wpAnyH_ready (rs := [8]) (by kernel_rfl) (by simp) ?_
          refine AllReadyH.cons rfl (fun K hK => ?_) AllReadyH.nil
          go_simp
          refine hK.out _ _ (sr_alloc hHeld _) (fun hHeld => ?_)
          clear hK K
          try simp only [Act.put, List.setIfInBounds_toArray, List.set_cons_zero, List.set_cons_succ]
          have HL := lies_new w4 (P4 0 0 0 0) 34
          have hlt : w.heap.size + 1 < w4.heap.size := lies_lt ‹SR _ _ _ _ _ _ _ _ _ w4›.1.2.2
          generalize w4.alloc (.cells (P4 0 0 0 0) 34) = wA at HL hHeld ⊢
          obtain ⟨bA, hbA⟩ : ∃ b, w4.heap.size = b := ⟨_, rfl⟩
          rw [hbA] at HL hlt ⊢
          clear hbA
          obtain ⟨g0, g1, g2, g3⟩ := lies_four HL
          obtain ⟨gf0, gf1, gf2, gf3⟩ := lies_ice HL
          refine wpAnyH_ready (rs := [9]) (by kernel_rfl) (by simp) ?_
          refine AllReadyH.cons rfl (fun K hK => ?_) AllReadyH.nil
          go_simp
          refine hK.out _ _ (sr_set hHeld _ _ _ _ hlt) (fun hHeld => ?_)
          clear hK K
          try simp only [Act.put, List.setIfInBounds_toArray, List.set_cons_zero, List.set_cons_succ]
          refine take_at (i := 10) (d := 8) (v := .int .i64 (limC p (difT p v u n v' u' n').1 (difT p v u n v' u' n').2.1 (difT p v u n v' u' n').2.2)) rfl rfl (by kernel_rfl) (by kernel_rfl) (by kernel_rfl) (fun _ _ _ h => h) (Or.inl ⟨by rfl, ?_⟩) hHeld ?_
          · intro w' hS; go_simp
          try simp only [Act.put, List.setIfInBounds_toArray, List.set_cons_zero, List.set_cons_succ]
          refine wpAnyH_done (by kernel_rfl) ?_ _
          go_wp2
          go_ret2
          exact ⟨rfl, hHeld.1.1⟩
        · skip
          go_simp
          refine hK.out _ _ (sr_alloc hHeld _) (fun hHeld => ?_)
          clear hK K
          try simp only [Act.put, List.setIfInBounds_toArray, List.set_cons_zero, List.set_cons_succ]
          have HL := lies_new w3 (P4 0 0 0 0) 34
          have hlt : w.heap.size + 1 < w3.heap.size := lies_lt ‹SR _ _ _ _ _ _ _ _ _ w3›.1.2.2
          generalize w3.alloc (.cells (P4 0 0 0 0) 34) = wA at HL hHeld ⊢
          obtain ⟨bA, hbA⟩ : ∃ b, w3.heap.size = b := ⟨_, rfl⟩
          rw [hbA] at HL hlt ⊢
          clear hbA
          refine wpAnyH_ready (rs := [4]) (by kernel_rfl) (by simp) ?_
          refine AllReadyH.cons rfl (fun K hK => ?_) AllReadyH.nil
          go_simp
          go_at_call 75; refine (asResultQ_any _ _ _ _ _).mono ?_; rintro e w4 ⟨rfl, hb⟩
          go_simp
          refine hK.out _ _ (sr_next hHeld hb) (fun hHeld => ?_)
          clear hK K
          try simp only [Act.put, List.setIfInBounds_toArray, List.set_cons_zero, List.set_cons_succ]
          replace HL := lies_next HL hb
          clear hb
          refine take_at (i := 5) (d := 15) (v := .tuple #[.agg #[.int .i64 (resQ p (difT p v u n v' u' n').1 (difT p v u n v' u' n').2.1 (difT p v u n v' u' n').2.2).1, .int .i64 (resQ p (difT p v u n v' u' n').1 (difT p v u n v' u' n').2.1 (difT p v u n v' u' n').2.2).2.1, .int .i64 (resQ p (difT p v u n v' u' n').1 (difT p v u n v' u' n').2.1 (difT p v u n v' u' n').2.2).2.2.1, .int .i64 (resQ p (difT p v u n v' u' n').1 (difT p v u n v' u' n').2.1 (difT p v u n v' u' n').2.2).2.2.2], .int .i64 (limC p (difT p v u n v' u' n').1 (difT p v u n v' u' n').2.1 (difT p v u n v' u' n').2.2)]) rfl rfl (by kernel_rfl) (by kernel_rfl) (by kernel_rfl) (fun _ _ _ h => h) (Or.inl ⟨by rfl, ?_⟩) hHeld ?_
          · intro w' hS; go_simp
          try simp only [Act.put, List.setIfInBounds_toArray, List.set_cons_zero, List.set_cons_succ]
          refine take_at (i := 6) (d := 21) (v := .agg #[.int .i64 (resQ p (difT p v u n v' u' n').1 (difT p v u n v' u' n').2.1 (difT p v u n v' u' n').2.2).1, .int .i64 (resQ p (difT p v u n v' u' n').1 (difT p v u n v' u' n').2.1 (difT p v u n v' u' n').2.2).2.1, .int .i64 (resQ p (difT p v u n v' u' n').1 (difT p v u n v' u' n').2.1 (difT p v u n v' u' n').2.2).2.2.1, .int .i64 (resQ p (difT p v u n v' u' n').1 (difT p v u n v' u' n').2.1 (difT p v u n v' u' n').2.2).2.2.2]) rfl rfl (by kernel_rfl) (by kernel_rfl) (by kernel_rfl) (fun _ _ _ h => h) (Or.inl ⟨by rfl, ?_⟩) hHeld ?_
          · intro w' hS; go_simp
          try simp only [Act.put, List.setIfInBounds_toArray, List.set_cons_zero, List.set_cons_succ]
          refine take_at (i := 7) (d := 22) (v := .int .i64 (limC p (difT p v u n v' u' n').1 (difT p v u n v' u' n').2.1 (difT p v u n v' u' n').2.2)) rfl rfl (by kernel_rfl) (by kernel_rfl) (by kernel_rfl) (fun _ _ _ h => h) (Or.inl ⟨by rfl, ?_⟩) hHeld ?_
          · intro w' hS; go_simp
          try simp only [Act.put, List.setIfInBounds_toArray, List.set_cons_zero, List.set_cons_succ]
          obtain ⟨g0, g1, g2, g3⟩ := lies_four HL
          obtain ⟨gf0, gf1, gf2, gf3⟩ := lies_ice HL
          refine wpAnyH_ready (rs := [9]) (by kernel_rfl) (by simp) ?_
          refine AllReadyH.cons rfl (fun K hK => ?_) AllReadyH.nil
          go_simp
          refine hK.out _ _ (sr_set hHeld _ _ _ _ hlt) (fun hHeld => ?_)
          clear hK K
          try simp only [Act.put, List.setIfInBounds_toArray, List.set_cons_zero, List.set_cons_succ]
          refine take_at (i := 10) (d := 8) (v := .int .i64 (limC p (difT p v u n v' u' n').1 (difT p v u n v' u' n').2.1 (difT p v u n v' u' n').2.2)) rfl rfl (by kernel_rfl) (by kernel_rfl) (by kernel_rfl) (fun _ _ _ h => h) (Or.inl ⟨by rfl, ?_⟩) hHeld ?_
          · intro w' hS; go_simp
          try simp only [Act.put, List.setIfInBounds_toArray, List.set_cons_zero, List.set_cons_succ]
          refine wpAnyH_done (by kernel_rfl) ?_ _
          go_wp2
          go_ret2
          exact ⟨rfl, hHeld.1.1⟩
      · skip
        go_simp
        refine hK.out _ _ (sr_alloc hHeld _) (fun hHeld => ?_)
        clear hK K
        try simp only [Act.put, List.setIfInBounds_toArray, List.set_cons_zero, List.set_cons_succ]
        have HL := lies_new w2 (P4 0 0 0 0) 34
        have hlt : w.heap.size + 1 < w2.heap.size := lies_lt ‹SR _ _ _ _ _ _ _ _ _ w2›.1.2.2
        generalize w2.alloc (.cells (P4 0 0 0 0) 34) = wA at HL hHeld ⊢
        obtain ⟨bA, hbA⟩ : ∃ b, w2.heap.size = b := ⟨_, rfl⟩
        rw [hbA] at HL hlt ⊢
        clear hbA
        refine wpAnyH_ready (rs := [3]) (by kernel_rfl) (by simp) ?_
        refine AllReadyH.cons rfl (fun K hK => ?_) AllReadyH.nil
        go_simp
        go_at_call 87; refine (plus_any _ _ _ _ _ _ _ _ H.out.1 H.out.2.2).mono ?_; rw [← HD.out]; rintro e w3 ⟨rfl, hb⟩
        go_simp
        refine hK.out _ _ (sr_next hHeld hb) (fun hHeld => ?_)
        clear hK K
        try simp only [Act.put, List.setIfInBounds_toArray, List.set_cons_zero, List.set_cons_succ]
        replace HL := lies_next HL hb
        clear hb
        refine wpAnyH_ready (rs := [4]) (by kernel_rfl) (by simp) ?_
        refine AllReadyH.cons rfl (fun K hK => ?_) AllReadyH.nil
        go_simp
        go_at_call 75; refine (asResultQ_any _ _ _ _ _).mono ?_; rintro e w4 ⟨rfl, hb⟩
        go_simp
        refine hK.out _ _ (sr_next hHeld hb) (fun hHeld => ?_)
        clear hK K
        try simp only [Act.put, List.setIfInBounds_toArray, List.set_cons_zero, List.set_cons_succ]
        replace HL := lies_next HL hb
        clear hb
        refine take_at (i := 5) (d := 15) (v := .tuple #[.agg #[.int .i64 (resQ p (difT p v u n v' u' n').1 (difT p v u n v' u' n').2.1 (difT p v u n v' u' n').2.2).1, .int .i64 (resQ p (difT p v u n v' u' n').1 (difT p v u n v' u' n').2.1 (difT p v u n v' u' n').2.2).2.1, .int .i64 (resQ p (difT p v u n v' u' n').1 (difT p v u n v' u' n').2.1 (difT p v u n v' u' n').2.2).2.2.1, .int .i64 (resQ p (difT p v u n v' u' n').1 (difT p v u n v' u' n').2.1 (difT p v u n v' u' n').2.2).2.2.2], .int .i64 (limC p (difT p v u n v' u' n').1 (difT p v u n v' u' n').2.1 (difT p v u n v' u' n').2.2)]) rfl rfl (by kernel_rfl) (by kernel_rfl) (by kernel_rfl) (fun _ _ _ h => h) (Or.inl ⟨by rfl, ?_⟩) hHeld ?_
        · intro w' hS; go_simp
        try simp only [Act.put, List.setIfInBounds_toArray, List.set_cons_zero, List.set_cons_succ]
        refine take_at (i := 6) (d := 21) (v := .agg #[.int .i64 (resQ p (difT p v u n v' u' n').1 (difT p v u n v' u' n').2.1 (difT p v u n v' u' n').2.2).1, .int .i64 (resQ p (difT p v u n v' u' n').1 (difT p v u n v' u' n').2.1 (difT p v u n v' u' n').2.2).2.1, .int .i64 (resQ p (difT p v u n v' u' n').1 (difT p v u n v' u' n').2.1 (difT p v u n v' u' n').2.2).2.2.1, .int .i64 (resQ p (difT p v u n v' u' n').1 (difT p v u n v' u' n').2.1 (difT p v u n v' u' n').2.2).2.2.2]) rfl rfl (by kernel_rfl) (by kernel_rfl) (by kernel_rfl) (fun _ _ _ h => h) (Or.inl ⟨by rfl, ?_⟩) hHeld ?_
        · intro w' hS; go_simp
        try simp only [Act.put, List.setIfInBounds_toArray, List.set_cons_zero, List.set_cons_succ]
        refine take_at (i := 7) (d := 22) (v := .int .i64 (limC p (difT p v u n v' u' n').1 (difT p v u n v' u' n').2.1 (difT p v u n v' u' n').2.2)) rfl rfl (by kernel_rfl) (by kernel_rfl) (by kernel_rfl) (fun _ _ _ h => h) (Or.inl ⟨by rfl, ?_⟩) hHeld ?_
        · intro w' hS; go_simp
        try simp only [Act.put, List.setIfInBounds_toArray, List.set_cons_zero, List.set_cons_succ]
        obtain ⟨g0, g1, g2, g3⟩ := lies_four HL
        obtain ⟨gf0, gf1, gf2, gf3⟩ := lies_ice HL
        refine wpAnyH_ready (rs := [9]) (by kernel_rfl) (by simp) ?_
        refine AllReadyH.cons rfl (fun K hK => ?_) AllReadyH.nil
        go_simp
        refine hK.out _ _ (sr_set hHeld _ _ _ _ hlt) (fun hHeld => ?_)
        clear hK K
        try simp only [Act.put, List.setIfInBounds_toArray, List.set_cons_zero, List.set_cons_succ]
        refine take_at (i := 10) (d := 8) (v := .int .i64 (limC p (difT p v u n v' u' n').1 (difT p v u n v' u' n').2.1 (difT p v u n v' u' n').2.2)) rfl rfl (by kernel_rfl) (by kernel_rfl) (by kernel_rfl) (fun _ _ _ h => h) (Or.inl ⟨by rfl, ?_⟩) hHeld ?_
        · intro w' hS; go_simp
        try simp only [Act.put, List.setIfInBounds_toArray, List.set_cons_zero, List.set_cons_succ]
        refine wpAnyH_done (by kernel_rfl) ?_ _
        go_wp2
        go_ret2
        exact ⟨rfl, hHeld.1.1⟩
    · skip
      go_simp
      refine hK.out _ _ (sr_alloc hHeld _) (fun hHeld => ?_)
      clear hK K
      try simp only [Act.put, List.setIfInBounds_toArray, List.set_cons_zero, List.set_cons_succ]
      have HL := lies_new w1 (P4 0 0 0 0) 34
      have hlt : w.heap.size + 1 < w1.heap.size := lies_lt ‹SR _ _ _ _ _ _ _ _ _ w1›.1.2.2
      generalize w1.alloc (.cells (P4 0 0 0 0) 34) = wA at HL hHeld ⊢
      obtain ⟨bA, hbA⟩ : ∃ b, w1.heap.size = b := ⟨_, rfl⟩
      rw [hbA] at HL hlt ⊢
      clear hbA
      refine wpAnyH_ready (rs := [2]) (by kernel_rfl) (by simp) ?_
      refine AllReadyH.cons rfl (fun K hK => ?_) AllReadyH.nil
      go_simp
      go_at_call 88; refine (negative_any _ _ _ _ _ H.out.2.1).mono ?_; rintro e w2 ⟨rfl, hb⟩
      go_simp
      refine hK.out _ _ (sr_next hHeld hb) (fun hHeld => ?_)
      clear hK K
      try simp only [Act.put, List.setIfInBounds_toArray, List.set_cons_zero, List.set_cons_succ]
      replace HL := lies_next HL hb
      clear hb
      refine wpAnyH_ready (rs := [3]) (by kernel_rfl) (by simp) ?_
      refine AllReadyH.cons rfl (fun K hK => ?_) AllReadyH.nil
      go_simp
      go_at_call 87; refine (plus_any _ _ _ _ _ _ _ _ H.out.1 H.out.2.2).mono ?_; rw [← HD.out]; rintro e w3 ⟨rfl, hb⟩
      go_simp
      refine hK.out _ _ (sr_next hHeld hb) (fun hHeld => ?_)
      clear hK K
      try simp only [Act.put, List.setIfInBounds_toArray, List.set_cons_zero, List.set_cons_succ]
      replace HL := lies_next HL hb
      clear hb
      refine wpAnyH_ready (rs := [4]) (by kernel_rfl) (by simp) ?_
      refine AllReadyH.cons rfl (fun K hK => ?_) AllReadyH.nil
      go_simp
      go_at_call 75; refine (asResultQ_any _ _ _ _ _).mono ?_; rintro e w4 ⟨rfl, hb⟩
      go_simp
      refine hK.out _ _ (sr_next hHeld hb) (fun hHeld => ?_)
      clear hK K
      try simp only [Act.put, List.setIfInBounds_toArray, List.set_cons_zero, List.set_cons_succ]
      replace HL := lies_next HL hb
      clear hb
      refine take_at (i := 5) (d := 15) (v := .tuple #[.agg #[.int .i64 (resQ p (difT p v u n v' u' n').1 (difT p v u n v' u' n').2.1 (difT p v u n v' u' n').2.2).1, .int .i64 (resQ p (difT p v u n v' u' n').1 (difT p v u n v' u' n').2.1 (difT p v u n v' u' n').2.2).2.1, .int .i64 (resQ p (difT p v u n v' u' n').1 (difT p v u n v' u' n').2.1 (difT p v u n v' u' n').2.2).2.2.1, .int .i64 (resQ p (difT p v u n v' u' n').1 (difT p v u n v' u' n').2.1 (difT p v u n v' u' n').2.2).2.2.2], .int .i64 (limC p (difT p v u n v' u' n').1 (difT p v u n v' u' n').2.1 (difT p v u n v' u' n').2.2)]) rfl rfl (by kernel_rfl) (by kernel_rfl) (by kernel_rfl) (fun _ _ _ h => h) (Or.inl ⟨by rfl, ?_⟩) hHeld ?_
      · intro w' hS; go_simp
      try simp only [Act.put, List.setIfInBounds_toArray, List.set_cons_zero, List.set_cons_succ]
      refine take_at (i := 6) (d := 21) (v := .agg #[.int .i64 (resQ p (difT p v u n v' u' n').1 (difT p v u n v' u' n').2.1 (difT p v u n v' u' n').2.2).1, .int .i64 (resQ p (difT p v u n v' u' n').1 (difT p v u n v' u' n').2.1 (difT p v u n v' u' n').2.2).2.1, .int .i64 (resQ p (difT p v u n v' u' n').1 (difT p v u n v' u' n').2.1 (difT p v u n v' u' n').2.2).2.2.1, .int .i64 (resQ p (difT p v u n v' u' n').1 (difT p v u n v' u' n').2.1 (difT p v u n v' u' n').2.2).2.2.2]) rfl rfl (by kernel_rfl) (by kernel_rfl) (by kernel_rfl) (fun _ _ _ h => h) (Or.inl ⟨by rfl, ?_⟩) hHeld ?_
      · intro w' hS; go_simp
      try simp only [Act.put, List.setIfInBounds_toArray, List.set_cons_zero, List.set_cons_succ]
      refine take_at (i := 7) (d := 22) (v := .int .i64 (limC p (difT p v u n v' u' n').1 (difT p v u n v' u' n').2.1 (difT p v u n v' u' n').2.2)) rfl rfl (by kernel_rfl) (by kernel_rfl) (by kernel_rfl) (fun _ _ _ h => h) (Or.inl ⟨by rfl, ?_⟩) hHeld ?_
      · intro w' hS; go_simp
      try simp only [Act.put, List.setIfInBounds_toArray, List.set_cons_zero, List.set_cons_succ]
      obtain ⟨g0, g1, g2, g3⟩ := lies_four HL
      obtain ⟨gf0, gf1, gf2, gf3⟩ := lies_ice HL
      refine wpAnyH_ready (rs := [9]) (by kernel_rfl) (by simp) ?_
      refine AllReadyH.cons rfl (fun K hK => ?_) AllReadyH.nil
      go_simp
      refine hK.out _ _ (sr_set hHeld _ _ _ _ hlt) (fun hHeld => ?_)
      clear hK K
      try simp only [Act.put, List.setIfInBounds_toArray, List.set_cons_zero, List.set_cons_succ]
      refine take_at (i := 10) (d := 8) (v := .int .i64 (limC p (difT p v u n v' u' n').1 (difT p v u n v' u' n').2.1 (difT p v u n v' u' n').2.2)) rfl rfl (by kernel_rfl) (by kernel_rfl) (by kernel_rfl) (fun _ _ _ h => h) (Or.inl ⟨by rfl, ?_⟩) hHeld ?_
      · intro w' hS; go_simp
      try simp only [Act.put, List.setIfInBounds_toArray, List.set_cons_zero, List.set_cons_succ]
      refine wpAnyH_done (by kernel_rfl) ?_ _
      go_wp2
      go_ret2
      exact ⟨rfl, hHeld.1.1⟩
  · have hc' : (twoC p v u n q v' u' n' == 0) = false := by simpa using hc
    rw [show eqV p v u n q v' u' n' = 0 by simp [eqV, hc], show eqC p v u n q v' u' n' = twoC p v u n q v' u' n' by simp [eqC, hc]]
    clear hc
    go_enter Try.func33, Try.ntmps33
    go_wp2_with (first | (go_at_call 73; refine (checkWith_any _ _ _ _ _ _ _ _ _).mono ?_; rintro e wn ⟨rfl, hb⟩; (first | have K := k2_first hb | have K := k2_next K hb); obtain ⟨c0, c1, c2, c3⟩ := lies_four K.2.1; obtain ⟨d0, d1, d2, d3⟩ := lies_four K.2.2))
    go_ret2
    exact ⟨rfl, K.1⟩
theorem implMake_any (p m k : Int) (w : World) :
    Calls Try.prog 129 #[.int .i64 p, .int .i64 m, .int .i64 k] w fun e w' => e = .returned (.tuple #[.agg (A4 (madeQ p m k)), .int .i64 (madeC p m k)]) ∧ Below w.heap.size w w' := by
  by_cases h0 : ringM p k = 0
  · have HC := Lib.hid (show ringC p k = 1 by simp [ringC, h0])
    rw [show madeQ p m k = (0, 0, 0, 0) by simp [madeQ, h0], show madeC p m k = 1 by simp [madeC, h0]]
    clear h0
    go_enter Try.func129, Try.ntmps129
    go_wp2_with (first | (go_at_call 58; refine (checkNil_any _ _ _).mono ?_; rw [HC.out]; rintro e wn ⟨rfl, hb⟩; (first | have K := k2_first hb | have K := k2_next K hb); obtain ⟨c0, c1, c2, c3⟩ := lies_four K.2.1; obtain ⟨cf0, cf1, cf2, cf3⟩ := lies_ice K.2.1; obtain ⟨d0, d1⟩ := lies_pair K.2.2))
    refine bodyPost_ret (v := .tuple #[.agg (P4 0 0 0 0), .int .i64 1]) (by simp [results, Try.results129, go_sem, c0, c1, c2, c3]) rfl ?_
    exact ⟨rfl, below_set4 K.1 (by omega)⟩
  · have HC := Lib.hid (show ringC p k = 0 by simp [ringC, h0])
    obtain ⟨hp2, hp97, hk1, hk2, hm1, hm2, _⟩ := ringM_bd h0
    cases hv : valueB m
    · rw [show madeQ p m k = (0, 0, 0, 0) by simp [madeQ, hv], show madeC p m k = 2 by simp [madeC, h0, hv]]
      clear h0
      go_enter Try.func129, Try.ntmps129
      go_wp2_with (first | (go_at_call 58; refine (checkNil_any _ _ _).mono ?_; rw [HC.out]; rintro e wn ⟨rfl, hb⟩; (first | have K := k2_first hb | have K := k2_next K hb); obtain ⟨c0, c1, c2, c3⟩ := lies_four K.2.1; obtain ⟨cf0, cf1, cf2, cf3⟩ := lies_ice K.2.1; obtain ⟨d0, d1⟩ := lies_pair K.2.2) | (go_at_call 127; refine (isValue_any _ _).mono ?_; rintro e wn ⟨rfl, rfl⟩))
      refine bodyPost_ret (v := .tuple #[.agg (P4 0 0 0 0), .int .i64 2]) (by simp [results, Try.results129, go_sem, c0, c1, c2, c3]) rfl ?_
      exact ⟨rfl, below_set4 K.1 (by omega)⟩
    · by_cases hm : m = 0
      · subst hm
        rw [show madeQ p 0 k = (0, 0, 0, 0) by simp [madeQ], show madeC p 0 k = 2 by simp [madeC, h0]]
        clear h0
        go_enter Try.func129, Try.ntmps129
        go_wp2_with (first | (go_at_call 58; refine (checkNil_any _ _ _).mono ?_; rw [HC.out]; rintro e wn ⟨rfl, hb⟩; (first | have K := k2_first hb | have K := k2_next K hb); obtain ⟨c0, c1, c2, c3⟩ := lies_four K.2.1; obtain ⟨cf0, cf1, cf2, cf3⟩ := lies_ice K.2.1; obtain ⟨d0, d1⟩ := lies_pair K.2.2) | (go_at_call 127; refine (isValue_any _ _).mono ?_; rintro e wn ⟨rfl, rfl⟩))
        refine bodyPost_ret (v := .tuple #[.agg (P4 0 0 0 0), .int .i64 2]) (by simp [results, Try.results129, go_sem, c0, c1, c2, c3]) rfl ?_
        exact ⟨rfl, below_set4 K.1 (by omega)⟩
      · have hm' : (m == 0) = false := by simpa using hm
        have hvb := valueB_bd hv
        have HD := Lib.hid fun w => divideOut_any m p w hp2 hm (by omega)
        have HR := Lib.hid fun x w => remainder1_any x (ringM p k) w (by omega) hm2
        rw [show madeQ p m k = (p, valCount m p, valRest m p % ringM p k, k) by simp [madeQ, h0, hv, hm], show madeC p m k = 0 by simp [madeC, h0, hv, hm]]
        clear h0 hm
        go_enter Try.func129, Try.ntmps129
        go_wp2_with (first | (go_at_call 58; refine (checkNil_any _ _ _).mono ?_; rw [HC.out]; rintro e wn ⟨rfl, hb⟩; (first | have K := k2_first hb | have K := k2_next K hb); obtain ⟨c0, c1, c2, c3⟩ := lies_four K.2.1; obtain ⟨cf0, cf1, cf2, cf3⟩ := lies_ice K.2.1; obtain ⟨d0, d1⟩ := lies_pair K.2.2) | (go_at_call 127; refine (isValue_any _ _).mono ?_; rintro e wn ⟨rfl, rfl⟩) | (go_at_call 124; refine (HD.out _).mono ?_; rintro e wn ⟨rfl, rfl⟩) | (go_at_call 61; refine (implModulus_any _ _ _).mono ?_; rintro e wn ⟨rfl, hb⟩; (first | have K := k2_first hb | have K := k2_next K hb); obtain ⟨c0, c1, c2, c3⟩ := lies_four K.2.1; obtain ⟨cf0, cf1, cf2, cf3⟩ := lies_ice K.2.1; obtain ⟨d0, d1⟩ := lies_pair K.2.2) | (go_at_call 111; refine (HR.out _ _).mono ?_; rintro e wn ⟨rfl, rfl⟩))
        refine bodyPost_ret (v := .tuple #[.agg (P4 p (valCount m p) (valRest m p % ringM p k) k), .int .i64 0]) (by simp [results, Try.results129, go_sem, c0, c1, c2, c3]) rfl ?_
        exact ⟨rfl, below_set4 K.1 (by omega)⟩
end Go.Proofs.Ytgckamlibbjgcaa
