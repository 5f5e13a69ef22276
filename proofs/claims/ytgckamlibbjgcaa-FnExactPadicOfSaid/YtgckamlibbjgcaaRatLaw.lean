/- Walks of the exact laws of chapter 5 but those of texts: true at every input. -/
import Derived.Test.YtgckamlibbjgcaaRatAgree
import Derived.Test.YtgckamlibbjgcaaRatFind2
import Derived.Test.YtgckamlibbjgcaaRingLaw
namespace Go.Proofs.Ytgckamlibbjgcaa
open Go.RowKit
set_option linter.unusedVariables false
set_option linter.unusedSimpArgs false
set_option maxRecDepth 20000
theorem toRational_any (n d : Int) (w : World) :
    Calls Try.prog 54 #[.agg (P2 n d)] w fun e w' => e = .returned (.agg (P2 n d)) ∧ Below w.heap.size w w' := by
  go_enter Try.func54, Try.ntmps54
  go_wp2
  refine bodyPost_ret (v := .agg (P2 n d)) (by simp [results, Try.results54, go_sem]) rfl ?_
  exact ⟨rfl, below_a3 w _ _ _⟩
theorem toPadicR_any (p v u n : Int) (w : World) :
    Calls Try.prog 52 #[.agg (P4 p v u n)] w fun e w' => e = .returned (.agg (P4 p v u n)) ∧ Below w.heap.size w w' := by
  go_enter Try.func52, Try.ntmps52
  go_wp2
  refine bodyPost_ret (v := .agg (P4 p v u n)) (by simp [results, Try.results52, go_sem]) rfl ?_
  exact ⟨rfl, below_a3 w _ _ _⟩
theorem eqPadicR_any (p v u n : Int) (w : World) :
    Calls Try.prog 53 #[.agg (P4 p v u n), .agg (P4 p v u n)] w fun e w' => e = .returned (.bool true) ∧ Below w.heap.size w w' := by
  go_enter Try.func53, Try.ntmps53
  go_wp2
  go_ret
  exact ⟨rfl, below_a2 w _ _⟩
theorem lies_set2 {w1 : World} {b : Nat} {y0 y1 x0 x1 : Value} (h : Lies w1 b #[y0, y1]) :
    Lies ((w1.setCell ⟨b, 0, none⟩ x0).setCell ⟨b, 1, none⟩ x1) b #[x0, x1] := lies_set (lies_set h (by simp)) (by simp)
theorem lies_other2 {w1 : World} {b b' : Nat} {vs : Array Value} {x0 x1 : Value} (h : Lies w1 b vs) (hb : b' ≠ b) :
    Lies ((w1.setCell ⟨b', 0, none⟩ x0).setCell ⟨b', 1, none⟩ x1) b vs := lies_other (lies_other h hb) hb
theorem k1_allocR {w w1 : World} {a : Array Value} (h : K1 w a w1) (o : Obj) : K1 w a (w1.alloc o) := k1_next h (below_a1 w1 o)
/-- two pairs of numbers that are read -/
abbrev SB (w : World) (a b c d : Int) (w1 : World) : Prop :=
  K2 w (P2 a b) (P2 c d) w1 ∧ w1.cell? ⟨w.heap.size, 0, none⟩ = some (.int .i64 a) ∧ w1.cell? ⟨w.heap.size, 1, none⟩ = some (.int .i64 b) ∧ w1.cell? ⟨w.heap.size + 1, 0, none⟩ = some (.int .i64 c) ∧ w1.cell? ⟨w.heap.size + 1, 1, none⟩ = some (.int .i64 d)
theorem sb_of {w : World} {a b c d : Int} {w1 : World} (K : K2 w (P2 a b) (P2 c d) w1) : SB w a b c d w1 := by
  obtain ⟨c0, c1⟩ := lies_pair K.2.1
  obtain ⟨d0, d1⟩ := lies_pair K.2.2
  exact ⟨K, c0, c1, d0, d1⟩
theorem sb_next {w : World} {a b c d : Int} {w1 w2 : World} (h : SB w a b c d w1) (hb : Below w1.heap.size w1 w2) : SB w a b c d w2 := sb_of (k2_next h.1 hb)
theorem sb_alloc {w : World} {a b c d : Int} {w1 : World} (h : SB w a b c d w1) (o : Obj) : SB w a b c d (w1.alloc o) := sb_next h (below_a1 w1 o)
theorem sb_set2 {w : World} {a b c d : Int} {w1 : World} {q : Nat} (h : SB w a b c d w1) (x0 x1 : Value) (hq : w.heap.size + 1 < q) :
    SB w a b c d ((w1.setCell ⟨q, 0, none⟩ x0).setCell ⟨q, 1, none⟩ x1) :=
  sb_of ⟨below_set2 h.1.1 (by omega), lies_other2 h.1.2.1 (by omega), lies_other2 h.1.2.2 (by omega)⟩
theorem sb_set4 {w : World} {a b c d : Int} {w1 : World} {q : Nat} (h : SB w a b c d w1) (x0 x1 x2 x3 : Value) (hq : w.heap.size + 1 < q) :
    SB w a b c d ((((w1.setCell ⟨q, 0, none⟩ x0).setCell ⟨q, 1, none⟩ x1).setCell ⟨q, 2, none⟩ x2).setCell ⟨q, 3, none⟩ x3) :=
  sb_of ⟨below_set4 h.1.1 (by omega), lies_other4 h.1.2.1 (by omega), lies_other4 h.1.2.2 (by omega)⟩
/-- and a third block -/
abbrev SBX (w : World) (a b c d : Int) (q : Nat) (vs : Array Value) (w1 : World) : Prop := SB w a b c d w1 ∧ Lies w1 q vs
theorem sbx_of {w : World} {a b c d : Int} {q : Nat} {vs : Array Value} {w1 : World} (K : K2 w (P2 a b) (P2 c d) w1.drew) (L : Lies w1 q vs) : SBX w a b c d q vs w1.drew := ⟨sb_of K, L⟩
theorem sbx_next {w : World} {a b c d : Int} {q : Nat} {vs : Array Value} {w1 w2 : World} (h : SBX w a b c d q vs w1) (hb : Below w1.heap.size w1 w2) : SBX w a b c d q vs w2 := ⟨sb_next h.1 hb, lies_next h.2 hb⟩
theorem sbx_alloc {w : World} {a b c d : Int} {q : Nat} {vs : Array Value} {w1 : World} (h : SBX w a b c d q vs w1) (o : Obj) : SBX w a b c d q vs (w1.alloc o) := ⟨sb_alloc h.1 o, lies_alloc h.2 o⟩
theorem sbx_set2 {w : World} {a b c d : Int} {q r : Nat} {vs : Array Value} {w1 : World} (h : SBX w a b c d q vs w1) (x0 x1 : Value) (hr : w.heap.size + 1 < r) (hq : q < r) :
    SBX w a b c d q vs ((w1.setCell ⟨r, 0, none⟩ x0).setCell ⟨r, 1, none⟩ x1) := ⟨sb_set2 h.1 x0 x1 hr, lies_other2 h.2 (by omega)⟩
theorem sbx_set4 {w : World} {a b c d : Int} {q r : Nat} {vs : Array Value} {w1 : World} (h : SBX w a b c d q vs w1) (x0 x1 x2 x3 : Value) (hr : w.heap.size + 1 < r) (hq : q < r) :
    SBX w a b c d q vs ((((w1.setCell ⟨r, 0, none⟩ x0).setCell ⟨r, 1, none⟩ x1).setCell ⟨r, 2, none⟩ x2).setCell ⟨r, 3, none⟩ x3) := ⟨sb_set4 h.1 x0 x1 x2 x3 hr, lies_other4 h.2 (by omega)⟩
set_option maxHeartbeats 4000000 in
theorem exactPof_walk (a b c d : Int) (_ : (Lit.int .i64 a).wf = true) (_ : (Lit.int .i64 b).wf = true) (_ : (Lit.int .i64 c).wf = true) (_ : (Lit.int .i64 d).wf = true) (w : World) :
    Calls Try.prog 9 #[.agg (P2 a b), .agg (P2 c d)] w fun e w' => e = .returned (.bool true) ∧ Below w.heap.size w w' := by
  go_enter Try.func9, Try.ntmps9
  go_upto_region 1 with fail
  go_cut [5, 6] (fun s5 s6 wx => ∃ q, s5 = .pointer (some ⟨q, 0, none⟩) ∧ s6 = .int .i64 (pofC a b c d) ∧ K2 w (P2 a b) (P2 c d) wx ∧ Lies wx q (P4 (pofQ a b c d).1 (pofQ a b c d).2.1 (pofQ a b c d).2.2.1 (pofQ a b c d).2.2.2))
  case first =>
    have K := k2_new w (P2 a b) (P2 c d) 66 59
    generalize ((w.alloc (.cells (P2 a b) 66)).alloc (.cells (P2 c d) 59)) = W at K ⊢
    refine wp_region_held_drew (S := SB w a b c d) (by kernel_rfl) (sb_of (k2_drew K)) (fun hHeld => ?_)
    generalize World.drew _ = w1 at hHeld ⊢
    refine take_at (i := 0) (d := 10) (v := .agg (P2 a b)) rfl rfl (by kernel_rfl) (by kernel_rfl) (by kernel_rfl) (fun _ _ _ h => h) (Or.inl ⟨by rfl, ?_⟩) hHeld ?_
    · intro w' hS
      obtain ⟨_, k0, k1, l0, l1⟩ := hS
      go_simp
    try simp only [Act.put, List.setIfInBounds_toArray, List.set_cons_zero, List.set_cons_succ]
    refine take_at (i := 2) (d := 12) (v := .agg (P2 c d)) rfl rfl (by kernel_rfl) (by kernel_rfl) (by kernel_rfl) (fun _ _ _ h => h) (Or.inl ⟨by rfl, ?_⟩) hHeld ?_
    · intro w' hS
      obtain ⟨_, k0, k1, l0, l1⟩ := hS
      go_simp
    try simp only [Act.put, List.setIfInBounds_toArray, List.set_cons_zero, List.set_cons_succ]
    refine wpAnyH_ready (rs := [1, 8]) (by kernel_rfl) (by simp) ?_
    refine AllReadyH.cons rfl (fun K hK => ?_) (AllReadyH.cons rfl (fun K hK => ?_) AllReadyH.nil)
    · skip
      go_simp
      go_at_call 54; refine (toRational_any _ _ _).mono ?_; rintro e wc1 ⟨rfl, hb⟩
      go_simp
      refine hK.out _ _ (sb_next hHeld hb) (fun hHeld => ?_)
      clear hK K
      try simp only [Act.put, List.setIfInBounds_toArray, List.set_cons_zero, List.set_cons_succ]
      clear hb
      refine wpAnyH_ready (rs := [3, 8]) (by kernel_rfl) (by simp) ?_
      refine AllReadyH.cons rfl (fun K hK => ?_) (AllReadyH.cons rfl (fun K hK => ?_) AllReadyH.nil)
      · skip
        go_simp
        go_at_call 51; refine (toRing_any _ _ _).mono ?_; rintro e wc3 ⟨rfl, hb⟩
        go_simp
        refine hK.out _ _ (sb_next hHeld hb) (fun hHeld => ?_)
        clear hK K
        try simp only [Act.put, List.setIfInBounds_toArray, List.set_cons_zero, List.set_cons_succ]
        clear hb
        refine wpAnyH_ready (rs := [4, 8]) (by kernel_rfl) (by simp) ?_
        refine AllReadyH.cons rfl (fun K hK => ?_) (AllReadyH.cons rfl (fun K hK => ?_) AllReadyH.nil)
        · skip
          go_simp
          go_at_call 47; refine (specPof_any _ _ _ _ _).mono ?_; rintro e wc4 ⟨rfl, hb⟩
          go_simp
          refine hK.out _ _ (sb_next hHeld hb) (fun hHeld => ?_)
          clear hK K
          try simp only [Act.put, List.setIfInBounds_toArray, List.set_cons_zero, List.set_cons_succ]
          clear hb
          refine take_at (i := 5) (d := 9) (v := .tuple #[.agg #[.int .i64 (pofQ a b c d).1, .int .i64 (pofQ a b c d).2.1, .int .i64 (pofQ a b c d).2.2.1, .int .i64 (pofQ a b c d).2.2.2], .int .i64 (pofC a b c d)]) rfl rfl (by kernel_rfl) (by kernel_rfl) (by kernel_rfl) (fun _ _ _ h => h) (Or.inl ⟨by rfl, ?_⟩) hHeld ?_
          · intro w' hS; go_simp
          try simp only [Act.put, List.setIfInBounds_toArray, List.set_cons_zero, List.set_cons_succ]
          refine take_at (i := 6) (d := 15) (v := .agg #[.int .i64 (pofQ a b c d).1, .int .i64 (pofQ a b c d).2.1, .int .i64 (pofQ a b c d).2.2.1, .int .i64 (pofQ a b c d).2.2.2]) rfl rfl (by kernel_rfl) (by kernel_rfl) (by kernel_rfl) (fun _ _ _ h => h) (Or.inl ⟨by rfl, ?_⟩) hHeld ?_
          · intro w' hS; go_simp
          try simp only [Act.put, List.setIfInBounds_toArray, List.set_cons_zero, List.set_cons_succ]
          refine take_at (i := 7) (d := 16) (v := .int .i64 (pofC a b c d)) rfl rfl (by kernel_rfl) (by kernel_rfl) (by kernel_rfl) (fun _ _ _ h => h) (Or.inl ⟨by rfl, ?_⟩) hHeld ?_
          · intro w' hS; go_simp
          try simp only [Act.put, List.setIfInBounds_toArray, List.set_cons_zero, List.set_cons_succ]
          refine wpAnyH_ready (rs := [8]) (by kernel_rfl) (by simp) ?_
          refine AllReadyH.cons rfl (fun K hK => ?_) AllReadyH.nil
          go_simp
          refine hK.out _ _ (sb_alloc hHeld _) (fun hHeld => ?_)
          clear hK K
          try simp only [Act.put, List.setIfInBounds_toArray, List.set_cons_zero, List.set_cons_succ]
          have HL := lies_new wc4 (P4 0 0 0 0) 34
          have hlt : w.heap.size + 1 < wc4.heap.size := lies_lt ‹SB _ _ _ _ _ wc4›.1.2.2
          generalize wc4.alloc (.cells (P4 0 0 0 0) 34) = wA at HL hHeld ⊢
          obtain ⟨bA, hbA⟩ : ∃ b, wc4.heap.size = b := ⟨_, rfl⟩
          rw [hbA] at HL hlt ⊢
          clear hbA
          obtain ⟨g0, g1, g2, g3⟩ := lies_four HL
          obtain ⟨gf0, gf1, gf2, gf3⟩ := lies_ice HL
          refine wpAnyH_ready (rs := [9]) (by kernel_rfl) (by simp) ?_
          refine AllReadyH.cons rfl (fun K hK => ?_) AllReadyH.nil
          go_simp
          refine hK.out _ _ (sb_set4 hHeld _ _ _ _ hlt) (fun hHeld => ?_)
          clear hK K
          try simp only [Act.put, List.setIfInBounds_toArray, List.set_cons_zero, List.set_cons_succ]
          refine take_at (i := 10) (d := 6) (v := .int .i64 (pofC a b c d)) rfl rfl (by kernel_rfl) (by kernel_rfl) (by kernel_rfl) (fun _ _ _ h => h) (Or.inl ⟨by rfl, ?_⟩) hHeld ?_
          · intro w' hS; go_simp
          try simp only [Act.put, List.setIfInBounds_toArray, List.set_cons_zero, List.set_cons_succ]
          refine wpAnyH_done (by kernel_rfl) ?_ _
          go_wp2_with fail
          go_meet
          case rel => exact ⟨_, rfl, rfl, hHeld.1, lies_set4 HL⟩
        · skip
          go_simp
          refine hK.out _ _ (sb_alloc hHeld _) (fun hHeld => ?_)
          clear hK K
          try simp only [Act.put, List.setIfInBounds_toArray, List.set_cons_zero, List.set_cons_succ]
          have HL := lies_new wc3 (P4 0 0 0 0) 34
          have hlt : w.heap.size + 1 < wc3.heap.size := lies_lt ‹SB _ _ _ _ _ wc3›.1.2.2
          generalize wc3.alloc (.cells (P4 0 0 0 0) 34) = wA at HL hHeld ⊢
          obtain ⟨bA, hbA⟩ : ∃ b, wc3.heap.size = b := ⟨_, rfl⟩
          rw [hbA] at HL hlt ⊢
          clear hbA
          refine wpAnyH_ready (rs := [4]) (by kernel_rfl) (by simp) ?_
          refine AllReadyH.cons rfl (fun K hK => ?_) AllReadyH.nil
          go_simp
          go_at_call 47; refine (specPof_any _ _ _ _ _).mono ?_; rintro e wc4 ⟨rfl, hb⟩
          go_simp
          refine hK.out _ _ (sb_next hHeld hb) (fun hHeld => ?_)
          clear hK K
          try simp only [Act.put, List.setIfInBounds_toArray, List.set_cons_zero, List.set_cons_succ]
          replace HL := lies_next HL hb
          clear hb
          refine take_at (i := 5) (d := 9) (v := .tuple #[.agg #[.int .i64 (pofQ a b c d).1, .int .i64 (pofQ a b c d).2.1, .int .i64 (pofQ a b c d).2.2.1, .int .i64 (pofQ a b c d).2.2.2], .int .i64 (pofC a b c d)]) rfl rfl (by kernel_rfl) (by kernel_rfl) (by kernel_rfl) (fun _ _ _ h => h) (Or.inl ⟨by rfl, ?_⟩) hHeld ?_
          · intro w' hS; go_simp
          try simp only [Act.put, List.setIfInBounds_toArray, List.set_cons_zero, List.set_cons_succ]
          refine take_at (i := 6) (d := 15) (v := .agg #[.int .i64 (pofQ a b c d).1, .int .i64 (pofQ a b c d).2.1, .int .i64 (pofQ a b c d).2.2.1, .int .i64 (pofQ a b c d).2.2.2]) rfl rfl (by kernel_rfl) (by kernel_rfl) (by kernel_rfl) (fun _ _ _ h => h) (Or.inl ⟨by rfl, ?_⟩) hHeld ?_
          · intro w' hS; go_simp
          try simp only [Act.put, List.setIfInBounds_toArray, List.set_cons_zero, List.set_cons_succ]
          refine take_at (i := 7) (d := 16) (v := .int .i64 (pofC a b c d)) rfl rfl (by kernel_rfl) (by kernel_rfl) (by kernel_rfl) (fun _ _ _ h => h) (Or.inl ⟨by rfl, ?_⟩) hHeld ?_
          · intro w' hS; go_simp
          try simp only [Act.put, List.setIfInBounds_toArray, List.set_cons_zero, List.set_cons_succ]
          obtain ⟨g0, g1, g2, g3⟩ := lies_four HL
          obtain ⟨gf0, gf1, gf2, gf3⟩ := lies_ice HL
          refine wpAnyH_ready (rs := [9]) (by kernel_rfl) (by simp) ?_
          refine AllReadyH.cons rfl (fun K hK => ?_) AllReadyH.nil
          go_simp
          refine hK.out _ _ (sb_set4 hHeld _ _ _ _ hlt) (fun hHeld => ?_)
          clear hK K
          try simp only [Act.put, List.setIfInBounds_toArray, List.set_cons_zero, List.set_cons_succ]
          refine take_at (i := 10) (d := 6) (v := .int .i64 (pofC a b c d)) rfl rfl (by kernel_rfl) (by kernel_rfl) (by kernel_rfl) (fun _ _ _ h => h) (Or.inl ⟨by rfl, ?_⟩) hHeld ?_
          · intro w' hS; go_simp
          try simp only [Act.put, List.setIfInBounds_toArray, List.set_cons_zero, List.set_cons_succ]
          refine wpAnyH_done (by kernel_rfl) ?_ _
          go_wp2_with fail
          go_meet
          case rel => exact ⟨_, rfl, rfl, hHeld.1, lies_set4 HL⟩
      · skip
        go_simp
        refine hK.out _ _ (sb_alloc hHeld _) (fun hHeld => ?_)
        clear hK K
        try simp only [Act.put, List.setIfInBounds_toArray, List.set_cons_zero, List.set_cons_succ]
        have HL := lies_new wc1 (P4 0 0 0 0) 34
        have hlt : w.heap.size + 1 < wc1.heap.size := lies_lt ‹SB _ _ _ _ _ wc1›.1.2.2
        generalize wc1.alloc (.cells (P4 0 0 0 0) 34) = wA at HL hHeld ⊢
        obtain ⟨bA, hbA⟩ : ∃ b, wc1.heap.size = b := ⟨_, rfl⟩
        rw [hbA] at HL hlt ⊢
        clear hbA
        refine wpAnyH_ready (rs := [3]) (by kernel_rfl) (by simp) ?_
        refine AllReadyH.cons rfl (fun K hK => ?_) AllReadyH.nil
        go_simp
        go_at_call 51; refine (toRing_any _ _ _).mono ?_; rintro e wc3 ⟨rfl, hb⟩
        go_simp
        refine hK.out _ _ (sb_next hHeld hb) (fun hHeld => ?_)
        clear hK K
        try simp only [Act.put, List.setIfInBounds_toArray, List.set_cons_zero, List.set_cons_succ]
        replace HL := lies_next HL hb
        clear hb
        refine wpAnyH_ready (rs := [4]) (by kernel_rfl) (by simp) ?_
        refine AllReadyH.cons rfl (fun K hK => ?_) AllReadyH.nil
        go_simp
        go_at_call 47; refine (specPof_any _ _ _ _ _).mono ?_; rintro e wc4 ⟨rfl, hb⟩
        go_simp
        refine hK.out _ _ (sb_next hHeld hb) (fun hHeld => ?_)
        clear hK K
        try simp only [Act.put, List.setIfInBounds_toArray, List.set_cons_zero, List.set_cons_succ]
        replace HL := lies_next HL hb
        clear hb
        refine take_at (i := 5) (d := 9) (v := .tuple #[.agg #[.int .i64 (pofQ a b c d).1, .int .i64 (pofQ a b c d).2.1, .int .i64 (pofQ a b c d).2.2.1, .int .i64 (pofQ a b c d).2.2.2], .int .i64 (pofC a b c d)]) rfl rfl (by kernel_rfl) (by kernel_rfl) (by kernel_rfl) (fun _ _ _ h => h) (Or.inl ⟨by rfl, ?_⟩) hHeld ?_
        · intro w' hS; go_simp
        try simp only [Act.put, List.setIfInBounds_toArray, List.set_cons_zero, List.set_cons_succ]
        refine take_at (i := 6) (d := 15) (v := .agg #[.int .i64 (pofQ a b c d).1, .int .i64 (pofQ a b c d).2.1, .int .i64 (pofQ a b c d).2.2.1, .int .i64 (pofQ a b c d).2.2.2]) rfl rfl (by kernel_rfl) (by kernel_rfl) (by kernel_rfl) (fun _ _ _ h => h) (Or.inl ⟨by rfl, ?_⟩) hHeld ?_
        · intro w' hS; go_simp
        try simp only [Act.put, List.setIfInBounds_toArray, List.set_cons_zero, List.set_cons_succ]
        refine take_at (i := 7) (d := 16) (v := .int .i64 (pofC a b c d)) rfl rfl (by kernel_rfl) (by kernel_rfl) (by kernel_rfl) (fun _ _ _ h => h) (Or.inl ⟨by rfl, ?_⟩) hHeld ?_
        · intro w' hS; go_simp
        try simp only [Act.put, List.setIfInBounds_toArray, List.set_cons_zero, List.set_cons_succ]
        obtain ⟨g0, g1, g2, g3⟩ := lies_four HL
        obtain ⟨gf0, gf1, gf2, gf3⟩ := lies_ice HL
        refine wpAnyH_ready (rs := [9]) (by kernel_rfl) (by simp) ?_
        refine AllReadyH.cons rfl (fun K hK => ?_) AllReadyH.nil
        go_simp
        refine hK.out _ _ (sb_set4 hHeld _ _ _ _ hlt) (fun hHeld => ?_)
        clear hK K
        try simp only [Act.put, List.setIfInBounds_toArray, List.set_cons_zero, List.set_cons_succ]
        refine take_at (i := 10) (d := 6) (v := .int .i64 (pofC a b c d)) rfl rfl (by kernel_rfl) (by kernel_rfl) (by kernel_rfl) (fun _ _ _ h => h) (Or.inl ⟨by rfl, ?_⟩) hHeld ?_
        · intro w' hS; go_simp
        try simp only [Act.put, List.setIfInBounds_toArray, List.set_cons_zero, List.set_cons_succ]
        refine wpAnyH_done (by kernel_rfl) ?_ _
        go_wp2_with fail
        go_meet
        case rel => exact ⟨_, rfl, rfl, hHeld.1, lies_set4 HL⟩
    · skip
      go_simp
      refine hK.out _ _ (sb_alloc hHeld _) (fun hHeld => ?_)
      clear hK K
      try simp only [Act.put, List.setIfInBounds_toArray, List.set_cons_zero, List.set_cons_succ]
      have HL := lies_new w1 (P4 0 0 0 0) 34
      have hlt : w.heap.size + 1 < w1.heap.size := lies_lt ‹SB _ _ _ _ _ w1›.1.2.2
      generalize w1.alloc (.cells (P4 0 0 0 0) 34) = wA at HL hHeld ⊢
      obtain ⟨bA, hbA⟩ : ∃ b, w1.heap.size = b := ⟨_, rfl⟩
      rw [hbA] at HL hlt ⊢
      clear hbA
      refine wpAnyH_ready (rs := [1]) (by kernel_rfl) (by simp) ?_
      refine AllReadyH.cons rfl (fun K hK => ?_) AllReadyH.nil
      go_simp
      go_at_call 54; refine (toRational_any _ _ _).mono ?_; rintro e wc1 ⟨rfl, hb⟩
      go_simp
      refine hK.out _ _ (sb_next hHeld hb) (fun hHeld => ?_)
      clear hK K
      try simp only [Act.put, List.setIfInBounds_toArray, List.set_cons_zero, List.set_cons_succ]
      replace HL := lies_next HL hb
      clear hb
      refine wpAnyH_ready (rs := [3]) (by kernel_rfl) (by simp) ?_
      refine AllReadyH.cons rfl (fun K hK => ?_) AllReadyH.nil
      go_simp
      go_at_call 51; refine (toRing_any _ _ _).mono ?_; rintro e wc3 ⟨rfl, hb⟩
      go_simp
      refine hK.out _ _ (sb_next hHeld hb) (fun hHeld => ?_)
      clear hK K
      try simp only [Act.put, List.setIfInBounds_toArray, List.set_cons_zero, List.set_cons_succ]
      replace HL := lies_next HL hb
      clear hb
      refine wpAnyH_ready (rs := [4]) (by kernel_rfl) (by simp) ?_
      refine AllReadyH.cons rfl (fun K hK => ?_) AllReadyH.nil
      go_simp
      go_at_call 47; refine (specPof_any _ _ _ _ _).mono ?_; rintro e wc4 ⟨rfl, hb⟩
      go_simp
      refine hK.out _ _ (sb_next hHeld hb) (fun hHeld => ?_)
      clear hK K
      try simp only [Act.put, List.setIfInBounds_toArray, List.set_cons_zero, List.set_cons_succ]
      replace HL := lies_next HL hb
      clear hb
      refine take_at (i := 5) (d := 9) (v := .tuple #[.agg #[.int .i64 (pofQ a b c d).1, .int .i64 (pofQ a b c d).2.1, .int .i64 (pofQ a b c d).2.2.1, .int .i64 (pofQ a b c d).2.2.2], .int .i64 (pofC a b c d)]) rfl rfl (by kernel_rfl) (by kernel_rfl) (by kernel_rfl) (fun _ _ _ h => h) (Or.inl ⟨by rfl, ?_⟩) hHeld ?_
      · intro w' hS; go_simp
      try simp only [Act.put, List.setIfInBounds_toArray, List.set_cons_zero, List.set_cons_succ]
      refine take_at (i := 6) (d := 15) (v := .agg #[.int .i64 (pofQ a b c d).1, .int .i64 (pofQ a b c d).2.1, .int .i64 (pofQ a b c d).2.2.1, .int .i64 (pofQ a b c d).2.2.2]) rfl rfl (by kernel_rfl) (by kernel_rfl) (by kernel_rfl) (fun _ _ _ h => h) (Or.inl ⟨by rfl, ?_⟩) hHeld ?_
      · intro w' hS; go_simp
      try simp only [Act.put, List.setIfInBounds_toArray, List.set_cons_zero, List.set_cons_succ]
      refine take_at (i := 7) (d := 16) (v := .int .i64 (pofC a b c d)) rfl rfl (by kernel_rfl) (by kernel_rfl) (by kernel_rfl) (fun _ _ _ h => h) (Or.inl ⟨by rfl, ?_⟩) hHeld ?_
      · intro w' hS; go_simp
      try simp only [Act.put, List.setIfInBounds_toArray, List.set_cons_zero, List.set_cons_succ]
      obtain ⟨g0, g1, g2, g3⟩ := lies_four HL
      obtain ⟨gf0, gf1, gf2, gf3⟩ := lies_ice HL
      refine wpAnyH_ready (rs := [9]) (by kernel_rfl) (by simp) ?_
      refine AllReadyH.cons rfl (fun K hK => ?_) AllReadyH.nil
      go_simp
      refine hK.out _ _ (sb_set4 hHeld _ _ _ _ hlt) (fun hHeld => ?_)
      clear hK K
      try simp only [Act.put, List.setIfInBounds_toArray, List.set_cons_zero, List.set_cons_succ]
      refine take_at (i := 10) (d := 6) (v := .int .i64 (pofC a b c d)) rfl rfl (by kernel_rfl) (by kernel_rfl) (by kernel_rfl) (fun _ _ _ h => h) (Or.inl ⟨by rfl, ?_⟩) hHeld ?_
      · intro w' hS; go_simp
      try simp only [Act.put, List.setIfInBounds_toArray, List.set_cons_zero, List.set_cons_succ]
      refine wpAnyH_done (by kernel_rfl) ?_ _
      go_wp2_with fail
      go_meet
      case rel => exact ⟨_, rfl, rfl, hHeld.1, lies_set4 HL⟩
  case rest =>
  obtain ⟨b1, rfl, rfl, K, L⟩ := hcut
  go_upto_region 2 with fail
  go_cut [7, 8] (fun s7 s8 wx => ∃ q, s7 = .pointer (some ⟨q, 0, none⟩) ∧ s8 = .int .i64 (pofC a b c d) ∧ Below w.heap.size w wx ∧ Lies wx q (P4 (pofQ a b c d).1 (pofQ a b c d).2.1 (pofQ a b c d).2.2.1 (pofQ a b c d).2.2.2) ∧ Lies wx b1 (P4 (pofQ a b c d).1 (pofQ a b c d).2.1 (pofQ a b c d).2.2.1 (pofQ a b c d).2.2.2))
  case first =>
    refine wp_region_held_drew (S := SBX w a b c d b1 (P4 (pofQ a b c d).1 (pofQ a b c d).2.1 (pofQ a b c d).2.2.1 (pofQ a b c d).2.2.2)) (by kernel_rfl) (sbx_of (k2_drew K) L) (fun hHeld => ?_)
    generalize World.drew _ = w1 at hHeld ⊢
    refine take_at (i := 0) (d := 18) (v := .agg (P2 a b)) rfl rfl (by kernel_rfl) (by kernel_rfl) (by kernel_rfl) (fun _ _ _ h => h) (Or.inl ⟨by rfl, ?_⟩) hHeld ?_
    · intro w' hS
      obtain ⟨⟨_, k0, k1, l0, l1⟩, _⟩ := hS
      go_simp
    try simp only [Act.put, List.setIfInBounds_toArray, List.set_cons_zero, List.set_cons_succ]
    refine take_at (i := 2) (d := 20) (v := .agg (P2 c d)) rfl rfl (by kernel_rfl) (by kernel_rfl) (by kernel_rfl) (fun _ _ _ h => h) (Or.inl ⟨by rfl, ?_⟩) hHeld ?_
    · intro w' hS
      obtain ⟨⟨_, k0, k1, l0, l1⟩, _⟩ := hS
      go_simp
    try simp only [Act.put, List.setIfInBounds_toArray, List.set_cons_zero, List.set_cons_succ]
    refine wpAnyH_ready (rs := [1, 8]) (by kernel_rfl) (by simp) ?_
    refine AllReadyH.cons rfl (fun K hK => ?_) (AllReadyH.cons rfl (fun K hK => ?_) AllReadyH.nil)
    · skip
      go_simp
      go_at_call 54; refine (toRational_any _ _ _).mono ?_; rintro e wc1 ⟨rfl, hb⟩
      go_simp
      refine hK.out _ _ (sbx_next hHeld hb) (fun hHeld => ?_)
      clear hK K
      try simp only [Act.put, List.setIfInBounds_toArray, List.set_cons_zero, List.set_cons_succ]
      clear hb
      refine wpAnyH_ready (rs := [3, 8]) (by kernel_rfl) (by simp) ?_
      refine AllReadyH.cons rfl (fun K hK => ?_) (AllReadyH.cons rfl (fun K hK => ?_) AllReadyH.nil)
      · skip
        go_simp
        go_at_call 51; refine (toRing_any _ _ _).mono ?_; rintro e wc3 ⟨rfl, hb⟩
        go_simp
        refine hK.out _ _ (sbx_next hHeld hb) (fun hHeld => ?_)
        clear hK K
        try simp only [Act.put, List.setIfInBounds_toArray, List.set_cons_zero, List.set_cons_succ]
        clear hb
        refine wpAnyH_ready (rs := [4, 8]) (by kernel_rfl) (by simp) ?_
        refine AllReadyH.cons rfl (fun K hK => ?_) (AllReadyH.cons rfl (fun K hK => ?_) AllReadyH.nil)
        · skip
          go_simp
          go_at_call 41; refine (implPof_any _ _ _ _ _).mono ?_; rintro e wc4 ⟨rfl, hb⟩
          go_simp
          refine hK.out _ _ (sbx_next hHeld hb) (fun hHeld => ?_)
          clear hK K
          try simp only [Act.put, List.setIfInBounds_toArray, List.set_cons_zero, List.set_cons_succ]
          clear hb
          refine take_at (i := 5) (d := 17) (v := .tuple #[.agg #[.int .i64 (pofQ a b c d).1, .int .i64 (pofQ a b c d).2.1, .int .i64 (pofQ a b c d).2.2.1, .int .i64 (pofQ a b c d).2.2.2], .int .i64 (pofC a b c d)]) rfl rfl (by kernel_rfl) (by kernel_rfl) (by kernel_rfl) (fun _ _ _ h => h) (Or.inl ⟨by rfl, ?_⟩) hHeld ?_
          · intro w' hS; go_simp
          try simp only [Act.put, List.setIfInBounds_toArray, List.set_cons_zero, List.set_cons_succ]
          refine take_at (i := 6) (d := 23) (v := .agg #[.int .i64 (pofQ a b c d).1, .int .i64 (pofQ a b c d).2.1, .int .i64 (pofQ a b c d).2.2.1, .int .i64 (pofQ a b c d).2.2.2]) rfl rfl (by kernel_rfl) (by kernel_rfl) (by kernel_rfl) (fun _ _ _ h => h) (Or.inl ⟨by rfl, ?_⟩) hHeld ?_
          · intro w' hS; go_simp
          try simp only [Act.put, List.setIfInBounds_toArray, List.set_cons_zero, List.set_cons_succ]
          refine take_at (i := 7) (d := 24) (v := .int .i64 (pofC a b c d)) rfl rfl (by kernel_rfl) (by kernel_rfl) (by kernel_rfl) (fun _ _ _ h => h) (Or.inl ⟨by rfl, ?_⟩) hHeld ?_
          · intro w' hS; go_simp
          try simp only [Act.put, List.setIfInBounds_toArray, List.set_cons_zero, List.set_cons_succ]
          refine wpAnyH_ready (rs := [8]) (by kernel_rfl) (by simp) ?_
          refine AllReadyH.cons rfl (fun K hK => ?_) AllReadyH.nil
          go_simp
          refine hK.out _ _ (sbx_alloc hHeld _) (fun hHeld => ?_)
          clear hK K
          try simp only [Act.put, List.setIfInBounds_toArray, List.set_cons_zero, List.set_cons_succ]
          have HL := lies_new wc4 (P4 0 0 0 0) 34
          have hlt : w.heap.size + 1 < wc4.heap.size := lies_lt ‹SBX _ _ _ _ _ _ _ wc4›.1.1.2.2
          have hlt2 : b1 < wc4.heap.size := lies_lt ‹SBX _ _ _ _ _ _ _ wc4›.2
          generalize wc4.alloc (.cells (P4 0 0 0 0) 34) = wA at HL hHeld ⊢
          obtain ⟨bA, hbA⟩ : ∃ b, wc4.heap.size = b := ⟨_, rfl⟩
          rw [hbA] at HL hlt hlt2 ⊢
          clear hbA
          obtain ⟨g0, g1, g2, g3⟩ := lies_four HL
          obtain ⟨gf0, gf1, gf2, gf3⟩ := lies_ice HL
          refine wpAnyH_ready (rs := [9]) (by kernel_rfl) (by simp) ?_
          refine AllReadyH.cons rfl (fun K hK => ?_) AllReadyH.nil
          go_simp
          refine hK.out _ _ (sbx_set4 hHeld _ _ _ _ hlt hlt2) (fun hHeld => ?_)
          clear hK K
          try simp only [Act.put, List.setIfInBounds_toArray, List.set_cons_zero, List.set_cons_succ]
          refine take_at (i := 10) (d := 8) (v := .int .i64 (pofC a b c d)) rfl rfl (by kernel_rfl) (by kernel_rfl) (by kernel_rfl) (fun _ _ _ h => h) (Or.inl ⟨by rfl, ?_⟩) hHeld ?_
          · intro w' hS; go_simp
          try simp only [Act.put, List.setIfInBounds_toArray, List.set_cons_zero, List.set_cons_succ]
          refine wpAnyH_done (by kernel_rfl) ?_ _
          go_wp2_with fail
          go_meet
          case rel => exact ⟨_, rfl, rfl, hHeld.1.1.1, lies_set4 HL, hHeld.2⟩
        · skip
          go_simp
          refine hK.out _ _ (sbx_alloc hHeld _) (fun hHeld => ?_)
          clear hK K
          try simp only [Act.put, List.setIfInBounds_toArray, List.set_cons_zero, List.set_cons_succ]
          have HL := lies_new wc3 (P4 0 0 0 0) 34
          have hlt : w.heap.size + 1 < wc3.heap.size := lies_lt ‹SBX _ _ _ _ _ _ _ wc3›.1.1.2.2
          have hlt2 : b1 < wc3.heap.size := lies_lt ‹SBX _ _ _ _ _ _ _ wc3›.2
          generalize wc3.alloc (.cells (P4 0 0 0 0) 34) = wA at HL hHeld ⊢
          obtain ⟨bA, hbA⟩ : ∃ b, wc3.heap.size = b := ⟨_, rfl⟩
          rw [hbA] at HL hlt hlt2 ⊢
          clear hbA
          refine wpAnyH_ready (rs := [4]) (by kernel_rfl) (by simp) ?_
          refine AllReadyH.cons rfl (fun K hK => ?_) AllReadyH.nil
          go_simp
          go_at_call 41; refine (implPof_any _ _ _ _ _).mono ?_; rintro e wc4 ⟨rfl, hb⟩
          go_simp
          refine hK.out _ _ (sbx_next hHeld hb) (fun hHeld => ?_)
          clear hK K
          try simp only [Act.put, List.setIfInBounds_toArray, List.set_cons_zero, List.set_cons_succ]
          replace HL := lies_next HL hb
          clear hb
          refine take_at (i := 5) (d := 17) (v := .tuple #[.agg #[.int .i64 (pofQ a b c d).1, .int .i64 (pofQ a b c d).2.1, .int .i64 (pofQ a b c d).2.2.1, .int .i64 (pofQ a b c d).2.2.2], .int .i64 (pofC a b c d)]) rfl rfl (by kernel_rfl) (by kernel_rfl) (by kernel_rfl) (fun _ _ _ h => h) (Or.inl ⟨by rfl, ?_⟩) hHeld ?_
          · intro w' hS; go_simp
          try simp only [Act.put, List.setIfInBounds_toArray, List.set_cons_zero, List.set_cons_succ]
          refine take_at (i := 6) (d := 23) (v := .agg #[.int .i64 (pofQ a b c d).1, .int .i64 (pofQ a b c d).2.1, .int .i64 (pofQ a b c d).2.2.1, .int .i64 (pofQ a b c d).2.2.2]) rfl rfl (by kernel_rfl) (by kernel_rfl) (by kernel_rfl) (fun _ _ _ h => h) (Or.inl ⟨by rfl, ?_⟩) hHeld ?_
          · intro w' hS; go_simp
          try simp only [Act.put, List.setIfInBounds_toArray, List.set_cons_zero, List.set_cons_succ]
          refine take_at (i := 7) (d := 24) (v := .int .i64 (pofC a b c d)) rfl rfl (by kernel_rfl) (by kernel_rfl) (by kernel_rfl) (fun _ _ _ h => h) (Or.inl ⟨by rfl, ?_⟩) hHeld ?_
          · intro w' hS; go_simp
          try simp only [Act.put, List.setIfInBounds_toArray, List.set_cons_zero, List.set_cons_succ]
          obtain ⟨g0, g1, g2, g3⟩ := lies_four HL
          obtain ⟨gf0, gf1, gf2, gf3⟩ := lies_ice HL
          refine wpAnyH_ready (rs := [9]) (by kernel_rfl) (by simp) ?_
          refine AllReadyH.cons rfl (fun K hK => ?_) AllReadyH.nil
          go_simp
          refine hK.out _ _ (sbx_set4 hHeld _ _ _ _ hlt hlt2) (fun hHeld => ?_)
          clear hK K
          try simp only [Act.put, List.setIfInBounds_toArray, List.set_cons_zero, List.set_cons_succ]
          refine take_at (i := 10) (d := 8) (v := .int .i64 (pofC a b c d)) rfl rfl (by kernel_rfl) (by kernel_rfl) (by kernel_rfl) (fun _ _ _ h => h) (Or.inl ⟨by rfl, ?_⟩) hHeld ?_
          · intro w' hS; go_simp
          try simp only [Act.put, List.setIfInBounds_toArray, List.set_cons_zero, List.set_cons_succ]
          refine wpAnyH_done (by kernel_rfl) ?_ _
          go_wp2_with fail
          go_meet
          case rel => exact ⟨_, rfl, rfl, hHeld.1.1.1, lies_set4 HL, hHeld.2⟩
      · skip
        go_simp
        refine hK.out _ _ (sbx_alloc hHeld _) (fun hHeld => ?_)
        clear hK K
        try simp only [Act.put, List.setIfInBounds_toArray, List.set_cons_zero, List.set_cons_succ]
        have HL := lies_new wc1 (P4 0 0 0 0) 34
        have hlt : w.heap.size + 1 < wc1.heap.size := lies_lt ‹SBX _ _ _ _ _ _ _ wc1›.1.1.2.2
        have hlt2 : b1 < wc1.heap.size := lies_lt ‹SBX _ _ _ _ _ _ _ wc1›.2
        generalize wc1.alloc (.cells (P4 0 0 0 0) 34) = wA at HL hHeld ⊢
        obtain ⟨bA, hbA⟩ : ∃ b, wc1.heap.size = b := ⟨_, rfl⟩
        rw [hbA] at HL hlt hlt2 ⊢
        clear hbA
        refine wpAnyH_ready (rs := [3]) (by kernel_rfl) (by simp) ?_
        refine AllReadyH.cons rfl (fun K hK => ?_) AllReadyH.nil
        go_simp
        go_at_call 51; refine (toRing_any _ _ _).mono ?_; rintro e wc3 ⟨rfl, hb⟩
        go_simp
        refine hK.out _ _ (sbx_next hHeld hb) (fun hHeld => ?_)
        clear hK K
        try simp only [Act.put, List.setIfInBounds_toArray, List.set_cons_zero, List.set_cons_succ]
        replace HL := lies_next HL hb
        clear hb
        refine wpAnyH_ready (rs := [4]) (by kernel_rfl) (by simp) ?_
        refine AllReadyH.cons rfl (fun K hK => ?_) AllReadyH.nil
        go_simp
        go_at_call 41; refine (implPof_any _ _ _ _ _).mono ?_; rintro e wc4 ⟨rfl, hb⟩
        go_simp
        refine hK.out _ _ (sbx_next hHeld hb) (fun hHeld => ?_)
        clear hK K
        try simp only [Act.put, List.setIfInBounds_toArray, List.set_cons_zero, List.set_cons_succ]
        replace HL := lies_next HL hb
        clear hb
        refine take_at (i := 5) (d := 17) (v := .tuple #[.agg #[.int .i64 (pofQ a b c d).1, .int .i64 (pofQ a b c d).2.1, .int .i64 (pofQ a b c d).2.2.1, .int .i64 (pofQ a b c d).2.2.2], .int .i64 (pofC a b c d)]) rfl rfl (by kernel_rfl) (by kernel_rfl) (by kernel_rfl) (fun _ _ _ h => h) (Or.inl ⟨by rfl, ?_⟩) hHeld ?_
        · intro w' hS; go_simp
        try simp only [Act.put, List.setIfInBounds_toArray, List.set_cons_zero, List.set_cons_succ]
        refine take_at (i := 6) (d := 23) (v := .agg #[.int .i64 (pofQ a b c d).1, .int .i64 (pofQ a b c d).2.1, .int .i64 (pofQ a b c d).2.2.1, .int .i64 (pofQ a b c d).2.2.2]) rfl rfl (by kernel_rfl) (by kernel_rfl) (by kernel_rfl) (fun _ _ _ h => h) (Or.inl ⟨by rfl, ?_⟩) hHeld ?_
        · intro w' hS; go_simp
        try simp only [Act.put, List.setIfInBounds_toArray, List.set_cons_zero, List.set_cons_succ]
        refine take_at (i := 7) (d := 24) (v := .int .i64 (pofC a b c d)) rfl rfl (by kernel_rfl) (by kernel_rfl) (by kernel_rfl) (fun _ _ _ h => h) (Or.inl ⟨by rfl, ?_⟩) hHeld ?_
        · intro w' hS; go_simp
        try simp only [Act.put, List.setIfInBounds_toArray, List.set_cons_zero, List.set_cons_succ]
        obtain ⟨g0, g1, g2, g3⟩ := lies_four HL
        obtain ⟨gf0, gf1, gf2, gf3⟩ := lies_ice HL
        refine wpAnyH_ready (rs := [9]) (by kernel_rfl) (by simp) ?_
        refine AllReadyH.cons rfl (fun K hK => ?_) AllReadyH.nil
        go_simp
        refine hK.out _ _ (sbx_set4 hHeld _ _ _ _ hlt hlt2) (fun hHeld => ?_)
        clear hK K
        try simp only [Act.put, List.setIfInBounds_toArray, List.set_cons_zero, List.set_cons_succ]
        refine take_at (i := 10) (d := 8) (v := .int .i64 (pofC a b c d)) rfl rfl (by kernel_rfl) (by kernel_rfl) (by kernel_rfl) (fun _ _ _ h => h) (Or.inl ⟨by rfl, ?_⟩) hHeld ?_
        · intro w' hS; go_simp
        try simp only [Act.put, List.setIfInBounds_toArray, List.set_cons_zero, List.set_cons_succ]
        refine wpAnyH_done (by kernel_rfl) ?_ _
        go_wp2_with fail
        go_meet
        case rel => exact ⟨_, rfl, rfl, hHeld.1.1.1, lies_set4 HL, hHeld.2⟩
    · skip
      go_simp
      refine hK.out _ _ (sbx_alloc hHeld _) (fun hHeld => ?_)
      clear hK K
      try simp only [Act.put, List.setIfInBounds_toArray, List.set_cons_zero, List.set_cons_succ]
      have HL := lies_new w1 (P4 0 0 0 0) 34
      have hlt : w.heap.size + 1 < w1.heap.size := lies_lt ‹SBX _ _ _ _ _ _ _ w1›.1.1.2.2
      have hlt2 : b1 < w1.heap.size := lies_lt ‹SBX _ _ _ _ _ _ _ w1›.2
      generalize w1.alloc (.cells (P4 0 0 0 0) 34) = wA at HL hHeld ⊢
      obtain ⟨bA, hbA⟩ : ∃ b, w1.heap.size = b := ⟨_, rfl⟩
      rw [hbA] at HL hlt hlt2 ⊢
      clear hbA
      refine wpAnyH_ready (rs := [1]) (by kernel_rfl) (by simp) ?_
      refine AllReadyH.cons rfl (fun K hK => ?_) AllReadyH.nil
      go_simp
      go_at_call 54; refine (toRational_any _ _ _).mono ?_; rintro e wc1 ⟨rfl, hb⟩
      go_simp
      refine hK.out _ _ (sbx_next hHeld hb) (fun hHeld => ?_)
      clear hK K
      try simp only [Act.put, List.setIfInBounds_toArray, List.set_cons_zero, List.set_cons_succ]
      replace HL := lies_next HL hb
      clear hb
      refine wpAnyH_ready (rs := [3]) (by kernel_rfl) (by simp) ?_
      refine AllReadyH.cons rfl (fun K hK => ?_) AllReadyH.nil
      go_simp
      go_at_call 51; refine (toRing_any _ _ _).mono ?_; rintro e wc3 ⟨rfl, hb⟩
      go_simp
      refine hK.out _ _ (sbx_next hHeld hb) (fun hHeld => ?_)
      clear hK K
      try simp only [Act.put, List.setIfInBounds_toArray, List.set_cons_zero, List.set_cons_succ]
      replace HL := lies_next HL hb
      clear hb
      refine wpAnyH_ready (rs := [4]) (by kernel_rfl) (by simp) ?_
      refine AllReadyH.cons rfl (fun K hK => ?_) AllReadyH.nil
      go_simp
      go_at_call 41; refine (implPof_any _ _ _ _ _).mono ?_; rintro e wc4 ⟨rfl, hb⟩
      go_simp
      refine hK.out _ _ (sbx_next hHeld hb) (fun hHeld => ?_)
      clear hK K
      try simp only [Act.put, List.setIfInBounds_toArray, List.set_cons_zero, List.set_cons_succ]
      replace HL := lies_next HL hb
      clear hb
      refine take_at (i := 5) (d := 17) (v := .tuple #[.agg #[.int .i64 (pofQ a b c d).1, .int .i64 (pofQ a b c d).2.1, .int .i64 (pofQ a b c d).2.2.1, .int .i64 (pofQ a b c d).2.2.2], .int .i64 (pofC a b c d)]) rfl rfl (by kernel_rfl) (by kernel_rfl) (by kernel_rfl) (fun _ _ _ h => h) (Or.inl ⟨by rfl, ?_⟩) hHeld ?_
      · intro w' hS; go_simp
      try simp only [Act.put, List.setIfInBounds_toArray, List.set_cons_zero, List.set_cons_succ]
      refine take_at (i := 6) (d := 23) (v := .agg #[.int .i64 (pofQ a b c d).1, .int .i64 (pofQ a b c d).2.1, .int .i64 (pofQ a b c d).2.2.1, .int .i64 (pofQ a b c d).2.2.2]) rfl rfl (by kernel_rfl) (by kernel_rfl) (by kernel_rfl) (fun _ _ _ h => h) (Or.inl ⟨by rfl, ?_⟩) hHeld ?_
      · intro w' hS; go_simp
      try simp only [Act.put, List.setIfInBounds_toArray, List.set_cons_zero, List.set_cons_succ]
      refine take_at (i := 7) (d := 24) (v := .int .i64 (pofC a b c d)) rfl rfl (by kernel_rfl) (by kernel_rfl) (by kernel_rfl) (fun _ _ _ h => h) (Or.inl ⟨by rfl, ?_⟩) hHeld ?_
      · intro w' hS; go_simp
      try simp only [Act.put, List.setIfInBounds_toArray, List.set_cons_zero, List.set_cons_succ]
      obtain ⟨g0, g1, g2, g3⟩ := lies_four HL
      obtain ⟨gf0, gf1, gf2, gf3⟩ := lies_ice HL
      refine wpAnyH_ready (rs := [9]) (by kernel_rfl) (by simp) ?_
      refine AllReadyH.cons rfl (fun K hK => ?_) AllReadyH.nil
      go_simp
      refine hK.out _ _ (sbx_set4 hHeld _ _ _ _ hlt hlt2) (fun hHeld => ?_)
      clear hK K
      try simp only [Act.put, List.setIfInBounds_toArray, List.set_cons_zero, List.set_cons_succ]
      refine take_at (i := 10) (d := 8) (v := .int .i64 (pofC a b c d)) rfl rfl (by kernel_rfl) (by kernel_rfl) (by kernel_rfl) (fun _ _ _ h => h) (Or.inl ⟨by rfl, ?_⟩) hHeld ?_
      · intro w' hS; go_simp
      try simp only [Act.put, List.setIfInBounds_toArray, List.set_cons_zero, List.set_cons_succ]
      refine wpAnyH_done (by kernel_rfl) ?_ _
      go_wp2_with fail
      go_meet
      case rel => exact ⟨_, rfl, rfl, hHeld.1.1.1, lies_set4 HL, hHeld.2⟩
  case rest =>
  clear L
  obtain ⟨b2, rfl, rfl, HB, L2, L1⟩ := hcut
  obtain ⟨g0, g1, g2, g3⟩ := lies_four L1
  obtain ⟨h0, h1, h2, h3⟩ := lies_four L2
  go_wp2_with (first | (go_at_call 53; refine (eqPadicR_any _ _ _ _ _).mono ?_; rintro e we ⟨rfl, hb⟩))
  go_ret
  exact ⟨rfl, HB.trans (hb.mono HB.size)⟩
set_option maxHeartbeats 1000000 in
theorem exactAgree_walk (n d p v u k : Int) (_ : (Lit.int .i64 n).wf = true) (_ : (Lit.int .i64 d).wf = true) (_ : (Lit.int .i64 p).wf = true) (_ : (Lit.int .i64 v).wf = true) (_ : (Lit.int .i64 u).wf = true) (_ : (Lit.int .i64 k).wf = true) (w : World) :
    Calls Try.prog 10 #[.agg (P2 n d), .agg (P4 p v u k)] w fun e w' => e = .returned (.bool true) ∧ Below w.heap.size w w' := by
  go_enter Try.func10, Try.ntmps10
  go_wp2_with fail
  have K := k2_new w (P2 n d) (P4 p v u k) 66 62
  generalize ((w.alloc (.cells (P2 n d) 66)).alloc (.cells (P4 p v u k) 62)) = W at K ⊢
  go_region_held3 (fun w' => K2 w (P2 n d) (P4 p v u k) w' ∧ w'.cell? ⟨w.heap.size, 0, none⟩ = some (.int .i64 n) ∧ w'.cell? ⟨w.heap.size, 1, none⟩ = some (.int .i64 d) ∧ w'.cell? ⟨w.heap.size + 1, 0, none⟩ = some (.int .i64 p) ∧ w'.cell? ⟨w.heap.size + 1, 1, none⟩ = some (.int .i64 v) ∧ w'.cell? ⟨w.heap.size + 1, 2, none⟩ = some (.int .i64 u) ∧ w'.cell? ⟨w.heap.size + 1, 3, none⟩ = some (.int .i64 k))
    (first | with_reducible assumption | exact sa_of (k2_drew K) | exact sa_next ‹_› hb)
    (first | (go_at_call 54; refine (toRational_any _ _ _).mono ?_; rintro e wn ⟨rfl, hb⟩) | (go_at_call 52; refine (toPadicR_any _ _ _ _ _).mono ?_; rintro e wn ⟨rfl, hb⟩) | (go_at_call 50; refine (specAgree_any _ _ _ _ _ _ _).mono ?_; rintro e wn ⟨rfl, hb⟩))
  rename_i hHeld
  clear hb K
  have K := hHeld.1
  clear hHeld
  go_wp2_with fail
  go_region_held3 (fun w' => K2 w (P2 n d) (P4 p v u k) w' ∧ w'.cell? ⟨w.heap.size, 0, none⟩ = some (.int .i64 n) ∧ w'.cell? ⟨w.heap.size, 1, none⟩ = some (.int .i64 d) ∧ w'.cell? ⟨w.heap.size + 1, 0, none⟩ = some (.int .i64 p) ∧ w'.cell? ⟨w.heap.size + 1, 1, none⟩ = some (.int .i64 v) ∧ w'.cell? ⟨w.heap.size + 1, 2, none⟩ = some (.int .i64 u) ∧ w'.cell? ⟨w.heap.size + 1, 3, none⟩ = some (.int .i64 k))
    (first | with_reducible assumption | exact sa_of (k2_drew K) | exact sa_next ‹_› hb)
    (first | (go_at_call 54; refine (toRational_any _ _ _).mono ?_; rintro e wn ⟨rfl, hb⟩) | (go_at_call 52; refine (toPadicR_any _ _ _ _ _).mono ?_; rintro e wn ⟨rfl, hb⟩) | (go_at_call 49; refine (implAgree_any _ _ _ _ _ _ _).mono ?_; rintro e wn ⟨rfl, hb⟩))
  rename_i hHeld
  clear hb K
  have K := hHeld.1
  clear hHeld
  go_wp2
  go_ret
  exact ⟨rfl, K.1⟩
end Go.Proofs.Ytgckamlibbjgcaa
