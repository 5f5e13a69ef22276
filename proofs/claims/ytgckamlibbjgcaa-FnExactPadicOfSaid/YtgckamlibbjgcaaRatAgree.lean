/- Contracts of the walk: chapter 5's agreement of a rational number with a p-adic number: DoAgree in impl and in spec, for every argument. -/
import Derived.Test.YtgckamlibbjgcaaRatPad2
namespace Go.Proofs.Ytgckamlibbjgcaa
open Go.RowKit
set_option linter.unusedVariables false
set_option linter.unusedSimpArgs false
set_option maxRecDepth 20000
/-- a rational number and a p-adic number, each in its block, and what they read -/
abbrev SA (w : World) (n d p v u k : Int) (w1 : World) : Prop :=
  K2 w (P2 n d) (P4 p v u k) w1 ∧ w1.cell? ⟨w.heap.size, 0, none⟩ = some (.int .i64 n) ∧ w1.cell? ⟨w.heap.size, 1, none⟩ = some (.int .i64 d) ∧
    w1.cell? ⟨w.heap.size + 1, 0, none⟩ = some (.int .i64 p) ∧ w1.cell? ⟨w.heap.size + 1, 1, none⟩ = some (.int .i64 v) ∧ w1.cell? ⟨w.heap.size + 1, 2, none⟩ = some (.int .i64 u) ∧ w1.cell? ⟨w.heap.size + 1, 3, none⟩ = some (.int .i64 k)
theorem sa_of {w : World} {n d p v u k : Int} {w1 : World} (K : K2 w (P2 n d) (P4 p v u k) w1) : SA w n d p v u k w1 := by
  obtain ⟨c0, c1⟩ := lies_pair K.2.1
  obtain ⟨d0, d1, d2, d3⟩ := lies_four K.2.2
  exact ⟨K, c0, c1, d0, d1, d2, d3⟩
theorem sa_next {w : World} {n d p v u k : Int} {w1 w2 : World} (h : SA w n d p v u k w1) (hb : Below w1.heap.size w1 w2) : SA w n d p v u k w2 := sa_of (k2_next h.1 hb)
theorem ret_bi {a b : Bool} {c d : Int} (h : a = b) (h' : c = d) : Ending.returned (.tuple #[.bool a, .int .i64 c]) = .returned (.tuple #[.bool b, .int .i64 d]) := by rw [h, h']
set_option maxHeartbeats 1000000 in
theorem agree_yes (n d p v u k : Int) (w : World) (hx : isRatB n d = true) (hy : padB p v u k = true) (HZ : Hid ((u == 0 && k == 0) = false)) (HN : Hid ((n == 0) = false))
    (HPI : Hid (∀ w, Calls Try.prog 97 #[.agg (P2 n d), .agg (P2 p k)] w fun e w' => e = .returned (.agg (P4 p v u k)) ∧ Below w.heap.size w w')) :
    Calls Try.prog 49 #[.agg (P2 n d), .agg (P4 p v u k)] w fun e w' => e = .returned (.tuple #[.bool true, .int .i64 0]) ∧ Below w.heap.size w w' := by
  go_enter Try.func49, Try.ntmps49
  go_wp2_with (first | (go_at_call 95; refine (ratValid_any _ _ _).mono ?_; rintro e wn ⟨rfl, hb⟩; (first | have K := k2_first hb | have K := k2_next K hb); obtain ⟨c0, c1⟩ := lies_pair K.2.1; obtain ⟨d0, d1, d2, d3⟩ := lies_four K.2.2) | (go_at_call 80; refine (isValid_any _ _ _ _ _).mono ?_; rintro e wn ⟨rfl, hb⟩; (first | have K := k2_first hb | have K := k2_next K hb); obtain ⟨c0, c1⟩ := lies_pair K.2.1; obtain ⟨d0, d1, d2, d3⟩ := lies_four K.2.2) | (go_at_call 81; refine (isZero_any _ _ _ _ _).mono ?_; rw [HZ.out]; rintro e wn ⟨rfl, hb⟩; (first | have K := k2_first hb | have K := k2_next K hb); obtain ⟨c0, c1⟩ := lies_pair K.2.1; obtain ⟨d0, d1, d2, d3⟩ := lies_four K.2.2))
  go_region_held3 (fun w' => K2 w (P2 n d) (P4 p v u k) w' ∧ w'.cell? ⟨w.heap.size, 0, none⟩ = some (.int .i64 n) ∧ w'.cell? ⟨w.heap.size, 1, none⟩ = some (.int .i64 d) ∧ w'.cell? ⟨w.heap.size + 1, 0, none⟩ = some (.int .i64 p) ∧ w'.cell? ⟨w.heap.size + 1, 1, none⟩ = some (.int .i64 v) ∧ w'.cell? ⟨w.heap.size + 1, 2, none⟩ = some (.int .i64 u) ∧ w'.cell? ⟨w.heap.size + 1, 3, none⟩ = some (.int .i64 k))
    (first | with_reducible assumption | exact sa_of (k2_drew K) | exact sa_next ‹_› hb)
    (first | (go_at_call 96; refine (ratZero_any _ _ _).mono ?_; rw [HN.out]; rintro e1 wn ⟨rfl, hb⟩) | (go_at_call 82; refine (pring_any _ _ _ _ _).mono ?_; rintro e1 wn ⟨rfl, hb⟩) | (go_at_call 97; refine (HPI.out _).mono ?_; rintro e1 wn ⟨rfl, hb⟩))
  all_goals go_wp2_with fail
  all_goals go_ret2
  all_goals exact ⟨rfl, (‹K2 w _ _ _ ∧ _›).1.1⟩
set_option maxHeartbeats 1000000 in
theorem agree_val (n d p v u k V U : Int) (w : World) (hx : isRatB n d = true) (hy : padB p v u k = true) (HZ : Hid ((u == 0 && k == 0) = false)) (HN : Hid ((n == 0) = false)) (hV : (v == V) = false)
    (HPI : Hid (∀ w, Calls Try.prog 97 #[.agg (P2 n d), .agg (P2 p k)] w fun e w' => e = .returned (.agg (P4 p V U k)) ∧ Below w.heap.size w w')) :
    Calls Try.prog 49 #[.agg (P2 n d), .agg (P4 p v u k)] w fun e w' => e = .returned (.tuple #[.bool false, .int .i64 0]) ∧ Below w.heap.size w w' := by
  go_enter Try.func49, Try.ntmps49
  go_wp2_with (first | (go_at_call 95; refine (ratValid_any _ _ _).mono ?_; rintro e wn ⟨rfl, hb⟩; (first | have K := k2_first hb | have K := k2_next K hb); obtain ⟨c0, c1⟩ := lies_pair K.2.1; obtain ⟨d0, d1, d2, d3⟩ := lies_four K.2.2) | (go_at_call 80; refine (isValid_any _ _ _ _ _).mono ?_; rintro e wn ⟨rfl, hb⟩; (first | have K := k2_first hb | have K := k2_next K hb); obtain ⟨c0, c1⟩ := lies_pair K.2.1; obtain ⟨d0, d1, d2, d3⟩ := lies_four K.2.2) | (go_at_call 81; refine (isZero_any _ _ _ _ _).mono ?_; rw [HZ.out]; rintro e wn ⟨rfl, hb⟩; (first | have K := k2_first hb | have K := k2_next K hb); obtain ⟨c0, c1⟩ := lies_pair K.2.1; obtain ⟨d0, d1, d2, d3⟩ := lies_four K.2.2))
  go_region_held3 (fun w' => K2 w (P2 n d) (P4 p v u k) w' ∧ w'.cell? ⟨w.heap.size, 0, none⟩ = some (.int .i64 n) ∧ w'.cell? ⟨w.heap.size, 1, none⟩ = some (.int .i64 d) ∧ w'.cell? ⟨w.heap.size + 1, 0, none⟩ = some (.int .i64 p) ∧ w'.cell? ⟨w.heap.size + 1, 1, none⟩ = some (.int .i64 v) ∧ w'.cell? ⟨w.heap.size + 1, 2, none⟩ = some (.int .i64 u) ∧ w'.cell? ⟨w.heap.size + 1, 3, none⟩ = some (.int .i64 k))
    (first | with_reducible assumption | exact sa_of (k2_drew K) | exact sa_next ‹_› hb)
    (first | (go_at_call 96; refine (ratZero_any _ _ _).mono ?_; rw [HN.out]; rintro e1 wn ⟨rfl, hb⟩) | (go_at_call 82; refine (pring_any _ _ _ _ _).mono ?_; rintro e1 wn ⟨rfl, hb⟩) | (go_at_call 97; refine (HPI.out _).mono ?_; rintro e1 wn ⟨rfl, hb⟩))
  all_goals go_wp2_with fail
  all_goals go_ret2
  all_goals exact ⟨rfl, (‹K2 w _ _ _ ∧ _›).1.1⟩
set_option maxHeartbeats 1000000 in
theorem agree_unit (n d p v u k U : Int) (w : World) (hx : isRatB n d = true) (hy : padB p v u k = true) (HZ : Hid ((u == 0 && k == 0) = false)) (HN : Hid ((n == 0) = false)) (hU : (u == U) = false)
    (HPI : Hid (∀ w, Calls Try.prog 97 #[.agg (P2 n d), .agg (P2 p k)] w fun e w' => e = .returned (.agg (P4 p v U k)) ∧ Below w.heap.size w w')) :
    Calls Try.prog 49 #[.agg (P2 n d), .agg (P4 p v u k)] w fun e w' => e = .returned (.tuple #[.bool false, .int .i64 0]) ∧ Below w.heap.size w w' := by
  go_enter Try.func49, Try.ntmps49
  go_wp2_with (first | (go_at_call 95; refine (ratValid_any _ _ _).mono ?_; rintro e wn ⟨rfl, hb⟩; (first | have K := k2_first hb | have K := k2_next K hb); obtain ⟨c0, c1⟩ := lies_pair K.2.1; obtain ⟨d0, d1, d2, d3⟩ := lies_four K.2.2) | (go_at_call 80; refine (isValid_any _ _ _ _ _).mono ?_; rintro e wn ⟨rfl, hb⟩; (first | have K := k2_first hb | have K := k2_next K hb); obtain ⟨c0, c1⟩ := lies_pair K.2.1; obtain ⟨d0, d1, d2, d3⟩ := lies_four K.2.2) | (go_at_call 81; refine (isZero_any _ _ _ _ _).mono ?_; rw [HZ.out]; rintro e wn ⟨rfl, hb⟩; (first | have K := k2_first hb | have K := k2_next K hb); obtain ⟨c0, c1⟩ := lies_pair K.2.1; obtain ⟨d0, d1, d2, d3⟩ := lies_four K.2.2))
  go_region_held3 (fun w' => K2 w (P2 n d) (P4 p v u k) w' ∧ w'.cell? ⟨w.heap.size, 0, none⟩ = some (.int .i64 n) ∧ w'.cell? ⟨w.heap.size, 1, none⟩ = some (.int .i64 d) ∧ w'.cell? ⟨w.heap.size + 1, 0, none⟩ = some (.int .i64 p) ∧ w'.cell? ⟨w.heap.size + 1, 1, none⟩ = some (.int .i64 v) ∧ w'.cell? ⟨w.heap.size + 1, 2, none⟩ = some (.int .i64 u) ∧ w'.cell? ⟨w.heap.size + 1, 3, none⟩ = some (.int .i64 k))
    (first | with_reducible assumption | exact sa_of (k2_drew K) | exact sa_next ‹_› hb)
    (first | (go_at_call 96; refine (ratZero_any _ _ _).mono ?_; rw [HN.out]; rintro e1 wn ⟨rfl, hb⟩) | (go_at_call 82; refine (pring_any _ _ _ _ _).mono ?_; rintro e1 wn ⟨rfl, hb⟩) | (go_at_call 97; refine (HPI.out _).mono ?_; rintro e1 wn ⟨rfl, hb⟩))
  all_goals go_wp2_with fail
  all_goals go_ret2
  all_goals exact ⟨rfl, (‹K2 w _ _ _ ∧ _›).1.1⟩
set_option maxHeartbeats 1000000 in
theorem implAgree_any (n d p v u k : Int) (w : World) :
    Calls Try.prog 49 #[.agg (P2 n d), .agg (P4 p v u k)] w fun e w' => e = .returned (.tuple #[.bool (agreeB n d p v u k), .int .i64 (agreeC n d p v u k)]) ∧ Below w.heap.size w w' := by
  cases hx : isRatB n d
  · have HE := Lib.hid (show agreeB n d p v u k = false ∧ agreeC n d p v u k = 1 by simp [agreeB, agreeC, hx])
    go_enter Try.func49, Try.ntmps49
    go_wp2_with (first | (go_at_call 95; refine (ratValid_any _ _ _).mono ?_; rintro e wn ⟨rfl, hb⟩; (first | have K := k2_first hb | have K := k2_next K hb); obtain ⟨c0, c1⟩ := lies_pair K.2.1; obtain ⟨d0, d1, d2, d3⟩ := lies_four K.2.2))
    go_ret2
    exact ⟨ret_bi HE.out.1.symm HE.out.2.symm, K.1⟩
  · cases hy : padB p v u k
    · have HE := Lib.hid (show agreeB n d p v u k = false ∧ agreeC n d p v u k = 1 by simp [agreeB, agreeC, hy])
      go_enter Try.func49, Try.ntmps49
      go_wp2_with (first | (go_at_call 95; refine (ratValid_any _ _ _).mono ?_; rintro e wn ⟨rfl, hb⟩; (first | have K := k2_first hb | have K := k2_next K hb); obtain ⟨c0, c1⟩ := lies_pair K.2.1; obtain ⟨d0, d1, d2, d3⟩ := lies_four K.2.2) | (go_at_call 80; refine (isValid_any _ _ _ _ _).mono ?_; rintro e wn ⟨rfl, hb⟩; (first | have K := k2_first hb | have K := k2_next K hb); obtain ⟨c0, c1⟩ := lies_pair K.2.1; obtain ⟨d0, d1, d2, d3⟩ := lies_four K.2.2))
      go_ret2
      exact ⟨ret_bi HE.out.1.symm HE.out.2.symm, K.1⟩
    · have ok := padB_ok hy
      have hC : agreeC n d p v u k = 0 := by simp [agreeC, hx, hy]
      rw [hC]
      obtain ⟨n0, n1, d0, d1, _⟩ := isRat_of hx
      obtain ⟨hp2, hp97⟩ := smallB_bd ok.1
      have HX := Lib.hid hx
      by_cases hk : k = 0
      · have HZ := Lib.hid (show (u == 0 && k == 0) = true by simp [hk, pok_zero ok hk])
        by_cases hn : n = 0
        · have HN := Lib.hid (show (n == 0) = true by simp [hn])
          have HE := Lib.hid (show agreeB n d p v u k = true by unfold agreeB; rw [hx, hy, if_pos hk, HN.out]; rfl)
          clear hC hk hn
          go_enter Try.func49, Try.ntmps49
          go_wp2_with (first | (go_at_call 95; refine (ratValid_any _ _ _).mono ?_; rintro e wn ⟨rfl, hb⟩; (first | have K := k2_first hb | have K := k2_next K hb); obtain ⟨c0, c1⟩ := lies_pair K.2.1; obtain ⟨d0, d1, d2, d3⟩ := lies_four K.2.2) | (go_at_call 80; refine (isValid_any _ _ _ _ _).mono ?_; rintro e wn ⟨rfl, hb⟩; (first | have K := k2_first hb | have K := k2_next K hb); obtain ⟨c0, c1⟩ := lies_pair K.2.1; obtain ⟨d0, d1, d2, d3⟩ := lies_four K.2.2) | (go_at_call 81; refine (isZero_any _ _ _ _ _).mono ?_; rw [HZ.out]; rintro e wn ⟨rfl, hb⟩; (first | have K := k2_first hb | have K := k2_next K hb); obtain ⟨c0, c1⟩ := lies_pair K.2.1; obtain ⟨d0, d1, d2, d3⟩ := lies_four K.2.2))
          refine wp_region_held_drew (S := SA w n d p v u k) (by kernel_rfl) (sa_of (k2_drew K)) (fun hHeld => ?_)
          refine take_at (i := 0) (d := 16) (v := .agg (P2 n d)) rfl rfl (by kernel_rfl) (by kernel_rfl) (by kernel_rfl) (fun _ _ _ h => h) (Or.inl ⟨by rfl, ?_⟩) hHeld ?_
          · intro w' hS
            obtain ⟨_, k0, k1, l0, l1, l2, l3⟩ := hS
            go_simp
          try simp only [Act.put, List.setIfInBounds_toArray, List.set_cons_zero, List.set_cons_succ]
          refine wpAnyH_ready (rs := [1]) (by kernel_rfl) (by simp) ?_
          refine AllReadyH.cons rfl (fun K hK => ?_) AllReadyH.nil
          go_simp
          go_at_call 96; refine (ratZero_any _ _ _).mono ?_; rw [HN.out]; rintro e1 wn ⟨rfl, hb⟩
          go_simp
          refine hK.out _ _ (sa_next hHeld hb) (fun hHeld => ?_)
          clear hK
          try simp only [Act.put, List.setIfInBounds_toArray, List.set_cons_zero, List.set_cons_succ]
          refine take_at (i := 2) (d := 18) (v := .bool true) rfl rfl (by kernel_rfl) (by kernel_rfl) (by kernel_rfl) (fun _ _ _ h => h) (Or.inl ⟨by rfl, ?_⟩) hHeld ?_
          · intro w' hS; go_simp
          try simp only [Act.put, List.setIfInBounds_toArray, List.set_cons_zero, List.set_cons_succ]
          refine take_at (i := 3) (d := 19) (v := undef) rfl rfl (by kernel_rfl) (by kernel_rfl) (by kernel_rfl) (fun _ _ _ h => h) (Or.inr ⟨by kernel_rfl, rfl⟩) hHeld ?_
          try simp only [Act.put, List.setIfInBounds_toArray, List.set_cons_zero, List.set_cons_succ]
          refine take_at (i := 4) (d := 20) (v := undef) rfl rfl (by kernel_rfl) (by kernel_rfl) (by kernel_rfl) (fun _ _ _ h => h) (Or.inr ⟨by kernel_rfl, rfl⟩) hHeld ?_
          try simp only [Act.put, List.setIfInBounds_toArray, List.set_cons_zero, List.set_cons_succ]
          refine take_at (i := 5) (d := 21) (v := undef) rfl rfl (by kernel_rfl) (by kernel_rfl) (by kernel_rfl) (fun _ _ _ h => h) (Or.inr ⟨by kernel_rfl, rfl⟩) hHeld ?_
          try simp only [Act.put, List.setIfInBounds_toArray, List.set_cons_zero, List.set_cons_succ]
          refine take_at (i := 6) (d := 22) (v := undef) rfl rfl (by kernel_rfl) (by kernel_rfl) (by kernel_rfl) (fun _ _ _ h => h) (Or.inr ⟨by kernel_rfl, rfl⟩) hHeld ?_
          try simp only [Act.put, List.setIfInBounds_toArray, List.set_cons_zero, List.set_cons_succ]
          refine take_at (i := 7) (d := 23) (v := undef) rfl rfl (by kernel_rfl) (by kernel_rfl) (by kernel_rfl) (fun _ _ _ h => h) (Or.inr ⟨by kernel_rfl, rfl⟩) hHeld ?_
          try simp only [Act.put, List.setIfInBounds_toArray, List.set_cons_zero, List.set_cons_succ]
          refine take_at (i := 8) (d := 24) (v := undef) rfl rfl (by kernel_rfl) (by kernel_rfl) (by kernel_rfl) (fun _ _ _ h => h) (Or.inr ⟨by kernel_rfl, rfl⟩) hHeld ?_
          try simp only [Act.put, List.setIfInBounds_toArray, List.set_cons_zero, List.set_cons_succ]
          refine take_at (i := 9) (d := 25) (v := undef) rfl rfl (by kernel_rfl) (by kernel_rfl) (by kernel_rfl) (fun _ _ _ h => h) (Or.inr ⟨by kernel_rfl, rfl⟩) hHeld ?_
          try simp only [Act.put, List.setIfInBounds_toArray, List.set_cons_zero, List.set_cons_succ]
          refine take_at (i := 10) (d := 26) (v := .bool true) rfl rfl (by kernel_rfl) (by kernel_rfl) (by kernel_rfl) (fun _ _ _ h => h) (Or.inl ⟨by rfl, ?_⟩) hHeld ?_
          · intro w' hS; go_simp
          try simp only [Act.put, List.setIfInBounds_toArray, List.set_cons_zero, List.set_cons_succ]
          refine take_at (i := 11) (d := 4) (v := .bool true) rfl rfl (by kernel_rfl) (by kernel_rfl) (by kernel_rfl) (fun _ _ _ h => h) (Or.inl ⟨by rfl, ?_⟩) hHeld ?_
          · intro w' hS; go_simp
          try simp only [Act.put, List.setIfInBounds_toArray, List.set_cons_zero, List.set_cons_succ]
          refine take_at (i := 12) (d := 5) (v := .int .i64 0) rfl rfl (by kernel_rfl) (by kernel_rfl) (by kernel_rfl) (fun _ _ _ h => h) (Or.inl ⟨by rfl, ?_⟩) hHeld ?_
          · intro w' hS; go_simp
          try simp only [Act.put, List.setIfInBounds_toArray, List.set_cons_zero, List.set_cons_succ]
          refine wpAnyH_done (by kernel_rfl) ?_ _
          go_wp2_with fail
          go_ret2
          exact ⟨ret_bi HE.out.symm rfl, hHeld.1.1⟩
        · have HN := Lib.hid (show (n == 0) = false by simp [hn])
          have HE := Lib.hid (show agreeB n d p v u k = decide (v ≤ valCount n p - valCount d p) by unfold agreeB; rw [hx, hy, if_pos hk, HN.out]; rfl)
          have H0 := Lib.hid hn
          have H1 := Lib.hid (show d ≠ 0 by omega)
          clear hC hk hn
          go_enter Try.func49, Try.ntmps49
          go_wp2_with (first | (go_at_call 95; refine (ratValid_any _ _ _).mono ?_; rintro e wn ⟨rfl, hb⟩; (first | have K := k2_first hb | have K := k2_next K hb); obtain ⟨c0, c1⟩ := lies_pair K.2.1; obtain ⟨d0, d1, d2, d3⟩ := lies_four K.2.2) | (go_at_call 80; refine (isValid_any _ _ _ _ _).mono ?_; rintro e wn ⟨rfl, hb⟩; (first | have K := k2_first hb | have K := k2_next K hb); obtain ⟨c0, c1⟩ := lies_pair K.2.1; obtain ⟨d0, d1, d2, d3⟩ := lies_four K.2.2) | (go_at_call 81; refine (isZero_any _ _ _ _ _).mono ?_; rw [HZ.out]; rintro e wn ⟨rfl, hb⟩; (first | have K := k2_first hb | have K := k2_next K hb); obtain ⟨c0, c1⟩ := lies_pair K.2.1; obtain ⟨d0, d1, d2, d3⟩ := lies_four K.2.2))
          go_region_held3 (fun w' => K2 w (P2 n d) (P4 p v u k) w' ∧ w'.cell? ⟨w.heap.size, 0, none⟩ = some (.int .i64 n) ∧ w'.cell? ⟨w.heap.size, 1, none⟩ = some (.int .i64 d) ∧ w'.cell? ⟨w.heap.size + 1, 0, none⟩ = some (.int .i64 p) ∧ w'.cell? ⟨w.heap.size + 1, 1, none⟩ = some (.int .i64 v) ∧ w'.cell? ⟨w.heap.size + 1, 2, none⟩ = some (.int .i64 u) ∧ w'.cell? ⟨w.heap.size + 1, 3, none⟩ = some (.int .i64 k))
            (first | with_reducible assumption | exact sa_of (k2_drew K) | exact sa_next ‹_› hb)
            (first | (go_at_call 96; refine (ratZero_any _ _ _).mono ?_; rw [HN.out]; rintro e1 wn ⟨rfl, hb⟩) | (go_at_call 106; refine (ratVal_any _ _ _ _ hp2 H0.out H1.out (by omega) (by omega) (by omega) (by omega)).mono ?_; rintro e1 wn ⟨rfl, hb⟩))
          all_goals go_wp2_with fail
          all_goals go_ret2
          all_goals exact ⟨ret_bi HE.out.symm rfl, (‹K2 w _ _ _ ∧ _›).1.1⟩
      · have HZ := Lib.hid (show (u == 0 && k == 0) = false by simp [hk])
        by_cases hn : n = 0
        · have HN := Lib.hid (show (n == 0) = true by simp [hn])
          have HE := Lib.hid (show agreeB n d p v u k = false by unfold agreeB; rw [hx, hy, if_neg hk, HN.out]; rfl)
          clear hC hk hn
          go_enter Try.func49, Try.ntmps49
          go_wp2_with (first | (go_at_call 95; refine (ratValid_any _ _ _).mono ?_; rintro e wn ⟨rfl, hb⟩; (first | have K := k2_first hb | have K := k2_next K hb); obtain ⟨c0, c1⟩ := lies_pair K.2.1; obtain ⟨d0, d1, d2, d3⟩ := lies_four K.2.2) | (go_at_call 80; refine (isValid_any _ _ _ _ _).mono ?_; rintro e wn ⟨rfl, hb⟩; (first | have K := k2_first hb | have K := k2_next K hb); obtain ⟨c0, c1⟩ := lies_pair K.2.1; obtain ⟨d0, d1, d2, d3⟩ := lies_four K.2.2) | (go_at_call 81; refine (isZero_any _ _ _ _ _).mono ?_; rw [HZ.out]; rintro e wn ⟨rfl, hb⟩; (first | have K := k2_first hb | have K := k2_next K hb); obtain ⟨c0, c1⟩ := lies_pair K.2.1; obtain ⟨d0, d1, d2, d3⟩ := lies_four K.2.2))
          refine wp_region_held_drew (S := SA w n d p v u k) (by kernel_rfl) (sa_of (k2_drew K)) (fun hHeld => ?_)
          refine take_at (i := 0) (d := 27) (v := .agg (P2 n d)) rfl rfl (by kernel_rfl) (by kernel_rfl) (by kernel_rfl) (fun _ _ _ h => h) (Or.inl ⟨by rfl, ?_⟩) hHeld ?_
          · intro w' hS
            obtain ⟨_, k0, k1, l0, l1, l2, l3⟩ := hS
            go_simp
          try simp only [Act.put, List.setIfInBounds_toArray, List.set_cons_zero, List.set_cons_succ]
          refine wpAnyH_ready (rs := [1]) (by kernel_rfl) (by simp) ?_
          refine AllReadyH.cons rfl (fun K hK => ?_) AllReadyH.nil
          go_simp
          go_at_call 96; refine (ratZero_any _ _ _).mono ?_; rw [HN.out]; rintro e1 wn ⟨rfl, hb⟩
          go_simp
          refine hK.out _ _ (sa_next hHeld hb) (fun hHeld => ?_)
          clear hK
          try simp only [Act.put, List.setIfInBounds_toArray, List.set_cons_zero, List.set_cons_succ]
          refine take_at (i := 2) (d := 29) (v := .bool false) rfl rfl (by kernel_rfl) (by kernel_rfl) (by kernel_rfl) (fun _ _ _ h => h) (Or.inl ⟨by rfl, ?_⟩) hHeld ?_
          · intro w' hS; go_simp
          try simp only [Act.put, List.setIfInBounds_toArray, List.set_cons_zero, List.set_cons_succ]
          refine take_at (i := 3) (d := 30) (v := .bool false) rfl rfl (by kernel_rfl) (by kernel_rfl) (by kernel_rfl) (fun _ _ _ h => h) (Or.inl ⟨by rfl, ?_⟩) hHeld ?_
          · intro w' hS; go_simp
          try simp only [Act.put, List.setIfInBounds_toArray, List.set_cons_zero, List.set_cons_succ]
          refine take_at (i := 4) (d := 31) (v := undef) rfl rfl (by kernel_rfl) (by kernel_rfl) (by kernel_rfl) (fun _ _ _ h => h) (Or.inr ⟨by kernel_rfl, rfl⟩) hHeld ?_
          try simp only [Act.put, List.setIfInBounds_toArray, List.set_cons_zero, List.set_cons_succ]
          refine take_at (i := 5) (d := 32) (v := undef) rfl rfl (by kernel_rfl) (by kernel_rfl) (by kernel_rfl) (fun _ _ _ h => h) (Or.inr ⟨by kernel_rfl, rfl⟩) hHeld ?_
          try simp only [Act.put, List.setIfInBounds_toArray, List.set_cons_zero, List.set_cons_succ]
          refine take_at (i := 6) (d := 33) (v := undef) rfl rfl (by kernel_rfl) (by kernel_rfl) (by kernel_rfl) (fun _ _ _ h => h) (Or.inr ⟨by kernel_rfl, rfl⟩) hHeld ?_
          try simp only [Act.put, List.setIfInBounds_toArray, List.set_cons_zero, List.set_cons_succ]
          refine take_at (i := 7) (d := 34) (v := undef) rfl rfl (by kernel_rfl) (by kernel_rfl) (by kernel_rfl) (fun _ _ _ h => h) (Or.inr ⟨by kernel_rfl, rfl⟩) hHeld ?_
          try simp only [Act.put, List.setIfInBounds_toArray, List.set_cons_zero, List.set_cons_succ]
          refine take_at (i := 8) (d := 35) (v := undef) rfl rfl (by kernel_rfl) (by kernel_rfl) (by kernel_rfl) (fun _ _ _ h => h) (Or.inr ⟨by kernel_rfl, rfl⟩) hHeld ?_
          try simp only [Act.put, List.setIfInBounds_toArray, List.set_cons_zero, List.set_cons_succ]
          refine take_at (i := 9) (d := 36) (v := undef) rfl rfl (by kernel_rfl) (by kernel_rfl) (by kernel_rfl) (fun _ _ _ h => h) (Or.inr ⟨by kernel_rfl, rfl⟩) hHeld ?_
          try simp only [Act.put, List.setIfInBounds_toArray, List.set_cons_zero, List.set_cons_succ]
          refine take_at (i := 10) (d := 37) (v := .bool false) rfl rfl (by kernel_rfl) (by kernel_rfl) (by kernel_rfl) (fun _ _ _ h => h) (Or.inl ⟨by rfl, ?_⟩) hHeld ?_
          · intro w' hS; go_simp
          try simp only [Act.put, List.setIfInBounds_toArray, List.set_cons_zero, List.set_cons_succ]
          refine take_at (i := 11) (d := 4) (v := .bool false) rfl rfl (by kernel_rfl) (by kernel_rfl) (by kernel_rfl) (fun _ _ _ h => h) (Or.inl ⟨by rfl, ?_⟩) hHeld ?_
          · intro w' hS; go_simp
          try simp only [Act.put, List.setIfInBounds_toArray, List.set_cons_zero, List.set_cons_succ]
          refine take_at (i := 12) (d := 5) (v := .int .i64 0) rfl rfl (by kernel_rfl) (by kernel_rfl) (by kernel_rfl) (fun _ _ _ h => h) (Or.inl ⟨by rfl, ?_⟩) hHeld ?_
          · intro w' hS; go_simp
          try simp only [Act.put, List.setIfInBounds_toArray, List.set_cons_zero, List.set_cons_succ]
          refine wpAnyH_done (by kernel_rfl) ?_ _
          go_wp2_with fail
          go_ret2
          exact ⟨ret_bi HE.out.symm rfl, hHeld.1.1⟩
        · have HN := Lib.hid (show (n == 0) = false by simp [hn])
          have HE := Lib.hid (show agreeB n d p v u k = (decide (valCount n p - valCount d p = v) && decide (pofU n d p k = u)) by unfold agreeB; rw [hx, hy, if_neg hk, HN.out]; rfl)
          have H0 := Lib.hid hn
          have HM := Lib.hid (pok_ring ok hk).2.1
          clear hC hk hn
          have HPI : ∀ w, Calls Try.prog 97 #[.agg (P2 n d), .agg (P2 p k)] w fun e w' => e = .returned (.agg (P4 p (valCount n p - valCount d p) (pofU n d p k) k)) ∧ Below w.heap.size w w' := fun w => padicIn_any n d p k w HX.out H0.out HM.out
          rw [HE.out]
          generalize valCount n p - valCount d p = V at *
          generalize pofU n d p k = U at *
          by_cases hV : V = v
          · subst hV
            by_cases hU : U = u
            · subst hU
              simp only [decide_true, Bool.and_self]
              exact agree_yes n d p V U k w hx hy HZ HN (Lib.hid HPI)
            · rw [decide_eq_false hU, Bool.and_false]
              exact agree_unit n d p V u k U w hx hy HZ HN (by simp; omega) (Lib.hid HPI)
          · rw [decide_eq_false hV, Bool.false_and]
            exact agree_val n d p v u k V U w hx hy HZ HN (by simp; omega) (Lib.hid HPI)
set_option maxHeartbeats 1000000 in
theorem sagree_yes (n d p v u k : Int) (w : World) (hn : (n == 0) = false) (hk : (k == 0) = false)
    (HPI : Hid (∀ w, Calls Try.prog 105 #[.agg (P2 n d), .agg (P2 p k)] w fun e w' => e = .returned (.agg (P4 p v u k)) ∧ Below w.heap.size w w')) :
    Calls Try.prog 107 #[.agg (P2 n d), .agg (P4 p v u k)] w fun e w' => e = .returned (.bool true) ∧ Below w.heap.size w w' := by
  go_enter Try.func107, Try.ntmps107
  go_wp2
  have K := k2_new w (P2 n d) (P4 p v u k) 49 34
  generalize (w.alloc (.cells (P2 n d) 49)).alloc (.cells (P4 p v u k) 34) = W1 at K ⊢
  go_region_held3 (fun w' => K2 w (P2 n d) (P4 p v u k) w' ∧ w'.cell? ⟨w.heap.size, 0, none⟩ = some (.int .i64 n) ∧ w'.cell? ⟨w.heap.size, 1, none⟩ = some (.int .i64 d) ∧ w'.cell? ⟨w.heap.size + 1, 0, none⟩ = some (.int .i64 p) ∧ w'.cell? ⟨w.heap.size + 1, 1, none⟩ = some (.int .i64 v) ∧ w'.cell? ⟨w.heap.size + 1, 2, none⟩ = some (.int .i64 u) ∧ w'.cell? ⟨w.heap.size + 1, 3, none⟩ = some (.int .i64 k))
    (first | with_reducible assumption | exact sa_of (k2_drew K) | exact sa_next ‹_› hb)
    (first | (go_at_call 123; refine (l03Ring_any _ _ _ _ _).mono ?_; rintro e1 wn ⟨rfl, hb⟩) | (go_at_call 105; refine (HPI.out _).mono ?_; rintro e1 wn ⟨rfl, hb⟩))
  all_goals go_wp2_with fail
  all_goals go_ret
  all_goals exact ⟨rfl, (‹K2 w _ _ _ ∧ _›).1.1⟩
set_option maxHeartbeats 1000000 in
theorem sagree_val (n d p v u k V U : Int) (w : World) (hn : (n == 0) = false) (hk : (k == 0) = false) (hV : (V == v) = false)
    (HPI : Hid (∀ w, Calls Try.prog 105 #[.agg (P2 n d), .agg (P2 p k)] w fun e w' => e = .returned (.agg (P4 p V U k)) ∧ Below w.heap.size w w')) :
    Calls Try.prog 107 #[.agg (P2 n d), .agg (P4 p v u k)] w fun e w' => e = .returned (.bool false) ∧ Below w.heap.size w w' := by
  go_enter Try.func107, Try.ntmps107
  go_wp2
  have K := k2_new w (P2 n d) (P4 p v u k) 49 34
  generalize (w.alloc (.cells (P2 n d) 49)).alloc (.cells (P4 p v u k) 34) = W1 at K ⊢
  go_region_held3 (fun w' => K2 w (P2 n d) (P4 p v u k) w' ∧ w'.cell? ⟨w.heap.size, 0, none⟩ = some (.int .i64 n) ∧ w'.cell? ⟨w.heap.size, 1, none⟩ = some (.int .i64 d) ∧ w'.cell? ⟨w.heap.size + 1, 0, none⟩ = some (.int .i64 p) ∧ w'.cell? ⟨w.heap.size + 1, 1, none⟩ = some (.int .i64 v) ∧ w'.cell? ⟨w.heap.size + 1, 2, none⟩ = some (.int .i64 u) ∧ w'.cell? ⟨w.heap.size + 1, 3, none⟩ = some (.int .i64 k))
    (first | with_reducible assumption | exact sa_of (k2_drew K) | exact sa_next ‹_› hb)
    (first | (go_at_call 123; refine (l03Ring_any _ _ _ _ _).mono ?_; rintro e1 wn ⟨rfl, hb⟩) | (go_at_call 105; refine (HPI.out _).mono ?_; rintro e1 wn ⟨rfl, hb⟩))
  all_goals go_wp2_with fail
  all_goals go_ret
  all_goals exact ⟨rfl, (‹K2 w _ _ _ ∧ _›).1.1⟩
set_option maxHeartbeats 1000000 in
theorem sagree_unit (n d p v u k U : Int) (w : World) (hn : (n == 0) = false) (hk : (k == 0) = false) (hU : (U == u) = false)
    (HPI : Hid (∀ w, Calls Try.prog 105 #[.agg (P2 n d), .agg (P2 p k)] w fun e w' => e = .returned (.agg (P4 p v U k)) ∧ Below w.heap.size w w')) :
    Calls Try.prog 107 #[.agg (P2 n d), .agg (P4 p v u k)] w fun e w' => e = .returned (.bool false) ∧ Below w.heap.size w w' := by
  go_enter Try.func107, Try.ntmps107
  go_wp2
  have K := k2_new w (P2 n d) (P4 p v u k) 49 34
  generalize (w.alloc (.cells (P2 n d) 49)).alloc (.cells (P4 p v u k) 34) = W1 at K ⊢
  go_region_held3 (fun w' => K2 w (P2 n d) (P4 p v u k) w' ∧ w'.cell? ⟨w.heap.size, 0, none⟩ = some (.int .i64 n) ∧ w'.cell? ⟨w.heap.size, 1, none⟩ = some (.int .i64 d) ∧ w'.cell? ⟨w.heap.size + 1, 0, none⟩ = some (.int .i64 p) ∧ w'.cell? ⟨w.heap.size + 1, 1, none⟩ = some (.int .i64 v) ∧ w'.cell? ⟨w.heap.size + 1, 2, none⟩ = some (.int .i64 u) ∧ w'.cell? ⟨w.heap.size + 1, 3, none⟩ = some (.int .i64 k))
    (first | with_reducible assumption | exact sa_of (k2_drew K) | exact sa_next ‹_› hb)
    (first | (go_at_call 123; refine (l03Ring_any _ _ _ _ _).mono ?_; rintro e1 wn ⟨rfl, hb⟩) | (go_at_call 105; refine (HPI.out _).mono ?_; rintro e1 wn ⟨rfl, hb⟩))
  all_goals go_wp2_with fail
  all_goals go_ret
  all_goals exact ⟨rfl, (‹K2 w _ _ _ ∧ _›).1.1⟩
set_option maxHeartbeats 1000000 in
theorem l05Agree_any (n d p v u k : Int) (w : World) (hx : isRatB n d = true) (hy : padB p v u k = true) :
    Calls Try.prog 107 #[.agg (P2 n d), .agg (P4 p v u k)] w fun e w' => e = .returned (.bool (agreeB n d p v u k)) ∧ Below w.heap.size w w' := by
  have ok := padB_ok hy
  obtain ⟨n0, n1, d0, d1, _⟩ := isRat_of hx
  obtain ⟨hp2, hp97⟩ := smallB_bd ok.1
  have HX := Lib.hid hx
  by_cases hn : n = 0
  · have hN : (n == 0) = true := by simp [hn]
    have HE := Lib.hid (show agreeB n d p v u k = (k == 0) by
      unfold agreeB
      rw [hx, hy, hN]
      by_cases hk : k = 0
      · rw [if_pos hk]; simp [hk]
      · rw [if_neg hk]; simp [hk])
    clear hn
    go_enter Try.func107, Try.ntmps107
    go_wp2
    go_ret
    exact ⟨ret_bool HE.out.symm, below_a2 w _ _⟩
  · have hN : (n == 0) = false := by simp [hn]
    by_cases hk : k = 0
    · have hK : (k == 0) = true := by simp [hk]
      have HE := Lib.hid (show agreeB n d p v u k = decide (v ≤ valCount n p - valCount d p) by unfold agreeB; rw [hx, hy, if_pos hk, hN]; rfl)
      have H0 := Lib.hid hn
      have H1 := Lib.hid (show d ≠ 0 by omega)
      obtain ⟨a0, a1⟩ := val_bd hp2 hn n0 n1
      obtain ⟨b0, b1⟩ := val_bd (n := d) hp2 H1.out (by omega) d1
      have hw : IntKind.i64.wrap (valCount n p - valCount d p) = valCount n p - valCount d p := IntWalk.i64_in _ (by omega)
      clear hk hn
      go_enter Try.func107, Try.ntmps107
      go_wp2
      go_quiet ((go_at_call 125; exact (l01Val_any _ _ _ hp2 (by first | exact H0.out | exact H1.out) (by omega)).mono fun e w' h => ⟨h.1, _, h.2.symm⟩))
      go_wp2
      go_ret
      exact ⟨ret_bool HE.out.symm, below_drewN (below_a2 w _ _) _⟩
    · have hK : (k == 0) = false := by simp [hk]
      have HE := Lib.hid (show agreeB n d p v u k = (decide (valCount n p - valCount d p = v) && decide (pofU n d p k = u)) by unfold agreeB; rw [hx, hy, if_neg hk, hN]; rfl)
      have HM := Lib.hid (pok_ring ok hk).2.1
      have HPI : ∀ w, Calls Try.prog 105 #[.agg (P2 n d), .agg (P2 p k)] w fun e w' => e = .returned (.agg (P4 p (valCount n p - valCount d p) (pofU n d p k) k)) ∧ Below w.heap.size w w' := fun w => l05Padic_any n d p k w HX.out hn HM.out
      rw [HE.out]
      generalize valCount n p - valCount d p = V at *
      generalize pofU n d p k = U at *
      by_cases hV : V = v
      · subst hV
        by_cases hU : U = u
        · subst hU
          simp only [decide_true, Bool.and_self]
          exact sagree_yes n d p V U k w hN hK (Lib.hid HPI)
        · rw [decide_eq_false hU, Bool.and_false]
          exact sagree_unit n d p V u k U w hN hK (by simp; omega) (Lib.hid HPI)
      · rw [decide_eq_false hV, Bool.false_and]
        exact sagree_val n d p v u k V U w hN hK (by simp; omega) (Lib.hid HPI)
theorem specAgree_any (n d p v u k : Int) (w : World) :
    Calls Try.prog 50 #[.agg (P2 n d), .agg (P4 p v u k)] w fun e w' => e = .returned (.tuple #[.bool (agreeB n d p v u k), .int .i64 (agreeC n d p v u k)]) ∧ Below w.heap.size w w' := by
  cases hx : isRatB n d
  · have HE := Lib.hid (show agreeB n d p v u k = false ∧ agreeC n d p v u k = 1 by simp [agreeB, agreeC, hx])
    go_enter Try.func50, Try.ntmps50
    go_wp2_with (first | (go_at_call 104; refine (specIsRational_any _ _ _).mono ?_; rintro e wn ⟨rfl, hb⟩; (first | have K := k2_first hb | have K := k2_next K hb); obtain ⟨c0, c1⟩ := lies_pair K.2.1; obtain ⟨d0, d1, d2, d3⟩ := lies_four K.2.2))
    go_ret2
    exact ⟨ret_bi HE.out.1.symm HE.out.2.symm, K.1⟩
  · cases hy : padB p v u k
    · have HE := Lib.hid (show agreeB n d p v u k = false ∧ agreeC n d p v u k = 1 by simp [agreeB, agreeC, hy])
      go_enter Try.func50, Try.ntmps50
      go_wp2_with (first | (go_at_call 104; refine (specIsRational_any _ _ _).mono ?_; rintro e wn ⟨rfl, hb⟩; (first | have K := k2_first hb | have K := k2_next K hb); obtain ⟨c0, c1⟩ := lies_pair K.2.1; obtain ⟨d0, d1, d2, d3⟩ := lies_four K.2.2) | (go_at_call 83; refine (specIsPadic_any _ _ _ _ _).mono ?_; rintro e wn ⟨rfl, hb⟩; (first | have K := k2_first hb | have K := k2_next K hb); obtain ⟨c0, c1⟩ := lies_pair K.2.1; obtain ⟨d0, d1, d2, d3⟩ := lies_four K.2.2))
      go_ret2
      exact ⟨ret_bi HE.out.1.symm HE.out.2.symm, K.1⟩
    · have HC := Lib.hid (show agreeC n d p v u k = 0 by simp [agreeC, hx, hy])
      have HX := Lib.hid hx
      have HY := Lib.hid hy
      go_enter Try.func50, Try.ntmps50
      go_wp2_with (first | (go_at_call 104; refine (specIsRational_any _ _ _).mono ?_; rintro e wn ⟨rfl, hb⟩; (first | have K := k2_first hb | have K := k2_next K hb); obtain ⟨c0, c1⟩ := lies_pair K.2.1; obtain ⟨d0, d1, d2, d3⟩ := lies_four K.2.2) | (go_at_call 83; refine (specIsPadic_any _ _ _ _ _).mono ?_; rintro e wn ⟨rfl, hb⟩; (first | have K := k2_first hb | have K := k2_next K hb); obtain ⟨c0, c1⟩ := lies_pair K.2.1; obtain ⟨d0, d1, d2, d3⟩ := lies_four K.2.2) | (go_at_call 107; refine (l05Agree_any _ _ _ _ _ _ _ HX.out HY.out).mono ?_; rintro e wn ⟨rfl, hb⟩; (first | have K := k2_first hb | have K := k2_next K hb); obtain ⟨c0, c1⟩ := lies_pair K.2.1; obtain ⟨d0, d1, d2, d3⟩ := lies_four K.2.2))
      go_ret2
      exact ⟨ret_bi rfl HC.out.symm, K.1⟩
end Go.Proofs.Ytgckamlibbjgcaa
