/- Walks of exact laws of chapter 7: DivideMonic; true at every input. -/
import Derived.Test.YtbolmmgkmgmfeaaDivSpec
namespace Go.Proofs.Ytbolmmgkmgmfeaa
open Go.RowKit
set_option linter.unusedVariables false
set_option linter.unusedSimpArgs false
theorem pair_kept {w w' : World} {b : Nat} {v u : Value} {l : List Int} (h : IntRow b w u l) (hg : w.grownBy w' v.ownBlock) (ha : v.ownBlock = none ∨ v.ownBlock ≠ u.ownBlock) : IntRow b w' u l := by
  refine World.ownsRow.kept h hg ?_
  cases hu : u.ownBlock with
  | none => exact .inl rfl
  | some k =>
    right
    rw [hu] at ha
    rcases ha with ha | ha
    · rw [ha]; simp
    · exact Ne.symm ha
theorem marked_apart {w w' : World} {v u : Value} {n sz : Nat} {q : Int} (h : MarkedRow w v n sz q) (hg : w.grownBy w' u.ownBlock) (ha : v.ownBlock = none ∨ v.ownBlock ≠ u.ownBlock) : MarkedRow w' v n sz q := by
  rcases h with h | ⟨g, c, rfl, hlt, hc⟩
  · exact .inl h
  · have hb : w'.heap[g]? = w.heap[g]? := hg.block g hlt (by
      rcases ha with ha | ha
      · cases ha
      · exact ha)
    refine .inr ⟨g, c, rfl, by have := hg.size; omega, fun o ho => ?_⟩
    rw [World.cell?_of_block (w := w) (a := ⟨g, o, none⟩) hb]; exact hc o ho
theorem dmQ_len (f g : List Int) : (dmQ f g).length ≤ 9 := by
  unfold dmQ; split
  · rw [trimL_length]; have := trimN_le (dmQl f g) (dmQl f g).length; rw [dmQl, tabL_length] at this; exact this
  · simp
theorem dmS_len (f g : List Int) : (dmS f g).length ≤ 9 := by
  unfold dmS; split
  · rw [trimL_length]; have := trimN_le (dmR f g) (dmR f g).length; rw [dmR, tabL_length] at this; exact this
  · simp
set_option maxRecDepth 20000 in
set_option maxHeartbeats 2000000 in
theorem exactDM_core (af : Option Addr) (capf : Nat) (f : List Int) (ag : Option Addr) (capg : Nat) (g : List Int) (w : World) (hf : f.length ≤ 1048576) (kf : ArgInt w af f) (hg : g.length ≤ 1048576) (kg : ArgInt w ag g) :
    Calls Try.prog 8 #[.slice af f.length capf, .slice ag g.length capg] w fun e w' => e = .returned (.bool true) ∧ Below w.heap.size w w' := by
  have HA0 := Lib.hid kf
  have HT0 := Lib.hid fun (w : World) (h : ArgInt w af f) => toInt64S_any af capf f w hf h
  have hnf : (0 : Int) ≤ (f.length : Int) := Int.natCast_nonneg _
  have HA1 := Lib.hid kg
  have HT1 := Lib.hid fun (w : World) (h : ArgInt w ag g) => toInt64S_any ag capg g w hg h
  have hng : (0 : Int) ≤ (g.length : Int) := Int.natCast_nonneg _
  have HS := Lib.hid fun (w : World) (b : Nat) (o : Option Addr) (c : Nat) (h : IntRow b w (.slice o f.length c) f) (b' : Nat) (o' : Option Addr) (c' : Nat) (h' : IntRow b' w (.slice o' g.length c') g) => specDM_any (row_seen h (show f.length ≤ 1100000 by omega)) (row_seen h' (show g.length ≤ 1100000 by omega))
  have HI := Lib.hid fun (w : World) (b : Nat) (o : Option Addr) (c : Nat) (h : IntRow b w (.slice o f.length c) f) (b' : Nat) (o' : Option Addr) (c' : Nat) (h' : IntRow b' w (.slice o' g.length c') g) => implDM_any (row_seen h (show f.length ≤ 1100000 by omega)) (row_seen h' (show g.length ≤ 1100000 by omega))
  have hq : (dmQ f g).length ≤ 9 := dmQ_len f g
  have hr : (dmS f g).length ≤ 9 := dmS_len f g
  generalize (dmQ f g) = q at *
  generalize (dmS f g) = r at *
  generalize (dmC f g) = c at *
  have hnq : (0 : Int) ≤ (q.length : Int) := Int.natCast_nonneg _
  have hnr : (0 : Int) ≤ (r.length : Int) := Int.natCast_nonneg _
  have B0 := Lib.hid (Below.refl w.heap.size w)
  clear kf kg
  go_enter Try.func8, Try.ntmps8
  go_wp2_with fail
  refine (HT0.out _ (argInt_below HA0.out B0.out)).mono ?_
  rintro e W1 ⟨v1, rfl, r1, b1⟩
  obtain ⟨o1, c1, rfl⟩ := row_slice r1
  have B1 := Lib.hid (B0.out.trans (b1.mono B0.out.size))
  have R_sf_1 := Lib.hid r1
  clear r1 b1
  go_wp2_with fail
  refine (HT1.out _ (argInt_below HA1.out B1.out)).mono ?_
  rintro e W2 ⟨v2, rfl, r2, b2⟩
  obtain ⟨o2, c2, rfl⟩ := row_slice r2
  have B2 := Lib.hid (B1.out.trans (b2.mono B1.out.size))
  have R_sf_2 := Lib.hid (row_below R_sf_1.out b2 (Nat.le_refl _))
  have R_sg_2 := Lib.hid r2
  clear r2 b2
  go_wp2_with fail
  refine (HS.out _ _ _ _ R_sf_2.out _ _ _ R_sg_2.out).mono ?_
  rintro e W3 ⟨v3, u3, rfl, r3, t3, b3, ap3⟩
  have B3 := Lib.hid (B2.out.trans (b3.mono B2.out.size))
  have R_sf_3 := Lib.hid (row_below R_sf_2.out b3 (Nat.le_refl _))
  have R_sg_3 := Lib.hid (row_below R_sg_2.out b3 (Nat.le_refl _))
  have R_w0_3 := Lib.hid r3
  have R_w1_3 := Lib.hid t3
  have AP3 := Lib.hid ap3
  clear ap3
  clear r3 t3 b3
  go_wp2_with fail
  refine (HT0.out _ (argInt_below HA0.out B3.out)).mono ?_
  rintro e W4 ⟨v4, rfl, r4, b4⟩
  obtain ⟨o4, c4, rfl⟩ := row_slice r4
  have B4 := Lib.hid (B3.out.trans (b4.mono B3.out.size))
  have R_w0_4 := Lib.hid (row_below R_w0_3.out b4 (Nat.le_refl _))
  have R_w1_4 := Lib.hid (row_below R_w1_3.out b4 (Nat.le_refl _))
  have R_xf_4 := Lib.hid r4
  clear r4 b4
  go_wp2_with fail
  refine (HT1.out _ (argInt_below HA1.out B4.out)).mono ?_
  rintro e W5 ⟨v5, rfl, r5, b5⟩
  obtain ⟨o5, c5, rfl⟩ := row_slice r5
  have B5 := Lib.hid (B4.out.trans (b5.mono B4.out.size))
  have R_w0_5 := Lib.hid (row_below R_w0_4.out b5 (Nat.le_refl _))
  have R_w1_5 := Lib.hid (row_below R_w1_4.out b5 (Nat.le_refl _))
  have R_xf_5 := Lib.hid (row_below R_xf_4.out b5 (Nat.le_refl _))
  have R_xg_5 := Lib.hid r5
  clear r5 b5
  go_wp2_with fail
  refine (HI.out _ _ _ _ R_xf_5.out _ _ _ R_xg_5.out).mono ?_
  rintro e W6 ⟨v6, u6, rfl, r6, t6, b6, ap6⟩
  have B6 := Lib.hid (B5.out.trans (b6.mono B5.out.size))
  have R_w0_6 := Lib.hid (row_below R_w0_5.out b6 (Nat.le_refl _))
  have R_w1_6 := Lib.hid (row_below R_w1_5.out b6 (Nat.le_refl _))
  have R_xf_6 := Lib.hid (row_below R_xf_5.out b6 (Nat.le_refl _))
  have R_xg_6 := Lib.hid (row_below R_xg_5.out b6 (Nat.le_refl _))
  have R_g0_6 := Lib.hid r6
  have R_g1_6 := Lib.hid t6
  have AP6 := Lib.hid ap6
  clear ap6
  clear r6 t6 b6
  go_wp2_with fail
  refine (eqInt_same R_g0_6.out R_w0_6.out (by omega)).mono ?_
  rintro e W7 ⟨rfl, nd, hw⟩
  have b7 : Below W6.heap.size W6 W7 := by rw [hw]; exact below_drewN (Below.refl _ _) nd
  clear hw nd
  have B7 := Lib.hid (B6.out.trans (b7.mono B6.out.size))
  have R_w0_7 := Lib.hid (row_below R_w0_6.out b7 (Nat.le_refl _))
  have R_w1_7 := Lib.hid (row_below R_w1_6.out b7 (Nat.le_refl _))
  have R_xf_7 := Lib.hid (row_below R_xf_6.out b7 (Nat.le_refl _))
  have R_xg_7 := Lib.hid (row_below R_xg_6.out b7 (Nat.le_refl _))
  have R_g0_7 := Lib.hid (row_below R_g0_6.out b7 (Nat.le_refl _))
  have R_g1_7 := Lib.hid (row_below R_g1_6.out b7 (Nat.le_refl _))
  clear b7
  go_wp2_with fail
  refine (eqInt_same R_g1_7.out R_w1_7.out (by omega)).mono ?_
  rintro e W8 ⟨rfl, nd, hw⟩
  have b8 : Below W7.heap.size W7 W8 := by rw [hw]; exact below_drewN (Below.refl _ _) nd
  clear hw nd
  have B8 := Lib.hid (B7.out.trans (b8.mono B7.out.size))
  have R_w0_8 := Lib.hid (row_below R_w0_7.out b8 (Nat.le_refl _))
  have R_w1_8 := Lib.hid (row_below R_w1_7.out b8 (Nat.le_refl _))
  have R_xf_8 := Lib.hid (row_below R_xf_7.out b8 (Nat.le_refl _))
  have R_xg_8 := Lib.hid (row_below R_xg_7.out b8 (Nat.le_refl _))
  have R_g0_8 := Lib.hid (row_below R_g0_7.out b8 (Nat.le_refl _))
  have R_g1_8 := Lib.hid (row_below R_g1_7.out b8 (Nat.le_refl _))
  clear b8
  go_wp2_with fail
  refine (HT0.out _ (argInt_below HA0.out B8.out)).mono ?_
  rintro e W9 ⟨v9, rfl, r9, b9⟩
  obtain ⟨o9, c9, rfl⟩ := row_slice r9
  have B9 := Lib.hid (B8.out.trans (b9.mono B8.out.size))
  have R_w0_9 := Lib.hid (row_below R_w0_8.out b9 (Nat.le_refl _))
  have R_w1_9 := Lib.hid (row_below R_w1_8.out b9 (Nat.le_refl _))
  have R_xf_9 := Lib.hid (row_below R_xf_8.out b9 (Nat.le_refl _))
  have R_xg_9 := Lib.hid (row_below R_xg_8.out b9 (Nat.le_refl _))
  have R_g0_9 := Lib.hid (row_below R_g0_8.out b9 (Nat.le_refl _))
  have R_g1_9 := Lib.hid (row_below R_g1_8.out b9 (Nat.le_refl _))
  have R_tf_9 := Lib.hid r9
  clear r9 b9
  go_wp2_with fail
  refine (eqInt_same R_xf_9.out R_tf_9.out (by omega)).mono ?_
  rintro e W10 ⟨rfl, nd, hw⟩
  have b10 : Below W9.heap.size W9 W10 := by rw [hw]; exact below_drewN (Below.refl _ _) nd
  clear hw nd
  have B10 := Lib.hid (B9.out.trans (b10.mono B9.out.size))
  have R_w0_10 := Lib.hid (row_below R_w0_9.out b10 (Nat.le_refl _))
  have R_w1_10 := Lib.hid (row_below R_w1_9.out b10 (Nat.le_refl _))
  have R_xf_10 := Lib.hid (row_below R_xf_9.out b10 (Nat.le_refl _))
  have R_xg_10 := Lib.hid (row_below R_xg_9.out b10 (Nat.le_refl _))
  have R_g0_10 := Lib.hid (row_below R_g0_9.out b10 (Nat.le_refl _))
  have R_g1_10 := Lib.hid (row_below R_g1_9.out b10 (Nat.le_refl _))
  have R_tf_10 := Lib.hid (row_below R_tf_9.out b10 (Nat.le_refl _))
  clear b10
  go_wp2_with fail
  refine (HT1.out _ (argInt_below HA1.out B10.out)).mono ?_
  rintro e W11 ⟨v11, rfl, r11, b11⟩
  obtain ⟨o11, c11, rfl⟩ := row_slice r11
  have B11 := Lib.hid (B10.out.trans (b11.mono B10.out.size))
  have R_w0_11 := Lib.hid (row_below R_w0_10.out b11 (Nat.le_refl _))
  have R_w1_11 := Lib.hid (row_below R_w1_10.out b11 (Nat.le_refl _))
  have R_xf_11 := Lib.hid (row_below R_xf_10.out b11 (Nat.le_refl _))
  have R_xg_11 := Lib.hid (row_below R_xg_10.out b11 (Nat.le_refl _))
  have R_g0_11 := Lib.hid (row_below R_g0_10.out b11 (Nat.le_refl _))
  have R_g1_11 := Lib.hid (row_below R_g1_10.out b11 (Nat.le_refl _))
  have R_tg_11 := Lib.hid r11
  clear r11 b11
  go_wp2_with fail
  refine (eqInt_same R_xg_11.out R_tg_11.out (by omega)).mono ?_
  rintro e W12 ⟨rfl, nd, hw⟩
  have b12 : Below W11.heap.size W11 W12 := by rw [hw]; exact below_drewN (Below.refl _ _) nd
  clear hw nd
  have B12 := Lib.hid (B11.out.trans (b12.mono B11.out.size))
  have R_w0_12 := Lib.hid (row_below R_w0_11.out b12 (Nat.le_refl _))
  have R_w1_12 := Lib.hid (row_below R_w1_11.out b12 (Nat.le_refl _))
  have R_xf_12 := Lib.hid (row_below R_xf_11.out b12 (Nat.le_refl _))
  have R_xg_12 := Lib.hid (row_below R_xg_11.out b12 (Nat.le_refl _))
  have R_g0_12 := Lib.hid (row_below R_g0_11.out b12 (Nat.le_refl _))
  have R_g1_12 := Lib.hid (row_below R_g1_11.out b12 (Nat.le_refl _))
  have R_tg_12 := Lib.hid (row_below R_tg_11.out b12 (Nat.le_refl _))
  clear b12
  go_wp2_with fail
  refine (markInt R_xf_12.out (by omega) (by omega) (by omega)).mono ?_
  rintro e W13 ⟨rfl, m13, g13⟩
  have B13 := Lib.hid (below_grown B12.out R_xf_12.out g13 B3.out.size B12.out.size)
  have R_w0_13 := Lib.hid (row_apart R_w0_12.out R_xf_12.out R_w0_3.out (Nat.le_refl _) g13)
  have R_w1_13 := Lib.hid (row_apart R_w1_12.out R_xf_12.out R_w1_3.out (Nat.le_refl _) g13)
  have R_xg_13 := Lib.hid (row_apart2 R_xg_12.out R_xf_4.out (Nat.le_refl _) g13)
  have R_g0_13 := Lib.hid (row_apart2 R_g0_12.out R_xf_5.out (Nat.le_refl _) g13)
  have R_g1_13 := Lib.hid (row_apart2 R_g1_12.out R_xf_5.out (Nat.le_refl _) g13)
  have M_xf_13 := Lib.hid m13
  clear m13 g13
  go_wp2_with fail
  refine (markInt R_xg_13.out (by omega) (by omega) (by omega)).mono ?_
  rintro e W14 ⟨rfl, m14, g14⟩
  have B14 := Lib.hid (below_grown B13.out R_xg_13.out g14 B4.out.size B13.out.size)
  have R_w0_14 := Lib.hid (row_apart R_w0_13.out R_xg_13.out R_w0_4.out (Nat.le_refl _) g14)
  have R_w1_14 := Lib.hid (row_apart R_w1_13.out R_xg_13.out R_w1_4.out (Nat.le_refl _) g14)
  have R_g0_14 := Lib.hid (row_apart2 R_g0_13.out R_xg_5.out (Nat.le_refl _) g14)
  have R_g1_14 := Lib.hid (row_apart2 R_g1_13.out R_xg_5.out (Nat.le_refl _) g14)
  have M_xg_14 := Lib.hid m14
  clear m14 g14
  have hk0 : ¬ ((1 : Int) + (f.length : Int) + (g.length : Int) < 0) := by omega
  go_wp2_with fail
  refine (eqInt_same R_g0_14.out R_w0_14.out (by omega)).mono ?_
  rintro e W15 ⟨rfl, nd, hw⟩
  have b15 : Below W14.heap.size W14 W15 := by rw [hw]; exact below_drewN (Below.refl _ _) nd
  clear hw nd
  have B15 := Lib.hid (B14.out.trans (b15.mono B14.out.size))
  have R_w0_15 := Lib.hid (row_below R_w0_14.out b15 (Nat.le_refl _))
  have R_w1_15 := Lib.hid (row_below R_w1_14.out b15 (Nat.le_refl _))
  have R_g0_15 := Lib.hid (row_below R_g0_14.out b15 (Nat.le_refl _))
  have R_g1_15 := Lib.hid (row_below R_g1_14.out b15 (Nat.le_refl _))
  clear b15
  go_wp2_with fail
  refine (eqInt_same R_g1_15.out R_w1_15.out (by omega)).mono ?_
  rintro e W16 ⟨rfl, nd, hw⟩
  have b16 : Below W15.heap.size W15 W16 := by rw [hw]; exact below_drewN (Below.refl _ _) nd
  clear hw nd
  have B16 := Lib.hid (B15.out.trans (b16.mono B15.out.size))
  have R_w0_16 := Lib.hid (row_below R_w0_15.out b16 (Nat.le_refl _))
  have R_w1_16 := Lib.hid (row_below R_w1_15.out b16 (Nat.le_refl _))
  have R_g0_16 := Lib.hid (row_below R_g0_15.out b16 (Nat.le_refl _))
  have R_g1_16 := Lib.hid (row_below R_g1_15.out b16 (Nat.le_refl _))
  clear b16
  have hk1 : ¬ ((1 : Int) + (q.length : Int) < 0) := by omega
  have hk2 : ¬ ((1 : Int) + (q.length : Int) + (r.length : Int) < 0) := by omega
  go_wp2_with fail
  refine (markInt R_g0_16.out (by omega) (by omega) (by omega)).mono ?_
  rintro e W17 ⟨rfl, m17, g17⟩
  have B17 := Lib.hid (below_grown B16.out R_g0_16.out g17 B5.out.size B16.out.size)
  have R_w0_17 := Lib.hid (row_apart R_w0_16.out R_g0_16.out R_w0_5.out (Nat.le_refl _) g17)
  have R_w1_17 := Lib.hid (row_apart R_w1_16.out R_g0_16.out R_w1_5.out (Nat.le_refl _) g17)
  have M_g0_17 := Lib.hid m17
  have R_g1_17 := Lib.hid (pair_kept R_g1_16.out g17 AP6.out)
  clear m17 g17
  go_wp2_with fail
  refine (markInt R_g1_17.out (by omega) (by omega) (by omega)).mono ?_
  rintro e W18 ⟨rfl, m18, g18⟩
  have B18 := Lib.hid (below_grown B17.out R_g1_17.out g18 B5.out.size B17.out.size)
  have R_w0_18 := Lib.hid (row_apart R_w0_17.out R_g1_17.out R_w0_5.out (Nat.le_refl _) g18)
  have R_w1_18 := Lib.hid (row_apart R_w1_17.out R_g1_17.out R_w1_5.out (Nat.le_refl _) g18)
  have M_g1_18 := Lib.hid m18
  have M_g0_18 := Lib.hid (marked_apart M_g0_17.out g18 AP6.out)
  clear m18 g18
  go_wp2_with fail
  refine (heldInt M_g0_18.out (by omega) (by omega) (by omega)).mono ?_
  rintro e W19 ⟨rfl, nd, hw⟩
  have b19 : Below W18.heap.size W18 W19 := by rw [hw]; exact below_drewN (Below.refl _ _) nd
  clear hw nd
  have B19 := Lib.hid (B18.out.trans (b19.mono B18.out.size))
  have R_w0_19 := Lib.hid (row_below R_w0_18.out b19 (Nat.le_refl _))
  have R_w1_19 := Lib.hid (row_below R_w1_18.out b19 (Nat.le_refl _))
  have M_g1_19 := Lib.hid (marked_below M_g1_18.out b19 (Nat.le_refl _))
  have M_g0_19 := Lib.hid (marked_below M_g0_18.out b19 (Nat.le_refl _))
  clear b19
  go_wp2_with fail
  refine (heldInt M_g1_19.out (by omega) (by omega) (by omega)).mono ?_
  rintro e W20 ⟨rfl, nd, hw⟩
  have b20 : Below W19.heap.size W19 W20 := by rw [hw]; exact below_drewN (Below.refl _ _) nd
  clear hw nd
  have B20 := Lib.hid (B19.out.trans (b20.mono B19.out.size))
  have R_w0_20 := Lib.hid (row_below R_w0_19.out b20 (Nat.le_refl _))
  have R_w1_20 := Lib.hid (row_below R_w1_19.out b20 (Nat.le_refl _))
  have M_g1_20 := Lib.hid (marked_below M_g1_19.out b20 (Nat.le_refl _))
  have M_g0_20 := Lib.hid (marked_below M_g0_19.out b20 (Nat.le_refl _))
  clear b20
  go_wp2_with fail
  refine (HT0.out _ (argInt_below HA0.out B20.out)).mono ?_
  rintro e W21 ⟨v21, rfl, r21, b21⟩
  obtain ⟨o21, c21, rfl⟩ := row_slice r21
  have B21 := Lib.hid (B20.out.trans (b21.mono B20.out.size))
  have R_w0_21 := Lib.hid (row_below R_w0_20.out b21 (Nat.le_refl _))
  have R_w1_21 := Lib.hid (row_below R_w1_20.out b21 (Nat.le_refl _))
  have M_g1_21 := Lib.hid (marked_below M_g1_20.out b21 (Nat.le_refl _))
  have M_g0_21 := Lib.hid (marked_below M_g0_20.out b21 (Nat.le_refl _))
  have R_yf_21 := Lib.hid r21
  clear r21 b21
  go_wp2_with fail
  refine (HT1.out _ (argInt_below HA1.out B21.out)).mono ?_
  rintro e W22 ⟨v22, rfl, r22, b22⟩
  obtain ⟨o22, c22, rfl⟩ := row_slice r22
  have B22 := Lib.hid (B21.out.trans (b22.mono B21.out.size))
  have R_w0_22 := Lib.hid (row_below R_w0_21.out b22 (Nat.le_refl _))
  have R_w1_22 := Lib.hid (row_below R_w1_21.out b22 (Nat.le_refl _))
  have R_yf_22 := Lib.hid (row_below R_yf_21.out b22 (Nat.le_refl _))
  have M_g1_22 := Lib.hid (marked_below M_g1_21.out b22 (Nat.le_refl _))
  have M_g0_22 := Lib.hid (marked_below M_g0_21.out b22 (Nat.le_refl _))
  have R_yg_22 := Lib.hid r22
  clear r22 b22
  go_wp2_with fail
  refine (HI.out _ _ _ _ R_yf_22.out _ _ _ R_yg_22.out).mono ?_
  rintro e W23 ⟨v23, u23, rfl, r23, t23, b23, ap23⟩
  have B23 := Lib.hid (B22.out.trans (b23.mono B22.out.size))
  have R_w0_23 := Lib.hid (row_below R_w0_22.out b23 (Nat.le_refl _))
  have R_w1_23 := Lib.hid (row_below R_w1_22.out b23 (Nat.le_refl _))
  have R_yf_23 := Lib.hid (row_below R_yf_22.out b23 (Nat.le_refl _))
  have R_yg_23 := Lib.hid (row_below R_yg_22.out b23 (Nat.le_refl _))
  have M_g1_23 := Lib.hid (marked_below M_g1_22.out b23 (Nat.le_refl _))
  have M_g0_23 := Lib.hid (marked_below M_g0_22.out b23 (Nat.le_refl _))
  have R_h0_23 := Lib.hid r23
  have R_h1_23 := Lib.hid t23
  have AP23 := Lib.hid ap23
  clear ap23
  clear r23 t23 b23
  go_wp2_with fail
  refine (eqInt_same R_h0_23.out R_w0_23.out (by omega)).mono ?_
  rintro e W24 ⟨rfl, nd, hw⟩
  have b24 : Below W23.heap.size W23 W24 := by rw [hw]; exact below_drewN (Below.refl _ _) nd
  clear hw nd
  have B24 := Lib.hid (B23.out.trans (b24.mono B23.out.size))
  have R_w0_24 := Lib.hid (row_below R_w0_23.out b24 (Nat.le_refl _))
  have R_w1_24 := Lib.hid (row_below R_w1_23.out b24 (Nat.le_refl _))
  have R_h0_24 := Lib.hid (row_below R_h0_23.out b24 (Nat.le_refl _))
  have R_h1_24 := Lib.hid (row_below R_h1_23.out b24 (Nat.le_refl _))
  have M_g1_24 := Lib.hid (marked_below M_g1_23.out b24 (Nat.le_refl _))
  have M_g0_24 := Lib.hid (marked_below M_g0_23.out b24 (Nat.le_refl _))
  clear b24
  go_wp2_with fail
  refine (eqInt_same R_h1_24.out R_w1_24.out (by omega)).mono ?_
  rintro e W25 ⟨rfl, nd, hw⟩
  have b25 : Below W24.heap.size W24 W25 := by rw [hw]; exact below_drewN (Below.refl _ _) nd
  clear hw nd
  have B25 := Lib.hid (B24.out.trans (b25.mono B24.out.size))
  have R_w0_25 := Lib.hid (row_below R_w0_24.out b25 (Nat.le_refl _))
  have R_w1_25 := Lib.hid (row_below R_w1_24.out b25 (Nat.le_refl _))
  have R_h0_25 := Lib.hid (row_below R_h0_24.out b25 (Nat.le_refl _))
  have R_h1_25 := Lib.hid (row_below R_h1_24.out b25 (Nat.le_refl _))
  have M_g1_25 := Lib.hid (marked_below M_g1_24.out b25 (Nat.le_refl _))
  have M_g0_25 := Lib.hid (marked_below M_g0_24.out b25 (Nat.le_refl _))
  clear b25
  go_wp2_with fail
  refine (heldInt M_g0_25.out (by omega) (by omega) (by omega)).mono ?_
  rintro e W26 ⟨rfl, nd, hw⟩
  have b26 : Below W25.heap.size W25 W26 := by rw [hw]; exact below_drewN (Below.refl _ _) nd
  clear hw nd
  have B26 := Lib.hid (B25.out.trans (b26.mono B25.out.size))
  have R_w0_26 := Lib.hid (row_below R_w0_25.out b26 (Nat.le_refl _))
  have R_w1_26 := Lib.hid (row_below R_w1_25.out b26 (Nat.le_refl _))
  have R_h0_26 := Lib.hid (row_below R_h0_25.out b26 (Nat.le_refl _))
  have R_h1_26 := Lib.hid (row_below R_h1_25.out b26 (Nat.le_refl _))
  have M_g1_26 := Lib.hid (marked_below M_g1_25.out b26 (Nat.le_refl _))
  have M_g0_26 := Lib.hid (marked_below M_g0_25.out b26 (Nat.le_refl _))
  clear b26
  go_wp2_with fail
  refine (heldInt M_g1_26.out (by omega) (by omega) (by omega)).mono ?_
  rintro e W27 ⟨rfl, nd, hw⟩
  have b27 : Below W26.heap.size W26 W27 := by rw [hw]; exact below_drewN (Below.refl _ _) nd
  clear hw nd
  have B27 := Lib.hid (B26.out.trans (b27.mono B26.out.size))
  have R_w0_27 := Lib.hid (row_below R_w0_26.out b27 (Nat.le_refl _))
  have R_w1_27 := Lib.hid (row_below R_w1_26.out b27 (Nat.le_refl _))
  have R_h0_27 := Lib.hid (row_below R_h0_26.out b27 (Nat.le_refl _))
  have R_h1_27 := Lib.hid (row_below R_h1_26.out b27 (Nat.le_refl _))
  have M_g1_27 := Lib.hid (marked_below M_g1_26.out b27 (Nat.le_refl _))
  have M_g0_27 := Lib.hid (marked_below M_g0_26.out b27 (Nat.le_refl _))
  clear b27
  go_wp2_with fail
  go_ret
  exact ⟨rfl, B27.out⟩
theorem exactDM_walk (af : Option Addr) (lenf capf : Nat) (zf : List Int) (ag : Option Addr) (leng capg : Nat) (zg : List Int) (w : World) (hf : (af = none ∧ lenf = 0 ∧ capf = 0 ∧ zf = []) ∨ ∃ x, af = some x ∧ lenf ≤ capf ∧ capf ≤ maxLen ∧ zf.length = capf ∧ (∀ i, i < zf.length → w.cell? (x.add i) = some (.int .i64 (zf.getD i 0))) ∧ ∀ n ∈ zf, (Lit.int .i64 n).wf = true) (hg : (ag = none ∧ leng = 0 ∧ capg = 0 ∧ zg = []) ∨ ∃ x, ag = some x ∧ leng ≤ capg ∧ capg ≤ maxLen ∧ zg.length = capg ∧ (∀ i, i < zg.length → w.cell? (x.add i) = some (.int .i64 (zg.getD i 0))) ∧ ∀ n ∈ zg, (Lit.int .i64 n).wf = true) :
    Calls Try.prog 8 #[.slice af lenf capf, .slice ag leng capg] w fun e w' => e = .returned (.bool true) ∧ Below w.heap.size w w' := by
  have mf := len_of_row hf
  have mg := len_of_row hg
  obtain ⟨lf, ef, kf⟩ := arg_of_row hf
  obtain ⟨lg, eg, kg⟩ := arg_of_row hg
  clear hf hg
  by_cases qf : lenf ≤ 1048576
  · by_cases qg : leng ≤ 1048576
    · subst ef eg
      exact exactDM_core af capf lf ag capg lg w qf kf qg kg
    · clear kf ef kg eg
      go_enter Try.func8, Try.ntmps8
      go_wp2
      go_ret
      exact ⟨rfl, Below.refl _ _⟩
  · clear kf ef kg eg
    go_enter Try.func8, Try.ntmps8
    go_wp2
    go_ret
    exact ⟨rfl, Below.refl _ _⟩
end Go.Proofs.Ytbolmmgkmgmfeaa
