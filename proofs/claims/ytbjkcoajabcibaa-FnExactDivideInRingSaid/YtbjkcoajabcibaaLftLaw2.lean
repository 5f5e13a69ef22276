/- Walks of exact laws of chapter 12: DivideInRing; true at every input. -/
import Derived.Test.YtbjkcoajabcibaaLftLaw0
namespace Go.Proofs.Ytbjkcoajabcibaa
open Go.RowKit
set_option linter.unusedVariables false
set_option linter.unusedSimpArgs false
set_option maxRecDepth 20000
set_option maxRecDepth 20000 in
set_option maxHeartbeats 2000000 in
theorem exactDivRng_core (p n : Int) (af : Option Addr) (capf : Nat) (f : List Int) (ag : Option Addr) (capg : Nat) (g : List Int) (w : World) (hf : f.length ≤ 1048576) (kf : ArgInt w af f) (hg : g.length ≤ 1048576) (kg : ArgInt w ag g) :
    Calls Try.prog 8 #[.agg #[.int .i64 p, .int .i64 n], .slice af f.length capf, .slice ag g.length capg] w fun e w' => e = .returned (.bool true) ∧ Below w.heap.size w w' := by
  obtain ⟨wR, hwR⟩ : ∃ wR, w.alloc (.cells #[.int .i64 p, .int .i64 n] 53) = wR := ⟨_, rfl⟩
  have HBR := Lib.hid (show Below w.heap.size w wR by rw [← hwR]; exact (Below.refl _ _).alloc (Nat.le_refl _) _)
  have HR0 := Lib.hid (show wR.cell? ⟨w.heap.size, 0, none⟩ = some (.int .i64 p) by rw [← hwR]; exact World.cell?_alloc_new _ _ _ _ ▸ rfl)
  have HR1 := Lib.hid (show wR.cell? ⟨w.heap.size, 1, none⟩ = some (.int .i64 n) by rw [← hwR]; exact World.cell?_alloc_new _ _ _ _ ▸ rfl)
  have HRL := Lib.hid (show w.heap.size < wR.heap.size by rw [← hwR]; simp)
  have HA0 := Lib.hid (argInt_below kf HBR.out)
  have HT0 := Lib.hid fun (w : World) (h : ArgInt w af f) => toInt64S_any af capf f w hf h
  have hnf : (0 : Int) ≤ (f.length : Int) := Int.natCast_nonneg _
  have HA1 := Lib.hid (argInt_below kg HBR.out)
  have HT1 := Lib.hid fun (w : World) (h : ArgInt w ag g) => toInt64S_any ag capg g w hg h
  have hng : (0 : Int) ≤ (g.length : Int) := Int.natCast_nonneg _
  have HS := Lib.hid fun (w : World) (b : Nat) (o : Option Addr) (c : Nat) (h : IntRow b w (.slice o f.length c) f) (b' : Nat) (o' : Option Addr) (c' : Nat) (h' : IntRow b' w (.slice o' g.length c') g) => specDivRng_any p n (row_seen h (show f.length ≤ 1100000 by omega)) (row_seen h' (show g.length ≤ 1100000 by omega))
  have HI := Lib.hid fun (w : World) (b : Nat) (o : Option Addr) (c : Nat) (h : IntRow b w (.slice o f.length c) f) (b' : Nat) (o' : Option Addr) (c' : Nat) (h' : IntRow b' w (.slice o' g.length c') g) => implDivRng_any p n (row_seen h (show f.length ≤ 1100000 by omega)) (row_seen h' (show g.length ≤ 1100000 by omega))
  have hq : (dirQ p n f g).length ≤ 1000 := dirQ_len p n f g
  have hr : (dirR p n f g).length ≤ 1000 := dirR_len p n f g
  generalize (dirQ p n f g) = q at *
  generalize (dirR p n f g) = r at *
  generalize (dirC p n f g) = c at *
  have hnq : (0 : Int) ≤ (q.length : Int) := Int.natCast_nonneg _
  have hnr : (0 : Int) ≤ (r.length : Int) := Int.natCast_nonneg _
  have B0 := Lib.hid (Below.refl wR.heap.size wR)
  clear kf kg
  go_enter Try.func8, Try.ntmps8
  have hr0 := (B0.out.cell (p := ⟨w.heap.size, 0, none⟩) HRL.out).trans HR0.out
  have hr1 := (B0.out.cell (p := ⟨w.heap.size, 1, none⟩) HRL.out).trans HR1.out
  go_wp2_with fail
  refine (toRing_any p n _).mono ?_
  rintro e W1 ⟨rfl, b1⟩
  clear hr0 hr1
  have B1 := Lib.hid (B0.out.trans (b1.mono B0.out.size))
  clear b1
  go_wp2_with fail
  refine (HT0.out _ (argInt_below HA0.out B1.out)).mono ?_
  rintro e W2 ⟨v2, rfl, r2, b2⟩
  obtain ⟨o2, c2, rfl⟩ := row_slice r2
  have B2 := Lib.hid (B1.out.trans (b2.mono B1.out.size))
  have R_sf_2 := Lib.hid r2
  clear r2 b2
  go_wp2_with fail
  refine (HT1.out _ (argInt_below HA1.out B2.out)).mono ?_
  rintro e W3 ⟨v3, rfl, r3, b3⟩
  obtain ⟨o3, c3, rfl⟩ := row_slice r3
  have B3 := Lib.hid (B2.out.trans (b3.mono B2.out.size))
  have R_sf_3 := Lib.hid (row_below R_sf_2.out b3 (Nat.le_refl _))
  have R_sg_3 := Lib.hid r3
  clear r3 b3
  go_wp2_with fail
  refine (HS.out _ _ _ _ R_sf_3.out _ _ _ R_sg_3.out).mono ?_
  rintro e W4 ⟨v4, u4, rfl, r4, t4, b4, ap4⟩
  have B4 := Lib.hid (B3.out.trans (b4.mono B3.out.size))
  have R_sf_4 := Lib.hid (row_below R_sf_3.out b4 (Nat.le_refl _))
  have R_sg_4 := Lib.hid (row_below R_sg_3.out b4 (Nat.le_refl _))
  have R_w0_4 := Lib.hid r4
  have R_w1_4 := Lib.hid t4
  have AP4 := Lib.hid ap4
  clear ap4
  clear r4 t4 b4
  go_wp2_with fail
  refine (HT0.out _ (argInt_below HA0.out B4.out)).mono ?_
  rintro e W5 ⟨v5, rfl, r5, b5⟩
  obtain ⟨o5, c5, rfl⟩ := row_slice r5
  have B5 := Lib.hid (B4.out.trans (b5.mono B4.out.size))
  have R_w0_5 := Lib.hid (row_below R_w0_4.out b5 (Nat.le_refl _))
  have R_w1_5 := Lib.hid (row_below R_w1_4.out b5 (Nat.le_refl _))
  have R_xf_5 := Lib.hid r5
  clear r5 b5
  go_wp2_with fail
  refine (HT1.out _ (argInt_below HA1.out B5.out)).mono ?_
  rintro e W6 ⟨v6, rfl, r6, b6⟩
  obtain ⟨o6, c6, rfl⟩ := row_slice r6
  have B6 := Lib.hid (B5.out.trans (b6.mono B5.out.size))
  have R_w0_6 := Lib.hid (row_below R_w0_5.out b6 (Nat.le_refl _))
  have R_w1_6 := Lib.hid (row_below R_w1_5.out b6 (Nat.le_refl _))
  have R_xf_6 := Lib.hid (row_below R_xf_5.out b6 (Nat.le_refl _))
  have R_xg_6 := Lib.hid r6
  clear r6 b6
  have hr0 := (B6.out.cell (p := ⟨w.heap.size, 0, none⟩) HRL.out).trans HR0.out
  have hr1 := (B6.out.cell (p := ⟨w.heap.size, 1, none⟩) HRL.out).trans HR1.out
  go_wp2_with fail
  refine (toRing_any p n _).mono ?_
  rintro e W7 ⟨rfl, b7⟩
  clear hr0 hr1
  have B7 := Lib.hid (B6.out.trans (b7.mono B6.out.size))
  have R_w0_7 := Lib.hid (row_below R_w0_6.out b7 (Nat.le_refl _))
  have R_w1_7 := Lib.hid (row_below R_w1_6.out b7 (Nat.le_refl _))
  have R_xf_7 := Lib.hid (row_below R_xf_6.out b7 (Nat.le_refl _))
  have R_xg_7 := Lib.hid (row_below R_xg_6.out b7 (Nat.le_refl _))
  clear b7
  go_wp2_with fail
  refine (HI.out _ _ _ _ R_xf_7.out _ _ _ R_xg_7.out).mono ?_
  rintro e W8 ⟨v8, u8, rfl, r8, t8, b8, ap8⟩
  have B8 := Lib.hid (B7.out.trans (b8.mono B7.out.size))
  have R_w0_8 := Lib.hid (row_below R_w0_7.out b8 (Nat.le_refl _))
  have R_w1_8 := Lib.hid (row_below R_w1_7.out b8 (Nat.le_refl _))
  have R_xf_8 := Lib.hid (row_below R_xf_7.out b8 (Nat.le_refl _))
  have R_xg_8 := Lib.hid (row_below R_xg_7.out b8 (Nat.le_refl _))
  have R_g0_8 := Lib.hid r8
  have R_g1_8 := Lib.hid t8
  have AP8 := Lib.hid ap8
  clear ap8
  clear r8 t8 b8
  go_wp2_with fail
  refine (eqInt_same R_g0_8.out R_w0_8.out (by omega)).mono ?_
  rintro e W9 ⟨rfl, nd, hw⟩
  have b9 : Below W8.heap.size W8 W9 := by rw [hw]; exact below_drewN (Below.refl _ _) nd
  clear hw nd
  have B9 := Lib.hid (B8.out.trans (b9.mono B8.out.size))
  have R_w0_9 := Lib.hid (row_below R_w0_8.out b9 (Nat.le_refl _))
  have R_w1_9 := Lib.hid (row_below R_w1_8.out b9 (Nat.le_refl _))
  have R_xf_9 := Lib.hid (row_below R_xf_8.out b9 (Nat.le_refl _))
  have R_xg_9 := Lib.hid (row_below R_xg_8.out b9 (Nat.le_refl _))
  have R_g0_9 := Lib.hid (row_below R_g0_8.out b9 (Nat.le_refl _))
  have R_g1_9 := Lib.hid (row_below R_g1_8.out b9 (Nat.le_refl _))
  clear b9
  go_wp2_with fail
  refine (eqInt_same R_g1_9.out R_w1_9.out (by omega)).mono ?_
  rintro e W10 ⟨rfl, nd, hw⟩
  have b10 : Below W9.heap.size W9 W10 := by rw [hw]; exact below_drewN (Below.refl _ _) nd
  clear hw nd
  have B10 := Lib.hid (B9.out.trans (b10.mono B9.out.size))
  have R_w0_10 := Lib.hid (row_below R_w0_9.out b10 (Nat.le_refl _))
  have R_w1_10 := Lib.hid (row_below R_w1_9.out b10 (Nat.le_refl _))
  have R_xf_10 := Lib.hid (row_below R_xf_9.out b10 (Nat.le_refl _))
  have R_xg_10 := Lib.hid (row_below R_xg_9.out b10 (Nat.le_refl _))
  have R_g0_10 := Lib.hid (row_below R_g0_9.out b10 (Nat.le_refl _))
  have R_g1_10 := Lib.hid (row_below R_g1_9.out b10 (Nat.le_refl _))
  clear b10
  go_wp2_with fail
  refine (HT0.out _ (argInt_below HA0.out B10.out)).mono ?_
  rintro e W11 ⟨v11, rfl, r11, b11⟩
  obtain ⟨o11, c11, rfl⟩ := row_slice r11
  have B11 := Lib.hid (B10.out.trans (b11.mono B10.out.size))
  have R_w0_11 := Lib.hid (row_below R_w0_10.out b11 (Nat.le_refl _))
  have R_w1_11 := Lib.hid (row_below R_w1_10.out b11 (Nat.le_refl _))
  have R_xf_11 := Lib.hid (row_below R_xf_10.out b11 (Nat.le_refl _))
  have R_xg_11 := Lib.hid (row_below R_xg_10.out b11 (Nat.le_refl _))
  have R_g0_11 := Lib.hid (row_below R_g0_10.out b11 (Nat.le_refl _))
  have R_g1_11 := Lib.hid (row_below R_g1_10.out b11 (Nat.le_refl _))
  have R_tf_11 := Lib.hid r11
  clear r11 b11
  go_wp2_with fail
  refine (eqInt_same R_xf_11.out R_tf_11.out (by omega)).mono ?_
  rintro e W12 ⟨rfl, nd, hw⟩
  have b12 : Below W11.heap.size W11 W12 := by rw [hw]; exact below_drewN (Below.refl _ _) nd
  clear hw nd
  have B12 := Lib.hid (B11.out.trans (b12.mono B11.out.size))
  have R_w0_12 := Lib.hid (row_below R_w0_11.out b12 (Nat.le_refl _))
  have R_w1_12 := Lib.hid (row_below R_w1_11.out b12 (Nat.le_refl _))
  have R_xf_12 := Lib.hid (row_below R_xf_11.out b12 (Nat.le_refl _))
  have R_xg_12 := Lib.hid (row_below R_xg_11.out b12 (Nat.le_refl _))
  have R_g0_12 := Lib.hid (row_below R_g0_11.out b12 (Nat.le_refl _))
  have R_g1_12 := Lib.hid (row_below R_g1_11.out b12 (Nat.le_refl _))
  have R_tf_12 := Lib.hid (row_below R_tf_11.out b12 (Nat.le_refl _))
  clear b12
  go_wp2_with fail
  refine (HT1.out _ (argInt_below HA1.out B12.out)).mono ?_
  rintro e W13 ⟨v13, rfl, r13, b13⟩
  obtain ⟨o13, c13, rfl⟩ := row_slice r13
  have B13 := Lib.hid (B12.out.trans (b13.mono B12.out.size))
  have R_w0_13 := Lib.hid (row_below R_w0_12.out b13 (Nat.le_refl _))
  have R_w1_13 := Lib.hid (row_below R_w1_12.out b13 (Nat.le_refl _))
  have R_xf_13 := Lib.hid (row_below R_xf_12.out b13 (Nat.le_refl _))
  have R_xg_13 := Lib.hid (row_below R_xg_12.out b13 (Nat.le_refl _))
  have R_g0_13 := Lib.hid (row_below R_g0_12.out b13 (Nat.le_refl _))
  have R_g1_13 := Lib.hid (row_below R_g1_12.out b13 (Nat.le_refl _))
  have R_tg_13 := Lib.hid r13
  clear r13 b13
  go_wp2_with fail
  refine (eqInt_same R_xg_13.out R_tg_13.out (by omega)).mono ?_
  rintro e W14 ⟨rfl, nd, hw⟩
  have b14 : Below W13.heap.size W13 W14 := by rw [hw]; exact below_drewN (Below.refl _ _) nd
  clear hw nd
  have B14 := Lib.hid (B13.out.trans (b14.mono B13.out.size))
  have R_w0_14 := Lib.hid (row_below R_w0_13.out b14 (Nat.le_refl _))
  have R_w1_14 := Lib.hid (row_below R_w1_13.out b14 (Nat.le_refl _))
  have R_xf_14 := Lib.hid (row_below R_xf_13.out b14 (Nat.le_refl _))
  have R_xg_14 := Lib.hid (row_below R_xg_13.out b14 (Nat.le_refl _))
  have R_g0_14 := Lib.hid (row_below R_g0_13.out b14 (Nat.le_refl _))
  have R_g1_14 := Lib.hid (row_below R_g1_13.out b14 (Nat.le_refl _))
  have R_tg_14 := Lib.hid (row_below R_tg_13.out b14 (Nat.le_refl _))
  clear b14
  go_wp2_with fail
  refine (markInt R_xf_14.out (by omega) (by omega) (by omega)).mono ?_
  rintro e W15 ⟨rfl, m15, g15⟩
  have B15 := Lib.hid (below_grown B14.out R_xf_14.out g15 B4.out.size B14.out.size)
  have R_w0_15 := Lib.hid (row_apart R_w0_14.out R_xf_14.out R_w0_4.out (Nat.le_refl _) g15)
  have R_w1_15 := Lib.hid (row_apart R_w1_14.out R_xf_14.out R_w1_4.out (Nat.le_refl _) g15)
  have R_xg_15 := Lib.hid (row_apart2 R_xg_14.out R_xf_5.out (Nat.le_refl _) g15)
  have R_g0_15 := Lib.hid (row_apart2 R_g0_14.out R_xf_7.out (Nat.le_refl _) g15)
  have R_g1_15 := Lib.hid (row_apart2 R_g1_14.out R_xf_7.out (Nat.le_refl _) g15)
  have M_xf_15 := Lib.hid m15
  clear m15 g15
  go_wp2_with fail
  refine (markInt R_xg_15.out (by omega) (by omega) (by omega)).mono ?_
  rintro e W16 ⟨rfl, m16, g16⟩
  have B16 := Lib.hid (below_grown B15.out R_xg_15.out g16 B5.out.size B15.out.size)
  have R_w0_16 := Lib.hid (row_apart R_w0_15.out R_xg_15.out R_w0_5.out (Nat.le_refl _) g16)
  have R_w1_16 := Lib.hid (row_apart R_w1_15.out R_xg_15.out R_w1_5.out (Nat.le_refl _) g16)
  have R_g0_16 := Lib.hid (row_apart2 R_g0_15.out R_xg_7.out (Nat.le_refl _) g16)
  have R_g1_16 := Lib.hid (row_apart2 R_g1_15.out R_xg_7.out (Nat.le_refl _) g16)
  have M_xg_16 := Lib.hid m16
  clear m16 g16
  have hk0 : ¬ ((1 : Int) + (f.length : Int) + (g.length : Int) < 0) := by omega
  go_wp2_with fail
  refine (eqInt_same R_g0_16.out R_w0_16.out (by omega)).mono ?_
  rintro e W17 ⟨rfl, nd, hw⟩
  have b17 : Below W16.heap.size W16 W17 := by rw [hw]; exact below_drewN (Below.refl _ _) nd
  clear hw nd
  have B17 := Lib.hid (B16.out.trans (b17.mono B16.out.size))
  have R_w0_17 := Lib.hid (row_below R_w0_16.out b17 (Nat.le_refl _))
  have R_w1_17 := Lib.hid (row_below R_w1_16.out b17 (Nat.le_refl _))
  have R_g0_17 := Lib.hid (row_below R_g0_16.out b17 (Nat.le_refl _))
  have R_g1_17 := Lib.hid (row_below R_g1_16.out b17 (Nat.le_refl _))
  clear b17
  go_wp2_with fail
  refine (eqInt_same R_g1_17.out R_w1_17.out (by omega)).mono ?_
  rintro e W18 ⟨rfl, nd, hw⟩
  have b18 : Below W17.heap.size W17 W18 := by rw [hw]; exact below_drewN (Below.refl _ _) nd
  clear hw nd
  have B18 := Lib.hid (B17.out.trans (b18.mono B17.out.size))
  have R_w0_18 := Lib.hid (row_below R_w0_17.out b18 (Nat.le_refl _))
  have R_w1_18 := Lib.hid (row_below R_w1_17.out b18 (Nat.le_refl _))
  have R_g0_18 := Lib.hid (row_below R_g0_17.out b18 (Nat.le_refl _))
  have R_g1_18 := Lib.hid (row_below R_g1_17.out b18 (Nat.le_refl _))
  clear b18
  have hk1 : ¬ ((1 : Int) + (q.length : Int) < 0) := by omega
  have hk2 : ¬ ((1 : Int) + (q.length : Int) + (r.length : Int) < 0) := by omega
  go_wp2_with fail
  refine (markInt R_g0_18.out (by omega) (by omega) (by omega)).mono ?_
  rintro e W19 ⟨rfl, m19, g19⟩
  have B19 := Lib.hid (below_grown B18.out R_g0_18.out g19 B7.out.size B18.out.size)
  have R_w0_19 := Lib.hid (row_apart R_w0_18.out R_g0_18.out R_w0_7.out (Nat.le_refl _) g19)
  have R_w1_19 := Lib.hid (row_apart R_w1_18.out R_g0_18.out R_w1_7.out (Nat.le_refl _) g19)
  have M_g0_19 := Lib.hid m19
  have R_g1_19 := Lib.hid (pair_kept12 R_g1_18.out g19 AP8.out)
  clear m19 g19
  go_wp2_with fail
  refine (markInt R_g1_19.out (by omega) (by omega) (by omega)).mono ?_
  rintro e W20 ⟨rfl, m20, g20⟩
  have B20 := Lib.hid (below_grown B19.out R_g1_19.out g20 B7.out.size B19.out.size)
  have R_w0_20 := Lib.hid (row_apart R_w0_19.out R_g1_19.out R_w0_7.out (Nat.le_refl _) g20)
  have R_w1_20 := Lib.hid (row_apart R_w1_19.out R_g1_19.out R_w1_7.out (Nat.le_refl _) g20)
  have M_g1_20 := Lib.hid m20
  have M_g0_20 := Lib.hid (marked_apart12 M_g0_19.out g20 AP8.out)
  clear m20 g20
  go_wp2_with fail
  refine (heldInt M_g0_20.out (by omega) (by omega) (by omega)).mono ?_
  rintro e W21 ⟨rfl, nd, hw⟩
  have b21 : Below W20.heap.size W20 W21 := by rw [hw]; exact below_drewN (Below.refl _ _) nd
  clear hw nd
  have B21 := Lib.hid (B20.out.trans (b21.mono B20.out.size))
  have R_w0_21 := Lib.hid (row_below R_w0_20.out b21 (Nat.le_refl _))
  have R_w1_21 := Lib.hid (row_below R_w1_20.out b21 (Nat.le_refl _))
  have M_g1_21 := Lib.hid (marked_below M_g1_20.out b21 (Nat.le_refl _))
  have M_g0_21 := Lib.hid (marked_below M_g0_20.out b21 (Nat.le_refl _))
  clear b21
  go_wp2_with fail
  refine (heldInt M_g1_21.out (by omega) (by omega) (by omega)).mono ?_
  rintro e W22 ⟨rfl, nd, hw⟩
  have b22 : Below W21.heap.size W21 W22 := by rw [hw]; exact below_drewN (Below.refl _ _) nd
  clear hw nd
  have B22 := Lib.hid (B21.out.trans (b22.mono B21.out.size))
  have R_w0_22 := Lib.hid (row_below R_w0_21.out b22 (Nat.le_refl _))
  have R_w1_22 := Lib.hid (row_below R_w1_21.out b22 (Nat.le_refl _))
  have M_g1_22 := Lib.hid (marked_below M_g1_21.out b22 (Nat.le_refl _))
  have M_g0_22 := Lib.hid (marked_below M_g0_21.out b22 (Nat.le_refl _))
  clear b22
  have hr0 := (B22.out.cell (p := ⟨w.heap.size, 0, none⟩) HRL.out).trans HR0.out
  have hr1 := (B22.out.cell (p := ⟨w.heap.size, 1, none⟩) HRL.out).trans HR1.out
  go_wp2_with fail
  refine (toRing_any p n _).mono ?_
  rintro e W23 ⟨rfl, b23⟩
  clear hr0 hr1
  have B23 := Lib.hid (B22.out.trans (b23.mono B22.out.size))
  have R_w0_23 := Lib.hid (row_below R_w0_22.out b23 (Nat.le_refl _))
  have R_w1_23 := Lib.hid (row_below R_w1_22.out b23 (Nat.le_refl _))
  have M_g1_23 := Lib.hid (marked_below M_g1_22.out b23 (Nat.le_refl _))
  have M_g0_23 := Lib.hid (marked_below M_g0_22.out b23 (Nat.le_refl _))
  clear b23
  go_wp2_with fail
  refine (HT0.out _ (argInt_below HA0.out B23.out)).mono ?_
  rintro e W24 ⟨v24, rfl, r24, b24⟩
  obtain ⟨o24, c24, rfl⟩ := row_slice r24
  have B24 := Lib.hid (B23.out.trans (b24.mono B23.out.size))
  have R_w0_24 := Lib.hid (row_below R_w0_23.out b24 (Nat.le_refl _))
  have R_w1_24 := Lib.hid (row_below R_w1_23.out b24 (Nat.le_refl _))
  have M_g1_24 := Lib.hid (marked_below M_g1_23.out b24 (Nat.le_refl _))
  have M_g0_24 := Lib.hid (marked_below M_g0_23.out b24 (Nat.le_refl _))
  have R_yf_24 := Lib.hid r24
  clear r24 b24
  go_wp2_with fail
  refine (HT1.out _ (argInt_below HA1.out B24.out)).mono ?_
  rintro e W25 ⟨v25, rfl, r25, b25⟩
  obtain ⟨o25, c25, rfl⟩ := row_slice r25
  have B25 := Lib.hid (B24.out.trans (b25.mono B24.out.size))
  have R_w0_25 := Lib.hid (row_below R_w0_24.out b25 (Nat.le_refl _))
  have R_w1_25 := Lib.hid (row_below R_w1_24.out b25 (Nat.le_refl _))
  have R_yf_25 := Lib.hid (row_below R_yf_24.out b25 (Nat.le_refl _))
  have M_g1_25 := Lib.hid (marked_below M_g1_24.out b25 (Nat.le_refl _))
  have M_g0_25 := Lib.hid (marked_below M_g0_24.out b25 (Nat.le_refl _))
  have R_yg_25 := Lib.hid r25
  clear r25 b25
  go_wp2_with fail
  refine (HI.out _ _ _ _ R_yf_25.out _ _ _ R_yg_25.out).mono ?_
  rintro e W26 ⟨v26, u26, rfl, r26, t26, b26, ap26⟩
  have B26 := Lib.hid (B25.out.trans (b26.mono B25.out.size))
  have R_w0_26 := Lib.hid (row_below R_w0_25.out b26 (Nat.le_refl _))
  have R_w1_26 := Lib.hid (row_below R_w1_25.out b26 (Nat.le_refl _))
  have R_yf_26 := Lib.hid (row_below R_yf_25.out b26 (Nat.le_refl _))
  have R_yg_26 := Lib.hid (row_below R_yg_25.out b26 (Nat.le_refl _))
  have M_g1_26 := Lib.hid (marked_below M_g1_25.out b26 (Nat.le_refl _))
  have M_g0_26 := Lib.hid (marked_below M_g0_25.out b26 (Nat.le_refl _))
  have R_h0_26 := Lib.hid r26
  have R_h1_26 := Lib.hid t26
  have AP26 := Lib.hid ap26
  clear ap26
  clear r26 t26 b26
  go_wp2_with fail
  refine (eqInt_same R_h0_26.out R_w0_26.out (by omega)).mono ?_
  rintro e W27 ⟨rfl, nd, hw⟩
  have b27 : Below W26.heap.size W26 W27 := by rw [hw]; exact below_drewN (Below.refl _ _) nd
  clear hw nd
  have B27 := Lib.hid (B26.out.trans (b27.mono B26.out.size))
  have R_w0_27 := Lib.hid (row_below R_w0_26.out b27 (Nat.le_refl _))
  have R_w1_27 := Lib.hid (row_below R_w1_26.out b27 (Nat.le_refl _))
  have R_h0_27 := Lib.hid (row_below R_h0_26.out b27 (Nat.le_refl _))
  have R_h1_27 := Lib.hid (row_below R_h1_26.out b27 (Nat.le_refl _))
  have M_g1_27 := Lib.hid (marked_below M_g1_26.out b27 (Nat.le_refl _))
  have M_g0_27 := Lib.hid (marked_below M_g0_26.out b27 (Nat.le_refl _))
  clear b27
  go_wp2_with fail
  refine (eqInt_same R_h1_27.out R_w1_27.out (by omega)).mono ?_
  rintro e W28 ⟨rfl, nd, hw⟩
  have b28 : Below W27.heap.size W27 W28 := by rw [hw]; exact below_drewN (Below.refl _ _) nd
  clear hw nd
  have B28 := Lib.hid (B27.out.trans (b28.mono B27.out.size))
  have R_w0_28 := Lib.hid (row_below R_w0_27.out b28 (Nat.le_refl _))
  have R_w1_28 := Lib.hid (row_below R_w1_27.out b28 (Nat.le_refl _))
  have R_h0_28 := Lib.hid (row_below R_h0_27.out b28 (Nat.le_refl _))
  have R_h1_28 := Lib.hid (row_below R_h1_27.out b28 (Nat.le_refl _))
  have M_g1_28 := Lib.hid (marked_below M_g1_27.out b28 (Nat.le_refl _))
  have M_g0_28 := Lib.hid (marked_below M_g0_27.out b28 (Nat.le_refl _))
  clear b28
  go_wp2_with fail
  refine (heldInt M_g0_28.out (by omega) (by omega) (by omega)).mono ?_
  rintro e W29 ⟨rfl, nd, hw⟩
  have b29 : Below W28.heap.size W28 W29 := by rw [hw]; exact below_drewN (Below.refl _ _) nd
  clear hw nd
  have B29 := Lib.hid (B28.out.trans (b29.mono B28.out.size))
  have R_w0_29 := Lib.hid (row_below R_w0_28.out b29 (Nat.le_refl _))
  have R_w1_29 := Lib.hid (row_below R_w1_28.out b29 (Nat.le_refl _))
  have R_h0_29 := Lib.hid (row_below R_h0_28.out b29 (Nat.le_refl _))
  have R_h1_29 := Lib.hid (row_below R_h1_28.out b29 (Nat.le_refl _))
  have M_g1_29 := Lib.hid (marked_below M_g1_28.out b29 (Nat.le_refl _))
  have M_g0_29 := Lib.hid (marked_below M_g0_28.out b29 (Nat.le_refl _))
  clear b29
  go_wp2_with fail
  refine (heldInt M_g1_29.out (by omega) (by omega) (by omega)).mono ?_
  rintro e W30 ⟨rfl, nd, hw⟩
  have b30 : Below W29.heap.size W29 W30 := by rw [hw]; exact below_drewN (Below.refl _ _) nd
  clear hw nd
  have B30 := Lib.hid (B29.out.trans (b30.mono B29.out.size))
  have R_w0_30 := Lib.hid (row_below R_w0_29.out b30 (Nat.le_refl _))
  have R_w1_30 := Lib.hid (row_below R_w1_29.out b30 (Nat.le_refl _))
  have R_h0_30 := Lib.hid (row_below R_h0_29.out b30 (Nat.le_refl _))
  have R_h1_30 := Lib.hid (row_below R_h1_29.out b30 (Nat.le_refl _))
  have M_g1_30 := Lib.hid (marked_below M_g1_29.out b30 (Nat.le_refl _))
  have M_g0_30 := Lib.hid (marked_below M_g0_29.out b30 (Nat.le_refl _))
  clear b30
  go_wp2_with fail
  go_ret
  exact ⟨rfl, HBR.out.trans (B30.out.mono HBR.out.size)⟩
theorem exactDivRng_walk (p n : Int) (af : Option Addr) (lenf capf : Nat) (zf : List Int) (ag : Option Addr) (leng capg : Nat) (zg : List Int) (w : World) (_ : (Lit.int .i64 p).wf = true) (_ : (Lit.int .i64 n).wf = true) (hf : (af = none ∧ lenf = 0 ∧ capf = 0 ∧ zf = []) ∨ ∃ x, af = some x ∧ lenf ≤ capf ∧ capf ≤ maxLen ∧ zf.length = capf ∧ (∀ i, i < zf.length → w.cell? (x.add i) = some (.int .i64 (zf.getD i 0))) ∧ ∀ n ∈ zf, (Lit.int .i64 n).wf = true) (hg : (ag = none ∧ leng = 0 ∧ capg = 0 ∧ zg = []) ∨ ∃ x, ag = some x ∧ leng ≤ capg ∧ capg ≤ maxLen ∧ zg.length = capg ∧ (∀ i, i < zg.length → w.cell? (x.add i) = some (.int .i64 (zg.getD i 0))) ∧ ∀ n ∈ zg, (Lit.int .i64 n).wf = true) :
    Calls Try.prog 8 #[.agg #[.int .i64 p, .int .i64 n], .slice af lenf capf, .slice ag leng capg] w fun e w' => e = .returned (.bool true) ∧ Below w.heap.size w w' := by
  have mf := len_of_row hf
  have mg := len_of_row hg
  obtain ⟨lf, ef, kf⟩ := arg_of_row hf
  obtain ⟨lg, eg, kg⟩ := arg_of_row hg
  clear hf hg
  by_cases qf : lenf ≤ 1048576
  · by_cases qg : leng ≤ 1048576
    · subst ef eg
      exact exactDivRng_core p n af capf lf ag capg lg w qf kf qg kg
    · clear kf ef kg eg
      go_enter Try.func8, Try.ntmps8
      go_wp2
      go_ret
      exact ⟨rfl, (Below.refl _ _).alloc (Nat.le_refl _) _⟩
  · clear kf ef kg eg
    go_enter Try.func8, Try.ntmps8
    go_wp2
    go_ret
    exact ⟨rfl, (Below.refl _ _).alloc (Nat.le_refl _) _⟩
end Go.Proofs.Ytbjkcoajabcibaa
