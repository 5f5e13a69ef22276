/- Walks of exact laws of chapter 12: LiftPair; true at every input. -/
import Derived.Test.YtbjkcoajabcibaaLftLaw0
namespace Go.Proofs.Ytbjkcoajabcibaa
open Go.RowKit
set_option linter.unusedVariables false
set_option linter.unusedSimpArgs false
set_option maxRecDepth 20000
set_option maxRecDepth 20000 in
set_option maxHeartbeats 2000000 in
theorem exactLip_core (p n : Int) (af : Option Addr) (capf : Nat) (f : List Int) (ag : Option Addr) (capg : Nat) (g : List Int) (ad : Option Addr) (capd : Nat) (d : List Int) (w : World) (hf : f.length ≤ 1048576) (kf : ArgInt w af f) (hg : g.length ≤ 1048576) (kg : ArgInt w ag g) (hd : d.length ≤ 1048576) (kd : ArgInt w ad d) :
    Calls Try.prog 11 #[.agg #[.int .i64 p, .int .i64 n], .slice af f.length capf, .slice ag g.length capg, .slice ad d.length capd] w fun e w' => e = .returned (.bool true) ∧ Below w.heap.size w w' := by
  obtain ⟨wR, hwR⟩ : ∃ wR, w.alloc (.cells #[.int .i64 p, .int .i64 n] 53) = wR := ⟨_, rfl⟩
  have HBR := Lib.hid (show Below w.heap.size w wR by rw [← hwR]; exact (Below.refl _ _).alloc (Nat.le_refl _) _)
  have HR0 := Lib.hid (show wR.cell? ⟨w.heap.size, 0, none⟩ = some (.int .i64 p) by rw [← hwR]; exact World.cell?_alloc_new _ _ _ _ ▸ rfl)
  have HR1 := Lib.hid (show wR.cell? ⟨w.heap.size, 1, none⟩ = some (.int .i64 n) by rw [← hwR]; exact World.cell?_alloc_new _ _ _ _ ▸ rfl)
  have HRL := Lib.hid (show w.heap.size < wR.heap.size by rw [← hwR]; simp)
  have HA0 := Lib.hid (argInt_below kf HBR.out)
  have HT0 := Lib.hid fun (w : World) (h : ArgInt w af f) => toInt64S_any af capf f w hf h
  have hnf : (0 : Int) ≤ (f.length : Int) := Int.natCast_nonneg _
  have HA1 := Lib.hid (argInt_below kg HBR.out)
  have HT1 := Lib.hid fun (w : World) (h : ArgInt w ag g) => toInt64S_any ag capg g w hg h
  have hng : (0 : Int) ≤ (g.length : Int) := Int.natCast_nonneg _
  have HA2 := Lib.hid (argInt_below kd HBR.out)
  have HT2 := Lib.hid fun (w : World) (h : ArgInt w ad d) => toInt64S_any ad capd d w hd h
  have hnd : (0 : Int) ≤ (d.length : Int) := Int.natCast_nonneg _
  have HS := Lib.hid fun (w : World) (b : Nat) (o : Option Addr) (c : Nat) (h : IntRow b w (.slice o f.length c) f) (b' : Nat) (o' : Option Addr) (c' : Nat) (h' : IntRow b' w (.slice o' g.length c') g) (b'' : Nat) (o'' : Option Addr) (c'' : Nat) (h'' : IntRow b'' w (.slice o'' d.length c'') d) => specLip_any p n (row_seen h (show f.length ≤ 1100000 by omega)) (row_seen h' (show g.length ≤ 1100000 by omega)) (row_seen h'' (show d.length ≤ 1100000 by omega))
  have HI := Lib.hid fun (w : World) (b : Nat) (o : Option Addr) (c : Nat) (h : IntRow b w (.slice o f.length c) f) (b' : Nat) (o' : Option Addr) (c' : Nat) (h' : IntRow b' w (.slice o' g.length c') g) (b'' : Nat) (o'' : Option Addr) (c'' : Nat) (h'' : IntRow b'' w (.slice o'' d.length c'') d) => implLip_any p n (row_seen h (show f.length ≤ 1100000 by omega)) (row_seen h' (show g.length ≤ 1100000 by omega)) (row_seen h'' (show d.length ≤ 1100000 by omega))
  have hq : (lipA p n f g d).length ≤ 1000 := lipA_len p n f g d
  have hr : (lipB p n f g d).length ≤ 1000 := lipB_len p n f g d
  generalize (lipA p n f g d) = q at *
  generalize (lipB p n f g d) = r at *
  generalize (lipC p n f g d) = c at *
  have hnq : (0 : Int) ≤ (q.length : Int) := Int.natCast_nonneg _
  have hnr : (0 : Int) ≤ (r.length : Int) := Int.natCast_nonneg _
  have B0 := Lib.hid (Below.refl wR.heap.size wR)
  clear kf kg kd
  go_enter Try.func11, Try.ntmps11
  have hr0 := (B0.out.cell (p := ⟨w.heap.size, 0, none⟩) HRL.out).trans HR0.out
  have hr1 := (B0.out.cell (p := ⟨w.heap.size, 1, none⟩) HRL.out).trans HR1.out
  go_wp2_with fail
  refine (toRing_any p n _).mono ?_
  rintro e W1 ⟨rfl, b1⟩
  clear hr0 hr1
  have B1 := Lib.hid (B0.out.trans (b1.mono B0.out.size))
  clear b1
  go_wp2_with fail
  refine (HT0.out _ (argInt_below HA0.out B1.out)).mono ?_
  rintro e W2 ⟨v2, rfl, r2, b2⟩
  obtain ⟨o2, c2, rfl⟩ := row_slice r2
  have B2 := Lib.hid (B1.out.trans (b2.mono B1.out.size))
  have R_sf_2 := Lib.hid r2
  clear r2 b2
  go_wp2_with fail
  refine (HT1.out _ (argInt_below HA1.out B2.out)).mono ?_
  rintro e W3 ⟨v3, rfl, r3, b3⟩
  obtain ⟨o3, c3, rfl⟩ := row_slice r3
  have B3 := Lib.hid (B2.out.trans (b3.mono B2.out.size))
  have R_sf_3 := Lib.hid (row_below R_sf_2.out b3 (Nat.le_refl _))
  have R_sg_3 := Lib.hid r3
  clear r3 b3
  go_wp2_with fail
  refine (HT2.out _ (argInt_below HA2.out B3.out)).mono ?_
  rintro e W4 ⟨v4, rfl, r4, b4⟩
  obtain ⟨o4, c4, rfl⟩ := row_slice r4
  have B4 := Lib.hid (B3.out.trans (b4.mono B3.out.size))
  have R_sf_4 := Lib.hid (row_below R_sf_3.out b4 (Nat.le_refl _))
  have R_sg_4 := Lib.hid (row_below R_sg_3.out b4 (Nat.le_refl _))
  have R_sd_4 := Lib.hid r4
  clear r4 b4
  go_wp2_with fail
  refine (HS.out _ _ _ _ R_sf_4.out _ _ _ R_sg_4.out _ _ _ R_sd_4.out).mono ?_
  rintro e W5 ⟨v5, u5, rfl, r5, t5, b5, ap5⟩
  have B5 := Lib.hid (B4.out.trans (b5.mono B4.out.size))
  have R_sf_5 := Lib.hid (row_below R_sf_4.out b5 (Nat.le_refl _))
  have R_sg_5 := Lib.hid (row_below R_sg_4.out b5 (Nat.le_refl _))
  have R_sd_5 := Lib.hid (row_below R_sd_4.out b5 (Nat.le_refl _))
  have R_w0_5 := Lib.hid r5
  have R_w1_5 := Lib.hid t5
  have AP5 := Lib.hid ap5
  clear ap5
  clear r5 t5 b5
  go_wp2_with fail
  refine (HT0.out _ (argInt_below HA0.out B5.out)).mono ?_
  rintro e W6 ⟨v6, rfl, r6, b6⟩
  obtain ⟨o6, c6, rfl⟩ := row_slice r6
  have B6 := Lib.hid (B5.out.trans (b6.mono B5.out.size))
  have R_w0_6 := Lib.hid (row_below R_w0_5.out b6 (Nat.le_refl _))
  have R_w1_6 := Lib.hid (row_below R_w1_5.out b6 (Nat.le_refl _))
  have R_xf_6 := Lib.hid r6
  clear r6 b6
  go_wp2_with fail
  refine (HT1.out _ (argInt_below HA1.out B6.out)).mono ?_
  rintro e W7 ⟨v7, rfl, r7, b7⟩
  obtain ⟨o7, c7, rfl⟩ := row_slice r7
  have B7 := Lib.hid (B6.out.trans (b7.mono B6.out.size))
  have R_w0_7 := Lib.hid (row_below R_w0_6.out b7 (Nat.le_refl _))
  have R_w1_7 := Lib.hid (row_below R_w1_6.out b7 (Nat.le_refl _))
  have R_xf_7 := Lib.hid (row_below R_xf_6.out b7 (Nat.le_refl _))
  have R_xg_7 := Lib.hid r7
  clear r7 b7
  go_wp2_with fail
  refine (HT2.out _ (argInt_below HA2.out B7.out)).mono ?_
  rintro e W8 ⟨v8, rfl, r8, b8⟩
  obtain ⟨o8, c8, rfl⟩ := row_slice r8
  have B8 := Lib.hid (B7.out.trans (b8.mono B7.out.size))
  have R_w0_8 := Lib.hid (row_below R_w0_7.out b8 (Nat.le_refl _))
  have R_w1_8 := Lib.hid (row_below R_w1_7.out b8 (Nat.le_refl _))
  have R_xf_8 := Lib.hid (row_below R_xf_7.out b8 (Nat.le_refl _))
  have R_xg_8 := Lib.hid (row_below R_xg_7.out b8 (Nat.le_refl _))
  have R_xd_8 := Lib.hid r8
  clear r8 b8
  have hr0 := (B8.out.cell (p := ⟨w.heap.size, 0, none⟩) HRL.out).trans HR0.out
  have hr1 := (B8.out.cell (p := ⟨w.heap.size, 1, none⟩) HRL.out).trans HR1.out
  go_wp2_with fail
  refine (toRing_any p n _).mono ?_
  rintro e W9 ⟨rfl, b9⟩
  clear hr0 hr1
  have B9 := Lib.hid (B8.out.trans (b9.mono B8.out.size))
  have R_w0_9 := Lib.hid (row_below R_w0_8.out b9 (Nat.le_refl _))
  have R_w1_9 := Lib.hid (row_below R_w1_8.out b9 (Nat.le_refl _))
  have R_xf_9 := Lib.hid (row_below R_xf_8.out b9 (Nat.le_refl _))
  have R_xg_9 := Lib.hid (row_below R_xg_8.out b9 (Nat.le_refl _))
  have R_xd_9 := Lib.hid (row_below R_xd_8.out b9 (Nat.le_refl _))
  clear b9
  go_wp2_with fail
  refine (HI.out _ _ _ _ R_xf_9.out _ _ _ R_xg_9.out _ _ _ R_xd_9.out).mono ?_
  rintro e W10 ⟨v10, u10, rfl, r10, t10, b10, ap10⟩
  have B10 := Lib.hid (B9.out.trans (b10.mono B9.out.size))
  have R_w0_10 := Lib.hid (row_below R_w0_9.out b10 (Nat.le_refl _))
  have R_w1_10 := Lib.hid (row_below R_w1_9.out b10 (Nat.le_refl _))
  have R_xf_10 := Lib.hid (row_below R_xf_9.out b10 (Nat.le_refl _))
  have R_xg_10 := Lib.hid (row_below R_xg_9.out b10 (Nat.le_refl _))
  have R_xd_10 := Lib.hid (row_below R_xd_9.out b10 (Nat.le_refl _))
  have R_g0_10 := Lib.hid r10
  have R_g1_10 := Lib.hid t10
  have AP10 := Lib.hid ap10
  clear ap10
  clear r10 t10 b10
  go_wp2_with fail
  refine (eqInt_same R_g0_10.out R_w0_10.out (by omega)).mono ?_
  rintro e W11 ⟨rfl, nd, hw⟩
  have b11 : Below W10.heap.size W10 W11 := by rw [hw]; exact below_drewN (Below.refl _ _) nd
  clear hw nd
  have B11 := Lib.hid (B10.out.trans (b11.mono B10.out.size))
  have R_w0_11 := Lib.hid (row_below R_w0_10.out b11 (Nat.le_refl _))
  have R_w1_11 := Lib.hid (row_below R_w1_10.out b11 (Nat.le_refl _))
  have R_xf_11 := Lib.hid (row_below R_xf_10.out b11 (Nat.le_refl _))
  have R_xg_11 := Lib.hid (row_below R_xg_10.out b11 (Nat.le_refl _))
  have R_xd_11 := Lib.hid (row_below R_xd_10.out b11 (Nat.le_refl _))
  have R_g0_11 := Lib.hid (row_below R_g0_10.out b11 (Nat.le_refl _))
  have R_g1_11 := Lib.hid (row_below R_g1_10.out b11 (Nat.le_refl _))
  clear b11
  go_wp2_with fail
  refine (eqInt_same R_g1_11.out R_w1_11.out (by omega)).mono ?_
  rintro e W12 ⟨rfl, nd, hw⟩
  have b12 : Below W11.heap.size W11 W12 := by rw [hw]; exact below_drewN (Below.refl _ _) nd
  clear hw nd
  have B12 := Lib.hid (B11.out.trans (b12.mono B11.out.size))
  have R_w0_12 := Lib.hid (row_below R_w0_11.out b12 (Nat.le_refl _))
  have R_w1_12 := Lib.hid (row_below R_w1_11.out b12 (Nat.le_refl _))
  have R_xf_12 := Lib.hid (row_below R_xf_11.out b12 (Nat.le_refl _))
  have R_xg_12 := Lib.hid (row_below R_xg_11.out b12 (Nat.le_refl _))
  have R_xd_12 := Lib.hid (row_below R_xd_11.out b12 (Nat.le_refl _))
  have R_g0_12 := Lib.hid (row_below R_g0_11.out b12 (Nat.le_refl _))
  have R_g1_12 := Lib.hid (row_below R_g1_11.out b12 (Nat.le_refl _))
  clear b12
  go_wp2_with fail
  refine (HT0.out _ (argInt_below HA0.out B12.out)).mono ?_
  rintro e W13 ⟨v13, rfl, r13, b13⟩
  obtain ⟨o13, c13, rfl⟩ := row_slice r13
  have B13 := Lib.hid (B12.out.trans (b13.mono B12.out.size))
  have R_w0_13 := Lib.hid (row_below R_w0_12.out b13 (Nat.le_refl _))
  have R_w1_13 := Lib.hid (row_below R_w1_12.out b13 (Nat.le_refl _))
  have R_xf_13 := Lib.hid (row_below R_xf_12.out b13 (Nat.le_refl _))
  have R_xg_13 := Lib.hid (row_below R_xg_12.out b13 (Nat.le_refl _))
  have R_xd_13 := Lib.hid (row_below R_xd_12.out b13 (Nat.le_refl _))
  have R_g0_13 := Lib.hid (row_below R_g0_12.out b13 (Nat.le_refl _))
  have R_g1_13 := Lib.hid (row_below R_g1_12.out b13 (Nat.le_refl _))
  have R_tf_13 := Lib.hid r13
  clear r13 b13
  go_wp2_with fail
  refine (eqInt_same R_xf_13.out R_tf_13.out (by omega)).mono ?_
  rintro e W14 ⟨rfl, nd, hw⟩
  have b14 : Below W13.heap.size W13 W14 := by rw [hw]; exact below_drewN (Below.refl _ _) nd
  clear hw nd
  have B14 := Lib.hid (B13.out.trans (b14.mono B13.out.size))
  have R_w0_14 := Lib.hid (row_below R_w0_13.out b14 (Nat.le_refl _))
  have R_w1_14 := Lib.hid (row_below R_w1_13.out b14 (Nat.le_refl _))
  have R_xf_14 := Lib.hid (row_below R_xf_13.out b14 (Nat.le_refl _))
  have R_xg_14 := Lib.hid (row_below R_xg_13.out b14 (Nat.le_refl _))
  have R_xd_14 := Lib.hid (row_below R_xd_13.out b14 (Nat.le_refl _))
  have R_g0_14 := Lib.hid (row_below R_g0_13.out b14 (Nat.le_refl _))
  have R_g1_14 := Lib.hid (row_below R_g1_13.out b14 (Nat.le_refl _))
  have R_tf_14 := Lib.hid (row_below R_tf_13.out b14 (Nat.le_refl _))
  clear b14
  go_wp2_with fail
  refine (HT1.out _ (argInt_below HA1.out B14.out)).mono ?_
  rintro e W15 ⟨v15, rfl, r15, b15⟩
  obtain ⟨o15, c15, rfl⟩ := row_slice r15
  have B15 := Lib.hid (B14.out.trans (b15.mono B14.out.size))
  have R_w0_15 := Lib.hid (row_below R_w0_14.out b15 (Nat.le_refl _))
  have R_w1_15 := Lib.hid (row_below R_w1_14.out b15 (Nat.le_refl _))
  have R_xf_15 := Lib.hid (row_below R_xf_14.out b15 (Nat.le_refl _))
  have R_xg_15 := Lib.hid (row_below R_xg_14.out b15 (Nat.le_refl _))
  have R_xd_15 := Lib.hid (row_below R_xd_14.out b15 (Nat.le_refl _))
  have R_g0_15 := Lib.hid (row_below R_g0_14.out b15 (Nat.le_refl _))
  have R_g1_15 := Lib.hid (row_below R_g1_14.out b15 (Nat.le_refl _))
  have R_tg_15 := Lib.hid r15
  clear r15 b15
  go_wp2_with fail
  refine (eqInt_same R_xg_15.out R_tg_15.out (by omega)).mono ?_
  rintro e W16 ⟨rfl, nd, hw⟩
  have b16 : Below W15.heap.size W15 W16 := by rw [hw]; exact below_drewN (Below.refl _ _) nd
  clear hw nd
  have B16 := Lib.hid (B15.out.trans (b16.mono B15.out.size))
  have R_w0_16 := Lib.hid (row_below R_w0_15.out b16 (Nat.le_refl _))
  have R_w1_16 := Lib.hid (row_below R_w1_15.out b16 (Nat.le_refl _))
  have R_xf_16 := Lib.hid (row_below R_xf_15.out b16 (Nat.le_refl _))
  have R_xg_16 := Lib.hid (row_below R_xg_15.out b16 (Nat.le_refl _))
  have R_xd_16 := Lib.hid (row_below R_xd_15.out b16 (Nat.le_refl _))
  have R_g0_16 := Lib.hid (row_below R_g0_15.out b16 (Nat.le_refl _))
  have R_g1_16 := Lib.hid (row_below R_g1_15.out b16 (Nat.le_refl _))
  have R_tg_16 := Lib.hid (row_below R_tg_15.out b16 (Nat.le_refl _))
  clear b16
  go_wp2_with fail
  refine (HT2.out _ (argInt_below HA2.out B16.out)).mono ?_
  rintro e W17 ⟨v17, rfl, r17, b17⟩
  obtain ⟨o17, c17, rfl⟩ := row_slice r17
  have B17 := Lib.hid (B16.out.trans (b17.mono B16.out.size))
  have R_w0_17 := Lib.hid (row_below R_w0_16.out b17 (Nat.le_refl _))
  have R_w1_17 := Lib.hid (row_below R_w1_16.out b17 (Nat.le_refl _))
  have R_xf_17 := Lib.hid (row_below R_xf_16.out b17 (Nat.le_refl _))
  have R_xg_17 := Lib.hid (row_below R_xg_16.out b17 (Nat.le_refl _))
  have R_xd_17 := Lib.hid (row_below R_xd_16.out b17 (Nat.le_refl _))
  have R_g0_17 := Lib.hid (row_below R_g0_16.out b17 (Nat.le_refl _))
  have R_g1_17 := Lib.hid (row_below R_g1_16.out b17 (Nat.le_refl _))
  have R_td_17 := Lib.hid r17
  clear r17 b17
  go_wp2_with fail
  refine (eqInt_same R_xd_17.out R_td_17.out (by omega)).mono ?_
  rintro e W18 ⟨rfl, nd, hw⟩
  have b18 : Below W17.heap.size W17 W18 := by rw [hw]; exact below_drewN (Below.refl _ _) nd
  clear hw nd
  have B18 := Lib.hid (B17.out.trans (b18.mono B17.out.size))
  have R_w0_18 := Lib.hid (row_below R_w0_17.out b18 (Nat.le_refl _))
  have R_w1_18 := Lib.hid (row_below R_w1_17.out b18 (Nat.le_refl _))
  have R_xf_18 := Lib.hid (row_below R_xf_17.out b18 (Nat.le_refl _))
  have R_xg_18 := Lib.hid (row_below R_xg_17.out b18 (Nat.le_refl _))
  have R_xd_18 := Lib.hid (row_below R_xd_17.out b18 (Nat.le_refl _))
  have R_g0_18 := Lib.hid (row_below R_g0_17.out b18 (Nat.le_refl _))
  have R_g1_18 := Lib.hid (row_below R_g1_17.out b18 (Nat.le_refl _))
  have R_td_18 := Lib.hid (row_below R_td_17.out b18 (Nat.le_refl _))
  clear b18
  go_wp2_with fail
  refine (markInt R_xf_18.out (by omega) (by omega) (by omega)).mono ?_
  rintro e W19 ⟨rfl, m19, g19⟩
  have B19 := Lib.hid (below_grown B18.out R_xf_18.out g19 B5.out.size B18.out.size)
  have R_w0_19 := Lib.hid (row_apart R_w0_18.out R_xf_18.out R_w0_5.out (Nat.le_refl _) g19)
  have R_w1_19 := Lib.hid (row_apart R_w1_18.out R_xf_18.out R_w1_5.out (Nat.le_refl _) g19)
  have R_xg_19 := Lib.hid (row_apart2 R_xg_18.out R_xf_6.out (Nat.le_refl _) g19)
  have R_xd_19 := Lib.hid (row_apart2 R_xd_18.out R_xf_7.out (Nat.le_refl _) g19)
  have R_g0_19 := Lib.hid (row_apart2 R_g0_18.out R_xf_9.out (Nat.le_refl _) g19)
  have R_g1_19 := Lib.hid (row_apart2 R_g1_18.out R_xf_9.out (Nat.le_refl _) g19)
  have M_xf_19 := Lib.hid m19
  clear m19 g19
  go_wp2_with fail
  refine (markInt R_xg_19.out (by omega) (by omega) (by omega)).mono ?_
  rintro e W20 ⟨rfl, m20, g20⟩
  have B20 := Lib.hid (below_grown B19.out R_xg_19.out g20 B6.out.size B19.out.size)
  have R_w0_20 := Lib.hid (row_apart R_w0_19.out R_xg_19.out R_w0_6.out (Nat.le_refl _) g20)
  have R_w1_20 := Lib.hid (row_apart R_w1_19.out R_xg_19.out R_w1_6.out (Nat.le_refl _) g20)
  have R_xd_20 := Lib.hid (row_apart2 R_xd_19.out R_xg_7.out (Nat.le_refl _) g20)
  have R_g0_20 := Lib.hid (row_apart2 R_g0_19.out R_xg_9.out (Nat.le_refl _) g20)
  have R_g1_20 := Lib.hid (row_apart2 R_g1_19.out R_xg_9.out (Nat.le_refl _) g20)
  have M_xg_20 := Lib.hid m20
  clear m20 g20
  go_wp2_with fail
  refine (markInt R_xd_20.out (by omega) (by omega) (by omega)).mono ?_
  rintro e W21 ⟨rfl, m21, g21⟩
  have B21 := Lib.hid (below_grown B20.out R_xd_20.out g21 B7.out.size B20.out.size)
  have R_w0_21 := Lib.hid (row_apart R_w0_20.out R_xd_20.out R_w0_7.out (Nat.le_refl _) g21)
  have R_w1_21 := Lib.hid (row_apart R_w1_20.out R_xd_20.out R_w1_7.out (Nat.le_refl _) g21)
  have R_g0_21 := Lib.hid (row_apart2 R_g0_20.out R_xd_9.out (Nat.le_refl _) g21)
  have R_g1_21 := Lib.hid (row_apart2 R_g1_20.out R_xd_9.out (Nat.le_refl _) g21)
  have M_xd_21 := Lib.hid m21
  clear m21 g21
  have hk0 : ¬ ((1 : Int) + (f.length : Int) + (g.length : Int) + (d.length : Int) < 0) := by omega
  go_wp2_with fail
  refine (eqInt_same R_g0_21.out R_w0_21.out (by omega)).mono ?_
  rintro e W22 ⟨rfl, nd, hw⟩
  have b22 : Below W21.heap.size W21 W22 := by rw [hw]; exact below_drewN (Below.refl _ _) nd
  clear hw nd
  have B22 := Lib.hid (B21.out.trans (b22.mono B21.out.size))
  have R_w0_22 := Lib.hid (row_below R_w0_21.out b22 (Nat.le_refl _))
  have R_w1_22 := Lib.hid (row_below R_w1_21.out b22 (Nat.le_refl _))
  have R_g0_22 := Lib.hid (row_below R_g0_21.out b22 (Nat.le_refl _))
  have R_g1_22 := Lib.hid (row_below R_g1_21.out b22 (Nat.le_refl _))
  clear b22
  go_wp2_with fail
  refine (eqInt_same R_g1_22.out R_w1_22.out (by omega)).mono ?_
  rintro e W23 ⟨rfl, nd, hw⟩
  have b23 : Below W22.heap.size W22 W23 := by rw [hw]; exact below_drewN (Below.refl _ _) nd
  clear hw nd
  have B23 := Lib.hid (B22.out.trans (b23.mono B22.out.size))
  have R_w0_23 := Lib.hid (row_below R_w0_22.out b23 (Nat.le_refl _))
  have R_w1_23 := Lib.hid (row_below R_w1_22.out b23 (Nat.le_refl _))
  have R_g0_23 := Lib.hid (row_below R_g0_22.out b23 (Nat.le_refl _))
  have R_g1_23 := Lib.hid (row_below R_g1_22.out b23 (Nat.le_refl _))
  clear b23
  have hk1 : ¬ ((1 : Int) + (q.length : Int) < 0) := by omega
  have hk2 : ¬ ((1 : Int) + (q.length : Int) + (r.length : Int) < 0) := by omega
  go_wp2_with fail
  refine (markInt R_g0_23.out (by omega) (by omega) (by omega)).mono ?_
  rintro e W24 ⟨rfl, m24, g24⟩
  have B24 := Lib.hid (below_grown B23.out R_g0_23.out g24 B9.out.size B23.out.size)
  have R_w0_24 := Lib.hid (row_apart R_w0_23.out R_g0_23.out R_w0_9.out (Nat.le_refl _) g24)
  have R_w1_24 := Lib.hid (row_apart R_w1_23.out R_g0_23.out R_w1_9.out (Nat.le_refl _) g24)
  have M_g0_24 := Lib.hid m24
  have R_g1_24 := Lib.hid (pair_kept12 R_g1_23.out g24 AP10.out)
  clear m24 g24
  go_wp2_with fail
  refine (markInt R_g1_24.out (by omega) (by omega) (by omega)).mono ?_
  rintro e W25 ⟨rfl, m25, g25⟩
  have B25 := Lib.hid (below_grown B24.out R_g1_24.out g25 B9.out.size B24.out.size)
  have R_w0_25 := Lib.hid (row_apart R_w0_24.out R_g1_24.out R_w0_9.out (Nat.le_refl _) g25)
  have R_w1_25 := Lib.hid (row_apart R_w1_24.out R_g1_24.out R_w1_9.out (Nat.le_refl _) g25)
  have M_g1_25 := Lib.hid m25
  have M_g0_25 := Lib.hid (marked_apart12 M_g0_24.out g25 AP10.out)
  clear m25 g25
  go_wp2_with fail
  refine (heldInt M_g0_25.out (by omega) (by omega) (by omega)).mono ?_
  rintro e W26 ⟨rfl, nd, hw⟩
  have b26 : Below W25.heap.size W25 W26 := by rw [hw]; exact below_drewN (Below.refl _ _) nd
  clear hw nd
  have B26 := Lib.hid (B25.out.trans (b26.mono B25.out.size))
  have R_w0_26 := Lib.hid (row_below R_w0_25.out b26 (Nat.le_refl _))
  have R_w1_26 := Lib.hid (row_below R_w1_25.out b26 (Nat.le_refl _))
  have M_g1_26 := Lib.hid (marked_below M_g1_25.out b26 (Nat.le_refl _))
  have M_g0_26 := Lib.hid (marked_below M_g0_25.out b26 (Nat.le_refl _))
  clear b26
  go_wp2_with fail
  refine (heldInt M_g1_26.out (by omega) (by omega) (by omega)).mono ?_
  rintro e W27 ⟨rfl, nd, hw⟩
  have b27 : Below W26.heap.size W26 W27 := by rw [hw]; exact below_drewN (Below.refl _ _) nd
  clear hw nd
  have B27 := Lib.hid (B26.out.trans (b27.mono B26.out.size))
  have R_w0_27 := Lib.hid (row_below R_w0_26.out b27 (Nat.le_refl _))
  have R_w1_27 := Lib.hid (row_below R_w1_26.out b27 (Nat.le_refl _))
  have M_g1_27 := Lib.hid (marked_below M_g1_26.out b27 (Nat.le_refl _))
  have M_g0_27 := Lib.hid (marked_below M_g0_26.out b27 (Nat.le_refl _))
  clear b27
  have hr0 := (B27.out.cell (p := ⟨w.heap.size, 0, none⟩) HRL.out).trans HR0.out
  have hr1 := (B27.out.cell (p := ⟨w.heap.size, 1, none⟩) HRL.out).trans HR1.out
  go_wp2_with fail
  refine (toRing_any p n _).mono ?_
  rintro e W28 ⟨rfl, b28⟩
  clear hr0 hr1
  have B28 := Lib.hid (B27.out.trans (b28.mono B27.out.size))
  have R_w0_28 := Lib.hid (row_below R_w0_27.out b28 (Nat.le_refl _))
  have R_w1_28 := Lib.hid (row_below R_w1_27.out b28 (Nat.le_refl _))
  have M_g1_28 := Lib.hid (marked_below M_g1_27.out b28 (Nat.le_refl _))
  have M_g0_28 := Lib.hid (marked_below M_g0_27.out b28 (Nat.le_refl _))
  clear b28
  go_wp2_with fail
  refine (HT0.out _ (argInt_below HA0.out B28.out)).mono ?_
  rintro e W29 ⟨v29, rfl, r29, b29⟩
  obtain ⟨o29, c29, rfl⟩ := row_slice r29
  have B29 := Lib.hid (B28.out.trans (b29.mono B28.out.size))
  have R_w0_29 := Lib.hid (row_below R_w0_28.out b29 (Nat.le_refl _))
  have R_w1_29 := Lib.hid (row_below R_w1_28.out b29 (Nat.le_refl _))
  have M_g1_29 := Lib.hid (marked_below M_g1_28.out b29 (Nat.le_refl _))
  have M_g0_29 := Lib.hid (marked_below M_g0_28.out b29 (Nat.le_refl _))
  have R_yf_29 := Lib.hid r29
  clear r29 b29
  go_wp2_with fail
  refine (HT1.out _ (argInt_below HA1.out B29.out)).mono ?_
  rintro e W30 ⟨v30, rfl, r30, b30⟩
  obtain ⟨o30, c30, rfl⟩ := row_slice r30
  have B30 := Lib.hid (B29.out.trans (b30.mono B29.out.size))
  have R_w0_30 := Lib.hid (row_below R_w0_29.out b30 (Nat.le_refl _))
  have R_w1_30 := Lib.hid (row_below R_w1_29.out b30 (Nat.le_refl _))
  have R_yf_30 := Lib.hid (row_below R_yf_29.out b30 (Nat.le_refl _))
  have M_g1_30 := Lib.hid (marked_below M_g1_29.out b30 (Nat.le_refl _))
  have M_g0_30 := Lib.hid (marked_below M_g0_29.out b30 (Nat.le_refl _))
  have R_yg_30 := Lib.hid r30
  clear r30 b30
  go_wp2_with fail
  refine (HT2.out _ (argInt_below HA2.out B30.out)).mono ?_
  rintro e W31 ⟨v31, rfl, r31, b31⟩
  obtain ⟨o31, c31, rfl⟩ := row_slice r31
  have B31 := Lib.hid (B30.out.trans (b31.mono B30.out.size))
  have R_w0_31 := Lib.hid (row_below R_w0_30.out b31 (Nat.le_refl _))
  have R_w1_31 := Lib.hid (row_below R_w1_30.out b31 (Nat.le_refl _))
  have R_yf_31 := Lib.hid (row_below R_yf_30.out b31 (Nat.le_refl _))
  have R_yg_31 := Lib.hid (row_below R_yg_30.out b31 (Nat.le_refl _))
  have M_g1_31 := Lib.hid (marked_below M_g1_30.out b31 (Nat.le_refl _))
  have M_g0_31 := Lib.hid (marked_below M_g0_30.out b31 (Nat.le_refl _))
  have R_yd_31 := Lib.hid r31
  clear r31 b31
  go_wp2_with fail
  refine (HI.out _ _ _ _ R_yf_31.out _ _ _ R_yg_31.out _ _ _ R_yd_31.out).mono ?_
  rintro e W32 ⟨v32, u32, rfl, r32, t32, b32, ap32⟩
  have B32 := Lib.hid (B31.out.trans (b32.mono B31.out.size))
  have R_w0_32 := Lib.hid (row_below R_w0_31.out b32 (Nat.le_refl _))
  have R_w1_32 := Lib.hid (row_below R_w1_31.out b32 (Nat.le_refl _))
  have R_yf_32 := Lib.hid (row_below R_yf_31.out b32 (Nat.le_refl _))
  have R_yg_32 := Lib.hid (row_below R_yg_31.out b32 (Nat.le_refl _))
  have R_yd_32 := Lib.hid (row_below R_yd_31.out b32 (Nat.le_refl _))
  have M_g1_32 := Lib.hid (marked_below M_g1_31.out b32 (Nat.le_refl _))
  have M_g0_32 := Lib.hid (marked_below M_g0_31.out b32 (Nat.le_refl _))
  have R_h0_32 := Lib.hid r32
  have R_h1_32 := Lib.hid t32
  have AP32 := Lib.hid ap32
  clear ap32
  clear r32 t32 b32
  go_wp2_with fail
  refine (eqInt_same R_h0_32.out R_w0_32.out (by omega)).mono ?_
  rintro e W33 ⟨rfl, nd, hw⟩
  have b33 : Below W32.heap.size W32 W33 := by rw [hw]; exact below_drewN (Below.refl _ _) nd
  clear hw nd
  have B33 := Lib.hid (B32.out.trans (b33.mono B32.out.size))
  have R_w0_33 := Lib.hid (row_below R_w0_32.out b33 (Nat.le_refl _))
  have R_w1_33 := Lib.hid (row_below R_w1_32.out b33 (Nat.le_refl _))
  have R_h0_33 := Lib.hid (row_below R_h0_32.out b33 (Nat.le_refl _))
  have R_h1_33 := Lib.hid (row_below R_h1_32.out b33 (Nat.le_refl _))
  have M_g1_33 := Lib.hid (marked_below M_g1_32.out b33 (Nat.le_refl _))
  have M_g0_33 := Lib.hid (marked_below M_g0_32.out b33 (Nat.le_refl _))
  clear b33
  go_wp2_with fail
  refine (eqInt_same R_h1_33.out R_w1_33.out (by omega)).mono ?_
  rintro e W34 ⟨rfl, nd, hw⟩
  have b34 : Below W33.heap.size W33 W34 := by rw [hw]; exact below_drewN (Below.refl _ _) nd
  clear hw nd
  have B34 := Lib.hid (B33.out.trans (b34.mono B33.out.size))
  have R_w0_34 := Lib.hid (row_below R_w0_33.out b34 (Nat.le_refl _))
  have R_w1_34 := Lib.hid (row_below R_w1_33.out b34 (Nat.le_refl _))
  have R_h0_34 := Lib.hid (row_below R_h0_33.out b34 (Nat.le_refl _))
  have R_h1_34 := Lib.hid (row_below R_h1_33.out b34 (Nat.le_refl _))
  have M_g1_34 := Lib.hid (marked_below M_g1_33.out b34 (Nat.le_refl _))
  have M_g0_34 := Lib.hid (marked_below M_g0_33.out b34 (Nat.le_refl _))
  clear b34
  go_wp2_with fail
  refine (heldInt M_g0_34.out (by omega) (by omega) (by omega)).mono ?_
  rintro e W35 ⟨rfl, nd, hw⟩
  have b35 : Below W34.heap.size W34 W35 := by rw [hw]; exact below_drewN (Below.refl _ _) nd
  clear hw nd
  have B35 := Lib.hid (B34.out.trans (b35.mono B34.out.size))
  have R_w0_35 := Lib.hid (row_below R_w0_34.out b35 (Nat.le_refl _))
  have R_w1_35 := Lib.hid (row_below R_w1_34.out b35 (Nat.le_refl _))
  have R_h0_35 := Lib.hid (row_below R_h0_34.out b35 (Nat.le_refl _))
  have R_h1_35 := Lib.hid (row_below R_h1_34.out b35 (Nat.le_refl _))
  have M_g1_35 := Lib.hid (marked_below M_g1_34.out b35 (Nat.le_refl _))
  have M_g0_35 := Lib.hid (marked_below M_g0_34.out b35 (Nat.le_refl _))
  clear b35
  go_wp2_with fail
  refine (heldInt M_g1_35.out (by omega) (by omega) (by omega)).mono ?_
  rintro e W36 ⟨rfl, nd, hw⟩
  have b36 : Below W35.heap.size W35 W36 := by rw [hw]; exact below_drewN (Below.refl _ _) nd
  clear hw nd
  have B36 := Lib.hid (B35.out.trans (b36.mono B35.out.size))
  have R_w0_36 := Lib.hid (row_below R_w0_35.out b36 (Nat.le_refl _))
  have R_w1_36 := Lib.hid (row_below R_w1_35.out b36 (Nat.le_refl _))
  have R_h0_36 := Lib.hid (row_below R_h0_35.out b36 (Nat.le_refl _))
  have R_h1_36 := Lib.hid (row_below R_h1_35.out b36 (Nat.le_refl _))
  have M_g1_36 := Lib.hid (marked_below M_g1_35.out b36 (Nat.le_refl _))
  have M_g0_36 := Lib.hid (marked_below M_g0_35.out b36 (Nat.le_refl _))
  clear b36
  go_wp2_with fail
  go_ret
  exact ⟨rfl, HBR.out.trans (B36.out.mono HBR.out.size)⟩
theorem exactLip_walk (p n : Int) (af : Option Addr) (lenf capf : Nat) (zf : List Int) (ag : Option Addr) (leng capg : Nat) (zg : List Int) (ad : Option Addr) (lend capd : Nat) (zd : List Int) (w : World) (_ : (Lit.int .i64 p).wf = true) (_ : (Lit.int .i64 n).wf = true) (hf : (af = none ∧ lenf = 0 ∧ capf = 0 ∧ zf = []) ∨ ∃ x, af = some x ∧ lenf ≤ capf ∧ capf ≤ maxLen ∧ zf.length = capf ∧ (∀ i, i < zf.length → w.cell? (x.add i) = some (.int .i64 (zf.getD i 0))) ∧ ∀ n ∈ zf, (Lit.int .i64 n).wf = true) (hg : (ag = none ∧ leng = 0 ∧ capg = 0 ∧ zg = []) ∨ ∃ x, ag = some x ∧ leng ≤ capg ∧ capg ≤ maxLen ∧ zg.length = capg ∧ (∀ i, i < zg.length → w.cell? (x.add i) = some (.int .i64 (zg.getD i 0))) ∧ ∀ n ∈ zg, (Lit.int .i64 n).wf = true) (hd : (ad = none ∧ lend = 0 ∧ capd = 0 ∧ zd = []) ∨ ∃ x, ad = some x ∧ lend ≤ capd ∧ capd ≤ maxLen ∧ zd.length = capd ∧ (∀ i, i < zd.length → w.cell? (x.add i) = some (.int .i64 (zd.getD i 0))) ∧ ∀ n ∈ zd, (Lit.int .i64 n).wf = true) :
    Calls Try.prog 11 #[.agg #[.int .i64 p, .int .i64 n], .slice af lenf capf, .slice ag leng capg, .slice ad lend capd] w fun e w' => e = .returned (.bool true) ∧ Below w.heap.size w w' := by
  have mf := len_of_row hf
  have mg := len_of_row hg
  have md := len_of_row hd
  obtain ⟨lf, ef, kf⟩ := arg_of_row hf
  obtain ⟨lg, eg, kg⟩ := arg_of_row hg
  obtain ⟨ld, ed, kd⟩ := arg_of_row hd
  clear hf hg hd
  by_cases qf : lenf ≤ 1048576
  · by_cases qg : leng ≤ 1048576
    · by_cases qd : lend ≤ 1048576
      · subst ef eg ed
        exact exactLip_core p n af capf lf ag capg lg ad capd ld w qf kf qg kg qd kd
      · clear kf ef kg eg kd ed
        go_enter Try.func11, Try.ntmps11
        go_wp2
        go_ret
        exact ⟨rfl, (Below.refl _ _).alloc (Nat.le_refl _) _⟩
    · clear kf ef kg eg kd ed
      go_enter Try.func11, Try.ntmps11
      go_wp2
      go_ret
      exact ⟨rfl, (Below.refl _ _).alloc (Nat.le_refl _) _⟩
  · clear kf ef kg eg kd ed
    go_enter Try.func11, Try.ntmps11
    go_wp2
    go_ret
    exact ⟨rfl, (Below.refl _ _).alloc (Nat.le_refl _) _⟩
end Go.Proofs.Ytbjkcoajabcibaa
