/- Walks of exact laws of chapter 12: IsInRing, MultiplyInRing; true at every input. -/
import Derived.Test.YtbjkcoajabcibaaLftLaw0
namespace Go.Proofs.Ytbjkcoajabcibaa
open Go.RowKit
set_option linter.unusedVariables false
set_option linter.unusedSimpArgs false
set_option maxRecDepth 20000
set_option maxRecDepth 20000 in
set_option maxHeartbeats 2000000 in
theorem exactInR_core (p n : Int) (af : Option Addr) (capf : Nat) (f : List Int) (w : World) (hf : f.length ≤ 1048576) (kf : ArgInt w af f) :
    Calls Try.prog 6 #[.agg #[.int .i64 p, .int .i64 n], .slice af f.length capf] w fun e w' => e = .returned (.bool true) ∧ Below w.heap.size w w' := by
  obtain ⟨wR, hwR⟩ : ∃ wR, w.alloc (.cells #[.int .i64 p, .int .i64 n] 53) = wR := ⟨_, rfl⟩
  have HBR := Lib.hid (show Below w.heap.size w wR by rw [← hwR]; exact (Below.refl _ _).alloc (Nat.le_refl _) _)
  have HR0 := Lib.hid (show wR.cell? ⟨w.heap.size, 0, none⟩ = some (.int .i64 p) by rw [← hwR]; exact World.cell?_alloc_new _ _ _ _ ▸ rfl)
  have HR1 := Lib.hid (show wR.cell? ⟨w.heap.size, 1, none⟩ = some (.int .i64 n) by rw [← hwR]; exact World.cell?_alloc_new _ _ _ _ ▸ rfl)
  have HRL := Lib.hid (show w.heap.size < wR.heap.size by rw [← hwR]; simp)
  have HA0 := Lib.hid (argInt_below kf HBR.out)
  have HT0 := Lib.hid fun (w : World) (h : ArgInt w af f) => toInt64S_any af capf f w hf h
  have hnf : (0 : Int) ≤ (f.length : Int) := Int.natCast_nonneg _
  have HS := Lib.hid fun (w : World) (b : Nat) (o : Option Addr) (c : Nat) (h : IntRow b w (.slice o f.length c) f) => specInR_any p n (row_seen h (show f.length ≤ 1100000 by omega))
  have HI := Lib.hid fun (w : World) (b : Nat) (o : Option Addr) (c : Nat) (h : IntRow b w (.slice o f.length c) f) => implInR_any p n (row_seen h (show f.length ≤ 1100000 by omega))
  generalize (inrB p n f) = q at *
  have B0 := Lib.hid (Below.refl wR.heap.size wR)
  clear kf
  go_enter Try.func6, Try.ntmps6
  have hr0 := (B0.out.cell (p := ⟨w.heap.size, 0, none⟩) HRL.out).trans HR0.out
  have hr1 := (B0.out.cell (p := ⟨w.heap.size, 1, none⟩) HRL.out).trans HR1.out
  go_wp2_with fail
  refine (toRing_any p n _).mono ?_
  rintro e W1 ⟨rfl, b1⟩
  clear hr0 hr1
  have B1 := Lib.hid (B0.out.trans (b1.mono B0.out.size))
  clear b1
  go_wp2_with fail
  refine (HT0.out _ (argInt_below HA0.out B1.out)).mono ?_
  rintro e W2 ⟨v2, rfl, r2, b2⟩
  obtain ⟨o2, c2, rfl⟩ := row_slice r2
  have B2 := Lib.hid (B1.out.trans (b2.mono B1.out.size))
  have R_sf_2 := Lib.hid r2
  clear r2 b2
  go_wp2_with fail
  refine (HS.out _ _ _ _ R_sf_2.out).mono ?_
  rintro e W3 ⟨rfl, b3⟩
  have B3 := Lib.hid (B2.out.trans (b3.mono B2.out.size))
  have R_sf_3 := Lib.hid (row_below R_sf_2.out b3 (Nat.le_refl _))
  clear b3
  go_wp2_with fail
  refine (HT0.out _ (argInt_below HA0.out B3.out)).mono ?_
  rintro e W4 ⟨v4, rfl, r4, b4⟩
  obtain ⟨o4, c4, rfl⟩ := row_slice r4
  have B4 := Lib.hid (B3.out.trans (b4.mono B3.out.size))
  have R_xf_4 := Lib.hid r4
  clear r4 b4
  have hr0 := (B4.out.cell (p := ⟨w.heap.size, 0, none⟩) HRL.out).trans HR0.out
  have hr1 := (B4.out.cell (p := ⟨w.heap.size, 1, none⟩) HRL.out).trans HR1.out
  go_wp2_with fail
  refine (toRing_any p n _).mono ?_
  rintro e W5 ⟨rfl, b5⟩
  clear hr0 hr1
  have B5 := Lib.hid (B4.out.trans (b5.mono B4.out.size))
  have R_xf_5 := Lib.hid (row_below R_xf_4.out b5 (Nat.le_refl _))
  clear b5
  go_wp2_with fail
  refine (HI.out _ _ _ _ R_xf_5.out).mono ?_
  rintro e W6 ⟨rfl, b6⟩
  have B6 := Lib.hid (B5.out.trans (b6.mono B5.out.size))
  have R_xf_6 := Lib.hid (row_below R_xf_5.out b6 (Nat.le_refl _))
  clear b6
  go_wp2_with fail
  refine (HT0.out _ (argInt_below HA0.out B6.out)).mono ?_
  rintro e W7 ⟨v7, rfl, r7, b7⟩
  obtain ⟨o7, c7, rfl⟩ := row_slice r7
  have B7 := Lib.hid (B6.out.trans (b7.mono B6.out.size))
  have R_xf_7 := Lib.hid (row_below R_xf_6.out b7 (Nat.le_refl _))
  have R_tf_7 := Lib.hid r7
  clear r7 b7
  go_wp2_with fail
  refine (eqInt_same R_xf_7.out R_tf_7.out (by omega)).mono ?_
  rintro e W8 ⟨rfl, nd, hw⟩
  have b8 : Below W7.heap.size W7 W8 := by rw [hw]; exact below_drewN (Below.refl _ _) nd
  clear hw nd
  have B8 := Lib.hid (B7.out.trans (b8.mono B7.out.size))
  have R_xf_8 := Lib.hid (row_below R_xf_7.out b8 (Nat.le_refl _))
  have R_tf_8 := Lib.hid (row_below R_tf_7.out b8 (Nat.le_refl _))
  clear b8
  go_wp2_with fail
  go_ret
  exact ⟨rfl, HBR.out.trans (B8.out.mono HBR.out.size)⟩
theorem exactInR_walk (p n : Int) (af : Option Addr) (lenf capf : Nat) (zf : List Int) (w : World) (_ : (Lit.int .i64 p).wf = true) (_ : (Lit.int .i64 n).wf = true) (hf : (af = none ∧ lenf = 0 ∧ capf = 0 ∧ zf = []) ∨ ∃ x, af = some x ∧ lenf ≤ capf ∧ capf ≤ maxLen ∧ zf.length = capf ∧ (∀ i, i < zf.length → w.cell? (x.add i) = some (.int .i64 (zf.getD i 0))) ∧ ∀ n ∈ zf, (Lit.int .i64 n).wf = true) :
    Calls Try.prog 6 #[.agg #[.int .i64 p, .int .i64 n], .slice af lenf capf] w fun e w' => e = .returned (.bool true) ∧ Below w.heap.size w w' := by
  have mf := len_of_row hf
  obtain ⟨lf, ef, kf⟩ := arg_of_row hf
  clear hf
  by_cases qf : lenf ≤ 1048576
  · subst ef
    exact exactInR_core p n af capf lf w qf kf
  · clear kf ef
    go_enter Try.func6, Try.ntmps6
    go_wp2
    go_ret
    exact ⟨rfl, (Below.refl _ _).alloc (Nat.le_refl _) _⟩
set_option maxRecDepth 20000 in
set_option maxHeartbeats 2000000 in
theorem exactMulRng_core (p n : Int) (af : Option Addr) (capf : Nat) (f : List Int) (ag : Option Addr) (capg : Nat) (g : List Int) (w : World) (hf : f.length ≤ 1048576) (kf : ArgInt w af f) (hg : g.length ≤ 1048576) (kg : ArgInt w ag g) :
    Calls Try.prog 7 #[.agg #[.int .i64 p, .int .i64 n], .slice af f.length capf, .slice ag g.length capg] w fun e w' => e = .returned (.bool true) ∧ Below w.heap.size w w' := by
  obtain ⟨wR, hwR⟩ : ∃ wR, w.alloc (.cells #[.int .i64 p, .int .i64 n] 53) = wR := ⟨_, rfl⟩
  have HBR := Lib.hid (show Below w.heap.size w wR by rw [← hwR]; exact (Below.refl _ _).alloc (Nat.le_refl _) _)
  have HR0 := Lib.hid (show wR.cell? ⟨w.heap.size, 0, none⟩ = some (.int .i64 p) by rw [← hwR]; exact World.cell?_alloc_new _ _ _ _ ▸ rfl)
  have HR1 := Lib.hid (show wR.cell? ⟨w.heap.size, 1, none⟩ = some (.int .i64 n) by rw [← hwR]; exact World.cell?_alloc_new _ _ _ _ ▸ rfl)
  have HRL := Lib.hid (show w.heap.size < wR.heap.size by rw [← hwR]; simp)
  have HA0 := Lib.hid (argInt_below kf HBR.out)
  have HT0 := Lib.hid fun (w : World) (h : ArgInt w af f) => toInt64S_any af capf f w hf h
  have hnf : (0 : Int) ≤ (f.length : Int) := Int.natCast_nonneg _
  have HA1 := Lib.hid (argInt_below kg HBR.out)
  have HT1 := Lib.hid fun (w : World) (h : ArgInt w ag g) => toInt64S_any ag capg g w hg h
  have hng : (0 : Int) ≤ (g.length : Int) := Int.natCast_nonneg _
  have HS := Lib.hid fun (w : World) (b : Nat) (o : Option Addr) (c : Nat) (h : IntRow b w (.slice o f.length c) f) (b' : Nat) (o' : Option Addr) (c' : Nat) (h' : IntRow b' w (.slice o' g.length c') g) => specMulRng_any p n (row_seen h (show f.length ≤ 1100000 by omega)) (row_seen h' (show g.length ≤ 1100000 by omega))
  have HI := Lib.hid fun (w : World) (b : Nat) (o : Option Addr) (c : Nat) (h : IntRow b w (.slice o f.length c) f) (b' : Nat) (o' : Option Addr) (c' : Nat) (h' : IntRow b' w (.slice o' g.length c') g) => implMulRng_any p n (row_seen h (show f.length ≤ 1100000 by omega)) (row_seen h' (show g.length ≤ 1100000 by omega))
  have hq : (mirQ p n f g).length ≤ 1000 := mirQ_len p n f g
  generalize (mirQ p n f g) = q at *
  generalize (mirC p n f g) = c at *
  have hnq : (0 : Int) ≤ (q.length : Int) := Int.natCast_nonneg _
  have B0 := Lib.hid (Below.refl wR.heap.size wR)
  clear kf kg
  go_enter Try.func7, Try.ntmps7
  have hr0 := (B0.out.cell (p := ⟨w.heap.size, 0, none⟩) HRL.out).trans HR0.out
  have hr1 := (B0.out.cell (p := ⟨w.heap.size, 1, none⟩) HRL.out).trans HR1.out
  go_wp2_with fail
  refine (toRing_any p n _).mono ?_
  rintro e W1 ⟨rfl, b1⟩
  clear hr0 hr1
  have B1 := Lib.hid (B0.out.trans (b1.mono B0.out.size))
  clear b1
  go_wp2_with fail
  refine (HT0.out _ (argInt_below HA0.out B1.out)).mono ?_
  rintro e W2 ⟨v2, rfl, r2, b2⟩
  obtain ⟨o2, c2, rfl⟩ := row_slice r2
  have B2 := Lib.hid (B1.out.trans (b2.mono B1.out.size))
  have R_sf_2 := Lib.hid r2
  clear r2 b2
  go_wp2_with fail
  refine (HT1.out _ (argInt_below HA1.out B2.out)).mono ?_
  rintro e W3 ⟨v3, rfl, r3, b3⟩
  obtain ⟨o3, c3, rfl⟩ := row_slice r3
  have B3 := Lib.hid (B2.out.trans (b3.mono B2.out.size))
  have R_sf_3 := Lib.hid (row_below R_sf_2.out b3 (Nat.le_refl _))
  have R_sg_3 := Lib.hid r3
  clear r3 b3
  go_wp2_with fail
  refine (HS.out _ _ _ _ R_sf_3.out _ _ _ R_sg_3.out).mono ?_
  rintro e W4 ⟨v4, rfl, r4, b4⟩
  have B4 := Lib.hid (B3.out.trans (b4.mono B3.out.size))
  have R_sf_4 := Lib.hid (row_below R_sf_3.out b4 (Nat.le_refl _))
  have R_sg_4 := Lib.hid (row_below R_sg_3.out b4 (Nat.le_refl _))
  have R_w0_4 := Lib.hid r4
  clear r4 b4
  go_wp2_with fail
  refine (HT0.out _ (argInt_below HA0.out B4.out)).mono ?_
  rintro e W5 ⟨v5, rfl, r5, b5⟩
  obtain ⟨o5, c5, rfl⟩ := row_slice r5
  have B5 := Lib.hid (B4.out.trans (b5.mono B4.out.size))
  have R_w0_5 := Lib.hid (row_below R_w0_4.out b5 (Nat.le_refl _))
  have R_xf_5 := Lib.hid r5
  clear r5 b5
  go_wp2_with fail
  refine (HT1.out _ (argInt_below HA1.out B5.out)).mono ?_
  rintro e W6 ⟨v6, rfl, r6, b6⟩
  obtain ⟨o6, c6, rfl⟩ := row_slice r6
  have B6 := Lib.hid (B5.out.trans (b6.mono B5.out.size))
  have R_w0_6 := Lib.hid (row_below R_w0_5.out b6 (Nat.le_refl _))
  have R_xf_6 := Lib.hid (row_below R_xf_5.out b6 (Nat.le_refl _))
  have R_xg_6 := Lib.hid r6
  clear r6 b6
  have hr0 := (B6.out.cell (p := ⟨w.heap.size, 0, none⟩) HRL.out).trans HR0.out
  have hr1 := (B6.out.cell (p := ⟨w.heap.size, 1, none⟩) HRL.out).trans HR1.out
  go_wp2_with fail
  refine (toRing_any p n _).mono ?_
  rintro e W7 ⟨rfl, b7⟩
  clear hr0 hr1
  have B7 := Lib.hid (B6.out.trans (b7.mono B6.out.size))
  have R_w0_7 := Lib.hid (row_below R_w0_6.out b7 (Nat.le_refl _))
  have R_xf_7 := Lib.hid (row_below R_xf_6.out b7 (Nat.le_refl _))
  have R_xg_7 := Lib.hid (row_below R_xg_6.out b7 (Nat.le_refl _))
  clear b7
  go_wp2_with fail
  refine (HI.out _ _ _ _ R_xf_7.out _ _ _ R_xg_7.out).mono ?_
  rintro e W8 ⟨v8, rfl, r8, b8⟩
  have B8 := Lib.hid (B7.out.trans (b8.mono B7.out.size))
  have R_w0_8 := Lib.hid (row_below R_w0_7.out b8 (Nat.le_refl _))
  have R_xf_8 := Lib.hid (row_below R_xf_7.out b8 (Nat.le_refl _))
  have R_xg_8 := Lib.hid (row_below R_xg_7.out b8 (Nat.le_refl _))
  have R_g0_8 := Lib.hid r8
  clear r8 b8
  go_wp2_with fail
  refine (eqInt_same R_g0_8.out R_w0_8.out (by omega)).mono ?_
  rintro e W9 ⟨rfl, nd, hw⟩
  have b9 : Below W8.heap.size W8 W9 := by rw [hw]; exact below_drewN (Below.refl _ _) nd
  clear hw nd
  have B9 := Lib.hid (B8.out.trans (b9.mono B8.out.size))
  have R_w0_9 := Lib.hid (row_below R_w0_8.out b9 (Nat.le_refl _))
  have R_xf_9 := Lib.hid (row_below R_xf_8.out b9 (Nat.le_refl _))
  have R_xg_9 := Lib.hid (row_below R_xg_8.out b9 (Nat.le_refl _))
  have R_g0_9 := Lib.hid (row_below R_g0_8.out b9 (Nat.le_refl _))
  clear b9
  go_wp2_with fail
  refine (HT0.out _ (argInt_below HA0.out B9.out)).mono ?_
  rintro e W10 ⟨v10, rfl, r10, b10⟩
  obtain ⟨o10, c10, rfl⟩ := row_slice r10
  have B10 := Lib.hid (B9.out.trans (b10.mono B9.out.size))
  have R_w0_10 := Lib.hid (row_below R_w0_9.out b10 (Nat.le_refl _))
  have R_xf_10 := Lib.hid (row_below R_xf_9.out b10 (Nat.le_refl _))
  have R_xg_10 := Lib.hid (row_below R_xg_9.out b10 (Nat.le_refl _))
  have R_g0_10 := Lib.hid (row_below R_g0_9.out b10 (Nat.le_refl _))
  have R_tf_10 := Lib.hid r10
  clear r10 b10
  go_wp2_with fail
  refine (eqInt_same R_xf_10.out R_tf_10.out (by omega)).mono ?_
  rintro e W11 ⟨rfl, nd, hw⟩
  have b11 : Below W10.heap.size W10 W11 := by rw [hw]; exact below_drewN (Below.refl _ _) nd
  clear hw nd
  have B11 := Lib.hid (B10.out.trans (b11.mono B10.out.size))
  have R_w0_11 := Lib.hid (row_below R_w0_10.out b11 (Nat.le_refl _))
  have R_xf_11 := Lib.hid (row_below R_xf_10.out b11 (Nat.le_refl _))
  have R_xg_11 := Lib.hid (row_below R_xg_10.out b11 (Nat.le_refl _))
  have R_g0_11 := Lib.hid (row_below R_g0_10.out b11 (Nat.le_refl _))
  have R_tf_11 := Lib.hid (row_below R_tf_10.out b11 (Nat.le_refl _))
  clear b11
  go_wp2_with fail
  refine (HT1.out _ (argInt_below HA1.out B11.out)).mono ?_
  rintro e W12 ⟨v12, rfl, r12, b12⟩
  obtain ⟨o12, c12, rfl⟩ := row_slice r12
  have B12 := Lib.hid (B11.out.trans (b12.mono B11.out.size))
  have R_w0_12 := Lib.hid (row_below R_w0_11.out b12 (Nat.le_refl _))
  have R_xf_12 := Lib.hid (row_below R_xf_11.out b12 (Nat.le_refl _))
  have R_xg_12 := Lib.hid (row_below R_xg_11.out b12 (Nat.le_refl _))
  have R_g0_12 := Lib.hid (row_below R_g0_11.out b12 (Nat.le_refl _))
  have R_tg_12 := Lib.hid r12
  clear r12 b12
  go_wp2_with fail
  refine (eqInt_same R_xg_12.out R_tg_12.out (by omega)).mono ?_
  rintro e W13 ⟨rfl, nd, hw⟩
  have b13 : Below W12.heap.size W12 W13 := by rw [hw]; exact below_drewN (Below.refl _ _) nd
  clear hw nd
  have B13 := Lib.hid (B12.out.trans (b13.mono B12.out.size))
  have R_w0_13 := Lib.hid (row_below R_w0_12.out b13 (Nat.le_refl _))
  have R_xf_13 := Lib.hid (row_below R_xf_12.out b13 (Nat.le_refl _))
  have R_xg_13 := Lib.hid (row_below R_xg_12.out b13 (Nat.le_refl _))
  have R_g0_13 := Lib.hid (row_below R_g0_12.out b13 (Nat.le_refl _))
  have R_tg_13 := Lib.hid (row_below R_tg_12.out b13 (Nat.le_refl _))
  clear b13
  go_wp2_with fail
  refine (markInt R_xf_13.out (by omega) (by omega) (by omega)).mono ?_
  rintro e W14 ⟨rfl, m14, g14⟩
  have B14 := Lib.hid (below_grown B13.out R_xf_13.out g14 B4.out.size B13.out.size)
  have R_w0_14 := Lib.hid (row_apart R_w0_13.out R_xf_13.out R_w0_4.out (Nat.le_refl _) g14)
  have R_xg_14 := Lib.hid (row_apart2 R_xg_13.out R_xf_5.out (Nat.le_refl _) g14)
  have R_g0_14 := Lib.hid (row_apart2 R_g0_13.out R_xf_7.out (Nat.le_refl _) g14)
  have M_xf_14 := Lib.hid m14
  clear m14 g14
  go_wp2_with fail
  refine (markInt R_xg_14.out (by omega) (by omega) (by omega)).mono ?_
  rintro e W15 ⟨rfl, m15, g15⟩
  have B15 := Lib.hid (below_grown B14.out R_xg_14.out g15 B5.out.size B14.out.size)
  have R_w0_15 := Lib.hid (row_apart R_w0_14.out R_xg_14.out R_w0_5.out (Nat.le_refl _) g15)
  have R_g0_15 := Lib.hid (row_apart2 R_g0_14.out R_xg_7.out (Nat.le_refl _) g15)
  have M_xg_15 := Lib.hid m15
  clear m15 g15
  have hk0 : ¬ ((1 : Int) + (f.length : Int) + (g.length : Int) < 0) := by omega
  go_wp2_with fail
  refine (eqInt_same R_g0_15.out R_w0_15.out (by omega)).mono ?_
  rintro e W16 ⟨rfl, nd, hw⟩
  have b16 : Below W15.heap.size W15 W16 := by rw [hw]; exact below_drewN (Below.refl _ _) nd
  clear hw nd
  have B16 := Lib.hid (B15.out.trans (b16.mono B15.out.size))
  have R_w0_16 := Lib.hid (row_below R_w0_15.out b16 (Nat.le_refl _))
  have R_g0_16 := Lib.hid (row_below R_g0_15.out b16 (Nat.le_refl _))
  clear b16
  go_wp2_with fail
  refine (markInt R_g0_16.out (by omega) (by omega) (by omega)).mono ?_
  rintro e W17 ⟨rfl, m17, g17⟩
  have B17 := Lib.hid (below_grown B16.out R_g0_16.out g17 B7.out.size B16.out.size)
  have R_w0_17 := Lib.hid (row_apart R_w0_16.out R_g0_16.out R_w0_7.out (Nat.le_refl _) g17)
  have M_g0_17 := Lib.hid m17
  clear m17 g17
  go_wp2_with fail
  refine (heldInt M_g0_17.out (by omega) (by omega) (by omega)).mono ?_
  rintro e W18 ⟨rfl, nd, hw⟩
  have b18 : Below W17.heap.size W17 W18 := by rw [hw]; exact below_drewN (Below.refl _ _) nd
  clear hw nd
  have B18 := Lib.hid (B17.out.trans (b18.mono B17.out.size))
  have R_w0_18 := Lib.hid (row_below R_w0_17.out b18 (Nat.le_refl _))
  have M_g0_18 := Lib.hid (marked_below M_g0_17.out b18 (Nat.le_refl _))
  clear b18
  have hr0 := (B18.out.cell (p := ⟨w.heap.size, 0, none⟩) HRL.out).trans HR0.out
  have hr1 := (B18.out.cell (p := ⟨w.heap.size, 1, none⟩) HRL.out).trans HR1.out
  go_wp2_with fail
  refine (toRing_any p n _).mono ?_
  rintro e W19 ⟨rfl, b19⟩
  clear hr0 hr1
  have B19 := Lib.hid (B18.out.trans (b19.mono B18.out.size))
  have R_w0_19 := Lib.hid (row_below R_w0_18.out b19 (Nat.le_refl _))
  have M_g0_19 := Lib.hid (marked_below M_g0_18.out b19 (Nat.le_refl _))
  clear b19
  go_wp2_with fail
  refine (HT0.out _ (argInt_below HA0.out B19.out)).mono ?_
  rintro e W20 ⟨v20, rfl, r20, b20⟩
  obtain ⟨o20, c20, rfl⟩ := row_slice r20
  have B20 := Lib.hid (B19.out.trans (b20.mono B19.out.size))
  have R_w0_20 := Lib.hid (row_below R_w0_19.out b20 (Nat.le_refl _))
  have M_g0_20 := Lib.hid (marked_below M_g0_19.out b20 (Nat.le_refl _))
  have R_yf_20 := Lib.hid r20
  clear r20 b20
  go_wp2_with fail
  refine (HT1.out _ (argInt_below HA1.out B20.out)).mono ?_
  rintro e W21 ⟨v21, rfl, r21, b21⟩
  obtain ⟨o21, c21, rfl⟩ := row_slice r21
  have B21 := Lib.hid (B20.out.trans (b21.mono B20.out.size))
  have R_w0_21 := Lib.hid (row_below R_w0_20.out b21 (Nat.le_refl _))
  have R_yf_21 := Lib.hid (row_below R_yf_20.out b21 (Nat.le_refl _))
  have M_g0_21 := Lib.hid (marked_below M_g0_20.out b21 (Nat.le_refl _))
  have R_yg_21 := Lib.hid r21
  clear r21 b21
  go_wp2_with fail
  refine (HI.out _ _ _ _ R_yf_21.out _ _ _ R_yg_21.out).mono ?_
  rintro e W22 ⟨v22, rfl, r22, b22⟩
  have B22 := Lib.hid (B21.out.trans (b22.mono B21.out.size))
  have R_w0_22 := Lib.hid (row_below R_w0_21.out b22 (Nat.le_refl _))
  have R_yf_22 := Lib.hid (row_below R_yf_21.out b22 (Nat.le_refl _))
  have R_yg_22 := Lib.hid (row_below R_yg_21.out b22 (Nat.le_refl _))
  have M_g0_22 := Lib.hid (marked_below M_g0_21.out b22 (Nat.le_refl _))
  have R_h0_22 := Lib.hid r22
  clear r22 b22
  go_wp2_with fail
  refine (eqInt_same R_h0_22.out R_w0_22.out (by omega)).mono ?_
  rintro e W23 ⟨rfl, nd, hw⟩
  have b23 : Below W22.heap.size W22 W23 := by rw [hw]; exact below_drewN (Below.refl _ _) nd
  clear hw nd
  have B23 := Lib.hid (B22.out.trans (b23.mono B22.out.size))
  have R_w0_23 := Lib.hid (row_below R_w0_22.out b23 (Nat.le_refl _))
  have R_h0_23 := Lib.hid (row_below R_h0_22.out b23 (Nat.le_refl _))
  have M_g0_23 := Lib.hid (marked_below M_g0_22.out b23 (Nat.le_refl _))
  clear b23
  go_wp2_with fail
  refine (heldInt M_g0_23.out (by omega) (by omega) (by omega)).mono ?_
  rintro e W24 ⟨rfl, nd, hw⟩
  have b24 : Below W23.heap.size W23 W24 := by rw [hw]; exact below_drewN (Below.refl _ _) nd
  clear hw nd
  have B24 := Lib.hid (B23.out.trans (b24.mono B23.out.size))
  have R_w0_24 := Lib.hid (row_below R_w0_23.out b24 (Nat.le_refl _))
  have R_h0_24 := Lib.hid (row_below R_h0_23.out b24 (Nat.le_refl _))
  have M_g0_24 := Lib.hid (marked_below M_g0_23.out b24 (Nat.le_refl _))
  clear b24
  go_wp2_with fail
  go_ret
  exact ⟨rfl, HBR.out.trans (B24.out.mono HBR.out.size)⟩
theorem exactMulRng_walk (p n : Int) (af : Option Addr) (lenf capf : Nat) (zf : List Int) (ag : Option Addr) (leng capg : Nat) (zg : List Int) (w : World) (_ : (Lit.int .i64 p).wf = true) (_ : (Lit.int .i64 n).wf = true) (hf : (af = none ∧ lenf = 0 ∧ capf = 0 ∧ zf = []) ∨ ∃ x, af = some x ∧ lenf ≤ capf ∧ capf ≤ maxLen ∧ zf.length = capf ∧ (∀ i, i < zf.length → w.cell? (x.add i) = some (.int .i64 (zf.getD i 0))) ∧ ∀ n ∈ zf, (Lit.int .i64 n).wf = true) (hg : (ag = none ∧ leng = 0 ∧ capg = 0 ∧ zg = []) ∨ ∃ x, ag = some x ∧ leng ≤ capg ∧ capg ≤ maxLen ∧ zg.length = capg ∧ (∀ i, i < zg.length → w.cell? (x.add i) = some (.int .i64 (zg.getD i 0))) ∧ ∀ n ∈ zg, (Lit.int .i64 n).wf = true) :
    Calls Try.prog 7 #[.agg #[.int .i64 p, .int .i64 n], .slice af lenf capf, .slice ag leng capg] w fun e w' => e = .returned (.bool true) ∧ Below w.heap.size w w' := by
  have mf := len_of_row hf
  have mg := len_of_row hg
  obtain ⟨lf, ef, kf⟩ := arg_of_row hf
  obtain ⟨lg, eg, kg⟩ := arg_of_row hg
  clear hf hg
  by_cases qf : lenf ≤ 1048576
  · by_cases qg : leng ≤ 1048576
    · subst ef eg
      exact exactMulRng_core p n af capf lf ag capg lg w qf kf qg kg
    · clear kf ef kg eg
      go_enter Try.func7, Try.ntmps7
      go_wp2
      go_ret
      exact ⟨rfl, (Below.refl _ _).alloc (Nat.le_refl _) _⟩
  · clear kf ef kg eg
    go_enter Try.func7, Try.ntmps7
    go_wp2
    go_ret
    exact ⟨rfl, (Below.refl _ _).alloc (Nat.le_refl _) _⟩
end Go.Proofs.Ytbjkcoajabcibaa
