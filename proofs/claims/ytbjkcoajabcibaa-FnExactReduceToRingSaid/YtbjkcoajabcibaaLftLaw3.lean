/- Walks of exact laws of chapter 12: ImageOf, ReduceToRing; true at every input. -/
import Derived.Test.YtbjkcoajabcibaaLftLaw0
namespace Go.Proofs.Ytbjkcoajabcibaa
open Go.RowKit
set_option linter.unusedVariables false
set_option linter.unusedSimpArgs false
set_option maxRecDepth 20000
set_option maxRecDepth 20000 in
set_option maxHeartbeats 2000000 in
theorem exactImg_core (p n : Int) (af : Option Addr) (capf : Nat) (f : List Int) (w : World) (hf : f.length ≤ 1048576) (kf : ArgInt w af f) :
    Calls Try.prog 9 #[.agg #[.int .i64 p, .int .i64 n], .slice af f.length capf] w fun e w' => e = .returned (.bool true) ∧ Below w.heap.size w w' := by
  obtain ⟨wR, hwR⟩ : ∃ wR, w.alloc (.cells #[.int .i64 p, .int .i64 n] 53) = wR := ⟨_, rfl⟩
  have HBR := Lib.hid (show Below w.heap.size w wR by rw [← hwR]; exact (Below.refl _ _).alloc (Nat.le_refl _) _)
  have HR0 := Lib.hid (show wR.cell? ⟨w.heap.size, 0, none⟩ = some (.int .i64 p) by rw [← hwR]; exact World.cell?_alloc_new _ _ _ _ ▸ rfl)
  have HR1 := Lib.hid (show wR.cell? ⟨w.heap.size, 1, none⟩ = some (.int .i64 n) by rw [← hwR]; exact World.cell?_alloc_new _ _ _ _ ▸ rfl)
  have HRL := Lib.hid (show w.heap.size < wR.heap.size by rw [← hwR]; simp)
  have HA0 := Lib.hid (argInt_below kf HBR.out)
  have HT0 := Lib.hid fun (w : World) (h : ArgInt w af f) => toInt64S_any af capf f w hf h
  have hnf : (0 : Int) ≤ (f.length : Int) := Int.natCast_nonneg _
  have HS := Lib.hid fun (w : World) (b : Nat) (o : Option Addr) (c : Nat) (h : IntRow b w (.slice o f.length c) f) => specImg_any p n (row_seen h (show f.length ≤ 1100000 by omega))
  have HI := Lib.hid fun (w : World) (b : Nat) (o : Option Addr) (c : Nat) (h : IntRow b w (.slice o f.length c) f) => implImg_any p n (row_seen h (show f.length ≤ 1100000 by omega))
  have hq : (imgQ p n f).length ≤ 1000 := imgQ_len p n f
  generalize (imgQ p n f) = q at *
  generalize (okR p n f) = c at *
  have hnq : (0 : Int) ≤ (q.length : Int) := Int.natCast_nonneg _
  have B0 := Lib.hid (Below.refl wR.heap.size wR)
  clear kf
  go_enter Try.func9, Try.ntmps9
  have hr0 := (B0.out.cell (p := ⟨w.heap.size, 0, none⟩) HRL.out).trans HR0.out
  have hr1 := (B0.out.cell (p := ⟨w.heap.size, 1, none⟩) HRL.out).trans HR1.out
  go_wp2_with fail
  refine (toRing_any p n _).mono ?_
  rintro e W1 ⟨rfl, b1⟩
  clear hr0 hr1
  have B1 := Lib.hid (B0.out.trans (b1.mono B0.out.size))
  clear b1
  go_wp2_with fail
  refine (HT0.out _ (argInt_below HA0.out B1.out)).mono ?_
  rintro e W2 ⟨v2, rfl, r2, b2⟩
  obtain ⟨o2, c2, rfl⟩ := row_slice r2
  have B2 := Lib.hid (B1.out.trans (b2.mono B1.out.size))
  have R_sf_2 := Lib.hid r2
  clear r2 b2
  go_wp2_with fail
  refine (HS.out _ _ _ _ R_sf_2.out).mono ?_
  rintro e W3 ⟨v3, rfl, r3, b3⟩
  have B3 := Lib.hid (B2.out.trans (b3.mono B2.out.size))
  have R_sf_3 := Lib.hid (row_below R_sf_2.out b3 (Nat.le_refl _))
  have R_w0_3 := Lib.hid r3
  clear r3 b3
  go_wp2_with fail
  refine (HT0.out _ (argInt_below HA0.out B3.out)).mono ?_
  rintro e W4 ⟨v4, rfl, r4, b4⟩
  obtain ⟨o4, c4, rfl⟩ := row_slice r4
  have B4 := Lib.hid (B3.out.trans (b4.mono B3.out.size))
  have R_w0_4 := Lib.hid (row_below R_w0_3.out b4 (Nat.le_refl _))
  have R_xf_4 := Lib.hid r4
  clear r4 b4
  have hr0 := (B4.out.cell (p := ⟨w.heap.size, 0, none⟩) HRL.out).trans HR0.out
  have hr1 := (B4.out.cell (p := ⟨w.heap.size, 1, none⟩) HRL.out).trans HR1.out
  go_wp2_with fail
  refine (toRing_any p n _).mono ?_
  rintro e W5 ⟨rfl, b5⟩
  clear hr0 hr1
  have B5 := Lib.hid (B4.out.trans (b5.mono B4.out.size))
  have R_w0_5 := Lib.hid (row_below R_w0_4.out b5 (Nat.le_refl _))
  have R_xf_5 := Lib.hid (row_below R_xf_4.out b5 (Nat.le_refl _))
  clear b5
  go_wp2_with fail
  refine (HI.out _ _ _ _ R_xf_5.out).mono ?_
  rintro e W6 ⟨v6, rfl, r6, b6⟩
  have B6 := Lib.hid (B5.out.trans (b6.mono B5.out.size))
  have R_w0_6 := Lib.hid (row_below R_w0_5.out b6 (Nat.le_refl _))
  have R_xf_6 := Lib.hid (row_below R_xf_5.out b6 (Nat.le_refl _))
  have R_g0_6 := Lib.hid r6
  clear r6 b6
  go_wp2_with fail
  refine (eqInt_same R_g0_6.out R_w0_6.out (by omega)).mono ?_
  rintro e W7 ⟨rfl, nd, hw⟩
  have b7 : Below W6.heap.size W6 W7 := by rw [hw]; exact below_drewN (Below.refl _ _) nd
  clear hw nd
  have B7 := Lib.hid (B6.out.trans (b7.mono B6.out.size))
  have R_w0_7 := Lib.hid (row_below R_w0_6.out b7 (Nat.le_refl _))
  have R_xf_7 := Lib.hid (row_below R_xf_6.out b7 (Nat.le_refl _))
  have R_g0_7 := Lib.hid (row_below R_g0_6.out b7 (Nat.le_refl _))
  clear b7
  go_wp2_with fail
  refine (HT0.out _ (argInt_below HA0.out B7.out)).mono ?_
  rintro e W8 ⟨v8, rfl, r8, b8⟩
  obtain ⟨o8, c8, rfl⟩ := row_slice r8
  have B8 := Lib.hid (B7.out.trans (b8.mono B7.out.size))
  have R_w0_8 := Lib.hid (row_below R_w0_7.out b8 (Nat.le_refl _))
  have R_xf_8 := Lib.hid (row_below R_xf_7.out b8 (Nat.le_refl _))
  have R_g0_8 := Lib.hid (row_below R_g0_7.out b8 (Nat.le_refl _))
  have R_tf_8 := Lib.hid r8
  clear r8 b8
  go_wp2_with fail
  refine (eqInt_same R_xf_8.out R_tf_8.out (by omega)).mono ?_
  rintro e W9 ⟨rfl, nd, hw⟩
  have b9 : Below W8.heap.size W8 W9 := by rw [hw]; exact below_drewN (Below.refl _ _) nd
  clear hw nd
  have B9 := Lib.hid (B8.out.trans (b9.mono B8.out.size))
  have R_w0_9 := Lib.hid (row_below R_w0_8.out b9 (Nat.le_refl _))
  have R_xf_9 := Lib.hid (row_below R_xf_8.out b9 (Nat.le_refl _))
  have R_g0_9 := Lib.hid (row_below R_g0_8.out b9 (Nat.le_refl _))
  have R_tf_9 := Lib.hid (row_below R_tf_8.out b9 (Nat.le_refl _))
  clear b9
  go_wp2_with fail
  refine (markInt R_xf_9.out (by omega) (by omega) (by omega)).mono ?_
  rintro e W10 ⟨rfl, m10, g10⟩
  have B10 := Lib.hid (below_grown B9.out R_xf_9.out g10 B3.out.size B9.out.size)
  have R_w0_10 := Lib.hid (row_apart R_w0_9.out R_xf_9.out R_w0_3.out (Nat.le_refl _) g10)
  have R_g0_10 := Lib.hid (row_apart2 R_g0_9.out R_xf_5.out (Nat.le_refl _) g10)
  have M_xf_10 := Lib.hid m10
  clear m10 g10
  go_wp2_with fail
  refine (eqInt_same R_g0_10.out R_w0_10.out (by omega)).mono ?_
  rintro e W11 ⟨rfl, nd, hw⟩
  have b11 : Below W10.heap.size W10 W11 := by rw [hw]; exact below_drewN (Below.refl _ _) nd
  clear hw nd
  have B11 := Lib.hid (B10.out.trans (b11.mono B10.out.size))
  have R_w0_11 := Lib.hid (row_below R_w0_10.out b11 (Nat.le_refl _))
  have R_g0_11 := Lib.hid (row_below R_g0_10.out b11 (Nat.le_refl _))
  clear b11
  go_wp2_with fail
  refine (markInt R_g0_11.out (by omega) (by omega) (by omega)).mono ?_
  rintro e W12 ⟨rfl, m12, g12⟩
  have B12 := Lib.hid (below_grown B11.out R_g0_11.out g12 B5.out.size B11.out.size)
  have R_w0_12 := Lib.hid (row_apart R_w0_11.out R_g0_11.out R_w0_5.out (Nat.le_refl _) g12)
  have M_g0_12 := Lib.hid m12
  clear m12 g12
  go_wp2_with fail
  refine (heldInt M_g0_12.out (by omega) (by omega) (by omega)).mono ?_
  rintro e W13 ⟨rfl, nd, hw⟩
  have b13 : Below W12.heap.size W12 W13 := by rw [hw]; exact below_drewN (Below.refl _ _) nd
  clear hw nd
  have B13 := Lib.hid (B12.out.trans (b13.mono B12.out.size))
  have R_w0_13 := Lib.hid (row_below R_w0_12.out b13 (Nat.le_refl _))
  have M_g0_13 := Lib.hid (marked_below M_g0_12.out b13 (Nat.le_refl _))
  clear b13
  have hr0 := (B13.out.cell (p := ⟨w.heap.size, 0, none⟩) HRL.out).trans HR0.out
  have hr1 := (B13.out.cell (p := ⟨w.heap.size, 1, none⟩) HRL.out).trans HR1.out
  go_wp2_with fail
  refine (toRing_any p n _).mono ?_
  rintro e W14 ⟨rfl, b14⟩
  clear hr0 hr1
  have B14 := Lib.hid (B13.out.trans (b14.mono B13.out.size))
  have R_w0_14 := Lib.hid (row_below R_w0_13.out b14 (Nat.le_refl _))
  have M_g0_14 := Lib.hid (marked_below M_g0_13.out b14 (Nat.le_refl _))
  clear b14
  go_wp2_with fail
  refine (HT0.out _ (argInt_below HA0.out B14.out)).mono ?_
  rintro e W15 ⟨v15, rfl, r15, b15⟩
  obtain ⟨o15, c15, rfl⟩ := row_slice r15
  have B15 := Lib.hid (B14.out.trans (b15.mono B14.out.size))
  have R_w0_15 := Lib.hid (row_below R_w0_14.out b15 (Nat.le_refl _))
  have M_g0_15 := Lib.hid (marked_below M_g0_14.out b15 (Nat.le_refl _))
  have R_yf_15 := Lib.hid r15
  clear r15 b15
  go_wp2_with fail
  refine (HI.out _ _ _ _ R_yf_15.out).mono ?_
  rintro e W16 ⟨v16, rfl, r16, b16⟩
  have B16 := Lib.hid (B15.out.trans (b16.mono B15.out.size))
  have R_w0_16 := Lib.hid (row_below R_w0_15.out b16 (Nat.le_refl _))
  have R_yf_16 := Lib.hid (row_below R_yf_15.out b16 (Nat.le_refl _))
  have M_g0_16 := Lib.hid (marked_below M_g0_15.out b16 (Nat.le_refl _))
  have R_h0_16 := Lib.hid r16
  clear r16 b16
  go_wp2_with fail
  refine (eqInt_same R_h0_16.out R_w0_16.out (by omega)).mono ?_
  rintro e W17 ⟨rfl, nd, hw⟩
  have b17 : Below W16.heap.size W16 W17 := by rw [hw]; exact below_drewN (Below.refl _ _) nd
  clear hw nd
  have B17 := Lib.hid (B16.out.trans (b17.mono B16.out.size))
  have R_w0_17 := Lib.hid (row_below R_w0_16.out b17 (Nat.le_refl _))
  have R_h0_17 := Lib.hid (row_below R_h0_16.out b17 (Nat.le_refl _))
  have M_g0_17 := Lib.hid (marked_below M_g0_16.out b17 (Nat.le_refl _))
  clear b17
  go_wp2_with fail
  refine (heldInt M_g0_17.out (by omega) (by omega) (by omega)).mono ?_
  rintro e W18 ⟨rfl, nd, hw⟩
  have b18 : Below W17.heap.size W17 W18 := by rw [hw]; exact below_drewN (Below.refl _ _) nd
  clear hw nd
  have B18 := Lib.hid (B17.out.trans (b18.mono B17.out.size))
  have R_w0_18 := Lib.hid (row_below R_w0_17.out b18 (Nat.le_refl _))
  have R_h0_18 := Lib.hid (row_below R_h0_17.out b18 (Nat.le_refl _))
  have M_g0_18 := Lib.hid (marked_below M_g0_17.out b18 (Nat.le_refl _))
  clear b18
  go_wp2_with fail
  go_ret
  exact ⟨rfl, HBR.out.trans (B18.out.mono HBR.out.size)⟩
theorem exactImg_walk (p n : Int) (af : Option Addr) (lenf capf : Nat) (zf : List Int) (w : World) (_ : (Lit.int .i64 p).wf = true) (_ : (Lit.int .i64 n).wf = true) (hf : (af = none ∧ lenf = 0 ∧ capf = 0 ∧ zf = []) ∨ ∃ x, af = some x ∧ lenf ≤ capf ∧ capf ≤ maxLen ∧ zf.length = capf ∧ (∀ i, i < zf.length → w.cell? (x.add i) = some (.int .i64 (zf.getD i 0))) ∧ ∀ n ∈ zf, (Lit.int .i64 n).wf = true) :
    Calls Try.prog 9 #[.agg #[.int .i64 p, .int .i64 n], .slice af lenf capf] w fun e w' => e = .returned (.bool true) ∧ Below w.heap.size w w' := by
  have mf := len_of_row hf
  obtain ⟨lf, ef, kf⟩ := arg_of_row hf
  clear hf
  by_cases qf : lenf ≤ 1048576
  · subst ef
    exact exactImg_core p n af capf lf w qf kf
  · clear kf ef
    go_enter Try.func9, Try.ntmps9
    go_wp2
    go_ret
    exact ⟨rfl, (Below.refl _ _).alloc (Nat.le_refl _) _⟩
set_option maxRecDepth 20000 in
set_option maxHeartbeats 2000000 in
theorem exactRtr_core (p n : Int) (af : Option Addr) (capf : Nat) (f : List Int) (w : World) (hf : f.length ≤ 1048576) (kf : ArgInt w af f) :
    Calls Try.prog 12 #[.agg #[.int .i64 p, .int .i64 n], .slice af f.length capf] w fun e w' => e = .returned (.bool true) ∧ Below w.heap.size w w' := by
  obtain ⟨wR, hwR⟩ : ∃ wR, w.alloc (.cells #[.int .i64 p, .int .i64 n] 53) = wR := ⟨_, rfl⟩
  have HBR := Lib.hid (show Below w.heap.size w wR by rw [← hwR]; exact (Below.refl _ _).alloc (Nat.le_refl _) _)
  have HR0 := Lib.hid (show wR.cell? ⟨w.heap.size, 0, none⟩ = some (.int .i64 p) by rw [← hwR]; exact World.cell?_alloc_new _ _ _ _ ▸ rfl)
  have HR1 := Lib.hid (show wR.cell? ⟨w.heap.size, 1, none⟩ = some (.int .i64 n) by rw [← hwR]; exact World.cell?_alloc_new _ _ _ _ ▸ rfl)
  have HRL := Lib.hid (show w.heap.size < wR.heap.size by rw [← hwR]; simp)
  have HA0 := Lib.hid (argInt_below kf HBR.out)
  have HT0 := Lib.hid fun (w : World) (h : ArgInt w af f) => toInt64S_any af capf f w hf h
  have hnf : (0 : Int) ≤ (f.length : Int) := Int.natCast_nonneg _
  have HS := Lib.hid fun (w : World) (b : Nat) (o : Option Addr) (c : Nat) (h : IntRow b w (.slice o f.length c) f) => specRtr_any p n (row_seen h (show f.length ≤ 1100000 by omega))
  have HI := Lib.hid fun (w : World) (b : Nat) (o : Option Addr) (c : Nat) (h : IntRow b w (.slice o f.length c) f) => implRtr_any p n (row_seen h (show f.length ≤ 1100000 by omega))
  have hq : (rtrQ p n f).length ≤ 1000 := rtrQ_len p n f
  generalize (rtrQ p n f) = q at *
  generalize (rtrC p n f) = c at *
  have hnq : (0 : Int) ≤ (q.length : Int) := Int.natCast_nonneg _
  have B0 := Lib.hid (Below.refl wR.heap.size wR)
  clear kf
  go_enter Try.func12, Try.ntmps12
  have hr0 := (B0.out.cell (p := ⟨w.heap.size, 0, none⟩) HRL.out).trans HR0.out
  have hr1 := (B0.out.cell (p := ⟨w.heap.size, 1, none⟩) HRL.out).trans HR1.out
  go_wp2_with fail
  refine (toRing_any p n _).mono ?_
  rintro e W1 ⟨rfl, b1⟩
  clear hr0 hr1
  have B1 := Lib.hid (B0.out.trans (b1.mono B0.out.size))
  clear b1
  go_wp2_with fail
  refine (HT0.out _ (argInt_below HA0.out B1.out)).mono ?_
  rintro e W2 ⟨v2, rfl, r2, b2⟩
  obtain ⟨o2, c2, rfl⟩ := row_slice r2
  have B2 := Lib.hid (B1.out.trans (b2.mono B1.out.size))
  have R_sf_2 := Lib.hid r2
  clear r2 b2
  go_wp2_with fail
  refine (HS.out _ _ _ _ R_sf_2.out).mono ?_
  rintro e W3 ⟨v3, rfl, r3, b3⟩
  have B3 := Lib.hid (B2.out.trans (b3.mono B2.out.size))
  have R_sf_3 := Lib.hid (row_below R_sf_2.out b3 (Nat.le_refl _))
  have R_w0_3 := Lib.hid r3
  clear r3 b3
  go_wp2_with fail
  refine (HT0.out _ (argInt_below HA0.out B3.out)).mono ?_
  rintro e W4 ⟨v4, rfl, r4, b4⟩
  obtain ⟨o4, c4, rfl⟩ := row_slice r4
  have B4 := Lib.hid (B3.out.trans (b4.mono B3.out.size))
  have R_w0_4 := Lib.hid (row_below R_w0_3.out b4 (Nat.le_refl _))
  have R_xf_4 := Lib.hid r4
  clear r4 b4
  have hr0 := (B4.out.cell (p := ⟨w.heap.size, 0, none⟩) HRL.out).trans HR0.out
  have hr1 := (B4.out.cell (p := ⟨w.heap.size, 1, none⟩) HRL.out).trans HR1.out
  go_wp2_with fail
  refine (toRing_any p n _).mono ?_
  rintro e W5 ⟨rfl, b5⟩
  clear hr0 hr1
  have B5 := Lib.hid (B4.out.trans (b5.mono B4.out.size))
  have R_w0_5 := Lib.hid (row_below R_w0_4.out b5 (Nat.le_refl _))
  have R_xf_5 := Lib.hid (row_below R_xf_4.out b5 (Nat.le_refl _))
  clear b5
  go_wp2_with fail
  refine (HI.out _ _ _ _ R_xf_5.out).mono ?_
  rintro e W6 ⟨v6, rfl, r6, b6⟩
  have B6 := Lib.hid (B5.out.trans (b6.mono B5.out.size))
  have R_w0_6 := Lib.hid (row_below R_w0_5.out b6 (Nat.le_refl _))
  have R_xf_6 := Lib.hid (row_below R_xf_5.out b6 (Nat.le_refl _))
  have R_g0_6 := Lib.hid r6
  clear r6 b6
  go_wp2_with fail
  refine (eqInt_same R_g0_6.out R_w0_6.out (by omega)).mono ?_
  rintro e W7 ⟨rfl, nd, hw⟩
  have b7 : Below W6.heap.size W6 W7 := by rw [hw]; exact below_drewN (Below.refl _ _) nd
  clear hw nd
  have B7 := Lib.hid (B6.out.trans (b7.mono B6.out.size))
  have R_w0_7 := Lib.hid (row_below R_w0_6.out b7 (Nat.le_refl _))
  have R_xf_7 := Lib.hid (row_below R_xf_6.out b7 (Nat.le_refl _))
  have R_g0_7 := Lib.hid (row_below R_g0_6.out b7 (Nat.le_refl _))
  clear b7
  go_wp2_with fail
  refine (HT0.out _ (argInt_below HA0.out B7.out)).mono ?_
  rintro e W8 ⟨v8, rfl, r8, b8⟩
  obtain ⟨o8, c8, rfl⟩ := row_slice r8
  have B8 := Lib.hid (B7.out.trans (b8.mono B7.out.size))
  have R_w0_8 := Lib.hid (row_below R_w0_7.out b8 (Nat.le_refl _))
  have R_xf_8 := Lib.hid (row_below R_xf_7.out b8 (Nat.le_refl _))
  have R_g0_8 := Lib.hid (row_below R_g0_7.out b8 (Nat.le_refl _))
  have R_tf_8 := Lib.hid r8
  clear r8 b8
  go_wp2_with fail
  refine (eqInt_same R_xf_8.out R_tf_8.out (by omega)).mono ?_
  rintro e W9 ⟨rfl, nd, hw⟩
  have b9 : Below W8.heap.size W8 W9 := by rw [hw]; exact below_drewN (Below.refl _ _) nd
  clear hw nd
  have B9 := Lib.hid (B8.out.trans (b9.mono B8.out.size))
  have R_w0_9 := Lib.hid (row_below R_w0_8.out b9 (Nat.le_refl _))
  have R_xf_9 := Lib.hid (row_below R_xf_8.out b9 (Nat.le_refl _))
  have R_g0_9 := Lib.hid (row_below R_g0_8.out b9 (Nat.le_refl _))
  have R_tf_9 := Lib.hid (row_below R_tf_8.out b9 (Nat.le_refl _))
  clear b9
  go_wp2_with fail
  refine (markInt R_xf_9.out (by omega) (by omega) (by omega)).mono ?_
  rintro e W10 ⟨rfl, m10, g10⟩
  have B10 := Lib.hid (below_grown B9.out R_xf_9.out g10 B3.out.size B9.out.size)
  have R_w0_10 := Lib.hid (row_apart R_w0_9.out R_xf_9.out R_w0_3.out (Nat.le_refl _) g10)
  have R_g0_10 := Lib.hid (row_apart2 R_g0_9.out R_xf_5.out (Nat.le_refl _) g10)
  have M_xf_10 := Lib.hid m10
  clear m10 g10
  go_wp2_with fail
  refine (eqInt_same R_g0_10.out R_w0_10.out (by omega)).mono ?_
  rintro e W11 ⟨rfl, nd, hw⟩
  have b11 : Below W10.heap.size W10 W11 := by rw [hw]; exact below_drewN (Below.refl _ _) nd
  clear hw nd
  have B11 := Lib.hid (B10.out.trans (b11.mono B10.out.size))
  have R_w0_11 := Lib.hid (row_below R_w0_10.out b11 (Nat.le_refl _))
  have R_g0_11 := Lib.hid (row_below R_g0_10.out b11 (Nat.le_refl _))
  clear b11
  go_wp2_with fail
  refine (markInt R_g0_11.out (by omega) (by omega) (by omega)).mono ?_
  rintro e W12 ⟨rfl, m12, g12⟩
  have B12 := Lib.hid (below_grown B11.out R_g0_11.out g12 B5.out.size B11.out.size)
  have R_w0_12 := Lib.hid (row_apart R_w0_11.out R_g0_11.out R_w0_5.out (Nat.le_refl _) g12)
  have M_g0_12 := Lib.hid m12
  clear m12 g12
  go_wp2_with fail
  refine (heldInt M_g0_12.out (by omega) (by omega) (by omega)).mono ?_
  rintro e W13 ⟨rfl, nd, hw⟩
  have b13 : Below W12.heap.size W12 W13 := by rw [hw]; exact below_drewN (Below.refl _ _) nd
  clear hw nd
  have B13 := Lib.hid (B12.out.trans (b13.mono B12.out.size))
  have R_w0_13 := Lib.hid (row_below R_w0_12.out b13 (Nat.le_refl _))
  have M_g0_13 := Lib.hid (marked_below M_g0_12.out b13 (Nat.le_refl _))
  clear b13
  have hr0 := (B13.out.cell (p := ⟨w.heap.size, 0, none⟩) HRL.out).trans HR0.out
  have hr1 := (B13.out.cell (p := ⟨w.heap.size, 1, none⟩) HRL.out).trans HR1.out
  go_wp2_with fail
  refine (toRing_any p n _).mono ?_
  rintro e W14 ⟨rfl, b14⟩
  clear hr0 hr1
  have B14 := Lib.hid (B13.out.trans (b14.mono B13.out.size))
  have R_w0_14 := Lib.hid (row_below R_w0_13.out b14 (Nat.le_refl _))
  have M_g0_14 := Lib.hid (marked_below M_g0_13.out b14 (Nat.le_refl _))
  clear b14
  go_wp2_with fail
  refine (HT0.out _ (argInt_below HA0.out B14.out)).mono ?_
  rintro e W15 ⟨v15, rfl, r15, b15⟩
  obtain ⟨o15, c15, rfl⟩ := row_slice r15
  have B15 := Lib.hid (B14.out.trans (b15.mono B14.out.size))
  have R_w0_15 := Lib.hid (row_below R_w0_14.out b15 (Nat.le_refl _))
  have M_g0_15 := Lib.hid (marked_below M_g0_14.out b15 (Nat.le_refl _))
  have R_yf_15 := Lib.hid r15
  clear r15 b15
  go_wp2_with fail
  refine (HI.out _ _ _ _ R_yf_15.out).mono ?_
  rintro e W16 ⟨v16, rfl, r16, b16⟩
  have B16 := Lib.hid (B15.out.trans (b16.mono B15.out.size))
  have R_w0_16 := Lib.hid (row_below R_w0_15.out b16 (Nat.le_refl _))
  have R_yf_16 := Lib.hid (row_below R_yf_15.out b16 (Nat.le_refl _))
  have M_g0_16 := Lib.hid (marked_below M_g0_15.out b16 (Nat.le_refl _))
  have R_h0_16 := Lib.hid r16
  clear r16 b16
  go_wp2_with fail
  refine (eqInt_same R_h0_16.out R_w0_16.out (by omega)).mono ?_
  rintro e W17 ⟨rfl, nd, hw⟩
  have b17 : Below W16.heap.size W16 W17 := by rw [hw]; exact below_drewN (Below.refl _ _) nd
  clear hw nd
  have B17 := Lib.hid (B16.out.trans (b17.mono B16.out.size))
  have R_w0_17 := Lib.hid (row_below R_w0_16.out b17 (Nat.le_refl _))
  have R_h0_17 := Lib.hid (row_below R_h0_16.out b17 (Nat.le_refl _))
  have M_g0_17 := Lib.hid (marked_below M_g0_16.out b17 (Nat.le_refl _))
  clear b17
  go_wp2_with fail
  refine (heldInt M_g0_17.out (by omega) (by omega) (by omega)).mono ?_
  rintro e W18 ⟨rfl, nd, hw⟩
  have b18 : Below W17.heap.size W17 W18 := by rw [hw]; exact below_drewN (Below.refl _ _) nd
  clear hw nd
  have B18 := Lib.hid (B17.out.trans (b18.mono B17.out.size))
  have R_w0_18 := Lib.hid (row_below R_w0_17.out b18 (Nat.le_refl _))
  have R_h0_18 := Lib.hid (row_below R_h0_17.out b18 (Nat.le_refl _))
  have M_g0_18 := Lib.hid (marked_below M_g0_17.out b18 (Nat.le_refl _))
  clear b18
  go_wp2_with fail
  go_ret
  exact ⟨rfl, HBR.out.trans (B18.out.mono HBR.out.size)⟩
theorem exactRtr_walk (p n : Int) (af : Option Addr) (lenf capf : Nat) (zf : List Int) (w : World) (_ : (Lit.int .i64 p).wf = true) (_ : (Lit.int .i64 n).wf = true) (hf : (af = none ∧ lenf = 0 ∧ capf = 0 ∧ zf = []) ∨ ∃ x, af = some x ∧ lenf ≤ capf ∧ capf ≤ maxLen ∧ zf.length = capf ∧ (∀ i, i < zf.length → w.cell? (x.add i) = some (.int .i64 (zf.getD i 0))) ∧ ∀ n ∈ zf, (Lit.int .i64 n).wf = true) :
    Calls Try.prog 12 #[.agg #[.int .i64 p, .int .i64 n], .slice af lenf capf] w fun e w' => e = .returned (.bool true) ∧ Below w.heap.size w w' := by
  have mf := len_of_row hf
  obtain ⟨lf, ef, kf⟩ := arg_of_row hf
  clear hf
  by_cases qf : lenf ≤ 1048576
  · subst ef
    exact exactRtr_core p n af capf lf w qf kf
  · clear kf ef
    go_enter Try.func12, Try.ntmps12
    go_wp2
    go_ret
    exact ⟨rfl, (Below.refl _ _).alloc (Nat.le_refl _) _⟩
end Go.Proofs.Ytbjkcoajabcibaa
