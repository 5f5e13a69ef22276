/- Walks of exact laws of chapter 7: PowerSums; true at every input. -/
import Derived.Test.YtbolmmgkmgmfeaaPowSpec
namespace Go.Proofs.Ytbolmmgkmgmfeaa
open Go.RowKit
set_option linter.unusedVariables false
set_option linter.unusedSimpArgs false
set_option maxRecDepth 20000 in
set_option maxHeartbeats 1000000 in
theorem exactPS_core (af : Option Addr) (capf : Nat) (f : List Int) (x : Int) (w : World) (hf : f.length ≤ 1048576) (kf : ArgInt w af f) :
    Calls Try.prog 9 #[.slice af f.length capf, .int .i64 x] w fun e w' => e = .returned (.bool true) ∧ Below w.heap.size w w' := by
  have HA0 := Lib.hid kf
  have HT0 := Lib.hid fun (w : World) (h : ArgInt w af f) => toInt64S_any af capf f w hf h
  have hnf : (0 : Int) ≤ (f.length : Int) := Int.natCast_nonneg _
  have HS := Lib.hid fun (w : World) (b : Nat) (o : Option Addr) (c : Nat) (h : IntRow b w (.slice o f.length c) f) => specPS_any x (row_seen h (show f.length ≤ 1100000 by omega))
  have HI := Lib.hid fun (w : World) (b : Nat) (o : Option Addr) (c : Nat) (h : IntRow b w (.slice o f.length c) f) => implPS_any x (row_seen h (show f.length ≤ 1100000 by omega))
  have hq : (psQ f x).length ≤ 9 := psQ_len f x
  generalize (psQ f x) = q at *
  generalize (psC f x) = c at *
  have hnq : (0 : Int) ≤ (q.length : Int) := Int.natCast_nonneg _
  have B0 := Lib.hid (Below.refl w.heap.size w)
  clear kf
  go_enter Try.func9, Try.ntmps9
  go_wp2_with fail
  refine (HT0.out _ (argInt_below HA0.out B0.out)).mono ?_
  rintro e W1 ⟨v1, rfl, r1, b1⟩
  obtain ⟨o1, c1, rfl⟩ := row_slice r1
  have B1 := Lib.hid (B0.out.trans (b1.mono B0.out.size))
  have R_sf_1 := Lib.hid r1
  clear r1 b1
  go_wp2_with fail
  refine (HS.out _ _ _ _ R_sf_1.out).mono ?_
  rintro e W2 ⟨v2, rfl, r2, b2⟩
  have B2 := Lib.hid (B1.out.trans (b2.mono B1.out.size))
  have R_sf_2 := Lib.hid (row_below R_sf_1.out b2 (Nat.le_refl _))
  have R_w0_2 := Lib.hid r2
  clear r2 b2
  go_wp2_with fail
  refine (HT0.out _ (argInt_below HA0.out B2.out)).mono ?_
  rintro e W3 ⟨v3, rfl, r3, b3⟩
  obtain ⟨o3, c3, rfl⟩ := row_slice r3
  have B3 := Lib.hid (B2.out.trans (b3.mono B2.out.size))
  have R_w0_3 := Lib.hid (row_below R_w0_2.out b3 (Nat.le_refl _))
  have R_xf_3 := Lib.hid r3
  clear r3 b3
  go_wp2_with fail
  refine (HI.out _ _ _ _ R_xf_3.out).mono ?_
  rintro e W4 ⟨v4, rfl, r4, b4⟩
  have B4 := Lib.hid (B3.out.trans (b4.mono B3.out.size))
  have R_w0_4 := Lib.hid (row_below R_w0_3.out b4 (Nat.le_refl _))
  have R_xf_4 := Lib.hid (row_below R_xf_3.out b4 (Nat.le_refl _))
  have R_g0_4 := Lib.hid r4
  clear r4 b4
  go_wp2_with fail
  refine (eqInt_same R_g0_4.out R_w0_4.out (by omega)).mono ?_
  rintro e W5 ⟨rfl, nd, hw⟩
  have b5 : Below W4.heap.size W4 W5 := by rw [hw]; exact below_drewN (Below.refl _ _) nd
  clear hw nd
  have B5 := Lib.hid (B4.out.trans (b5.mono B4.out.size))
  have R_w0_5 := Lib.hid (row_below R_w0_4.out b5 (Nat.le_refl _))
  have R_xf_5 := Lib.hid (row_below R_xf_4.out b5 (Nat.le_refl _))
  have R_g0_5 := Lib.hid (row_below R_g0_4.out b5 (Nat.le_refl _))
  clear b5
  go_wp2_with fail
  refine (HT0.out _ (argInt_below HA0.out B5.out)).mono ?_
  rintro e W6 ⟨v6, rfl, r6, b6⟩
  obtain ⟨o6, c6, rfl⟩ := row_slice r6
  have B6 := Lib.hid (B5.out.trans (b6.mono B5.out.size))
  have R_w0_6 := Lib.hid (row_below R_w0_5.out b6 (Nat.le_refl _))
  have R_xf_6 := Lib.hid (row_below R_xf_5.out b6 (Nat.le_refl _))
  have R_g0_6 := Lib.hid (row_below R_g0_5.out b6 (Nat.le_refl _))
  have R_tf_6 := Lib.hid r6
  clear r6 b6
  go_wp2_with fail
  refine (eqInt_same R_xf_6.out R_tf_6.out (by omega)).mono ?_
  rintro e W7 ⟨rfl, nd, hw⟩
  have b7 : Below W6.heap.size W6 W7 := by rw [hw]; exact below_drewN (Below.refl _ _) nd
  clear hw nd
  have B7 := Lib.hid (B6.out.trans (b7.mono B6.out.size))
  have R_w0_7 := Lib.hid (row_below R_w0_6.out b7 (Nat.le_refl _))
  have R_xf_7 := Lib.hid (row_below R_xf_6.out b7 (Nat.le_refl _))
  have R_g0_7 := Lib.hid (row_below R_g0_6.out b7 (Nat.le_refl _))
  have R_tf_7 := Lib.hid (row_below R_tf_6.out b7 (Nat.le_refl _))
  clear b7
  go_wp2_with fail
  refine (markInt R_xf_7.out (by omega) (by omega) (by omega)).mono ?_
  rintro e W8 ⟨rfl, m8, g8⟩
  have B8 := Lib.hid (below_grown B7.out R_xf_7.out g8 B2.out.size B7.out.size)
  have R_w0_8 := Lib.hid (row_apart R_w0_7.out R_xf_7.out R_w0_2.out (Nat.le_refl _) g8)
  have R_g0_8 := Lib.hid (row_apart2 R_g0_7.out R_xf_3.out (Nat.le_refl _) g8)
  have M_xf_8 := Lib.hid m8
  clear m8 g8
  go_wp2_with fail
  refine (eqInt_same R_g0_8.out R_w0_8.out (by omega)).mono ?_
  rintro e W9 ⟨rfl, nd, hw⟩
  have b9 : Below W8.heap.size W8 W9 := by rw [hw]; exact below_drewN (Below.refl _ _) nd
  clear hw nd
  have B9 := Lib.hid (B8.out.trans (b9.mono B8.out.size))
  have R_w0_9 := Lib.hid (row_below R_w0_8.out b9 (Nat.le_refl _))
  have R_g0_9 := Lib.hid (row_below R_g0_8.out b9 (Nat.le_refl _))
  clear b9
  go_wp2_with fail
  refine (markInt R_g0_9.out (by omega) (by omega) (by omega)).mono ?_
  rintro e W10 ⟨rfl, m10, g10⟩
  have B10 := Lib.hid (below_grown B9.out R_g0_9.out g10 B3.out.size B9.out.size)
  have R_w0_10 := Lib.hid (row_apart R_w0_9.out R_g0_9.out R_w0_3.out (Nat.le_refl _) g10)
  have M_g0_10 := Lib.hid m10
  clear m10 g10
  go_wp2_with fail
  refine (heldInt M_g0_10.out (by omega) (by omega) (by omega)).mono ?_
  rintro e W11 ⟨rfl, nd, hw⟩
  have b11 : Below W10.heap.size W10 W11 := by rw [hw]; exact below_drewN (Below.refl _ _) nd
  clear hw nd
  have B11 := Lib.hid (B10.out.trans (b11.mono B10.out.size))
  have R_w0_11 := Lib.hid (row_below R_w0_10.out b11 (Nat.le_refl _))
  have M_g0_11 := Lib.hid (marked_below M_g0_10.out b11 (Nat.le_refl _))
  clear b11
  go_wp2_with fail
  refine (HT0.out _ (argInt_below HA0.out B11.out)).mono ?_
  rintro e W12 ⟨v12, rfl, r12, b12⟩
  obtain ⟨o12, c12, rfl⟩ := row_slice r12
  have B12 := Lib.hid (B11.out.trans (b12.mono B11.out.size))
  have R_w0_12 := Lib.hid (row_below R_w0_11.out b12 (Nat.le_refl _))
  have M_g0_12 := Lib.hid (marked_below M_g0_11.out b12 (Nat.le_refl _))
  have R_yf_12 := Lib.hid r12
  clear r12 b12
  go_wp2_with fail
  refine (HI.out _ _ _ _ R_yf_12.out).mono ?_
  rintro e W13 ⟨v13, rfl, r13, b13⟩
  have B13 := Lib.hid (B12.out.trans (b13.mono B12.out.size))
  have R_w0_13 := Lib.hid (row_below R_w0_12.out b13 (Nat.le_refl _))
  have R_yf_13 := Lib.hid (row_below R_yf_12.out b13 (Nat.le_refl _))
  have M_g0_13 := Lib.hid (marked_below M_g0_12.out b13 (Nat.le_refl _))
  have R_h0_13 := Lib.hid r13
  clear r13 b13
  go_wp2_with fail
  refine (eqInt_same R_h0_13.out R_w0_13.out (by omega)).mono ?_
  rintro e W14 ⟨rfl, nd, hw⟩
  have b14 : Below W13.heap.size W13 W14 := by rw [hw]; exact below_drewN (Below.refl _ _) nd
  clear hw nd
  have B14 := Lib.hid (B13.out.trans (b14.mono B13.out.size))
  have R_w0_14 := Lib.hid (row_below R_w0_13.out b14 (Nat.le_refl _))
  have R_h0_14 := Lib.hid (row_below R_h0_13.out b14 (Nat.le_refl _))
  have M_g0_14 := Lib.hid (marked_below M_g0_13.out b14 (Nat.le_refl _))
  clear b14
  go_wp2_with fail
  refine (heldInt M_g0_14.out (by omega) (by omega) (by omega)).mono ?_
  rintro e W15 ⟨rfl, nd, hw⟩
  have b15 : Below W14.heap.size W14 W15 := by rw [hw]; exact below_drewN (Below.refl _ _) nd
  clear hw nd
  have B15 := Lib.hid (B14.out.trans (b15.mono B14.out.size))
  have R_w0_15 := Lib.hid (row_below R_w0_14.out b15 (Nat.le_refl _))
  have R_h0_15 := Lib.hid (row_below R_h0_14.out b15 (Nat.le_refl _))
  have M_g0_15 := Lib.hid (marked_below M_g0_14.out b15 (Nat.le_refl _))
  clear b15
  go_wp2_with fail
  go_ret
  exact ⟨rfl, B15.out⟩
theorem exactPS_walk (af : Option Addr) (lenf capf : Nat) (zf : List Int) (x : Int) (w : World) (hf : (af = none ∧ lenf = 0 ∧ capf = 0 ∧ zf = []) ∨ ∃ x, af = some x ∧ lenf ≤ capf ∧ capf ≤ maxLen ∧ zf.length = capf ∧ (∀ i, i < zf.length → w.cell? (x.add i) = some (.int .i64 (zf.getD i 0))) ∧ ∀ n ∈ zf, (Lit.int .i64 n).wf = true) (_ : (Lit.int .i64 x).wf = true) :
    Calls Try.prog 9 #[.slice af lenf capf, .int .i64 x] w fun e w' => e = .returned (.bool true) ∧ Below w.heap.size w w' := by
  have mf := len_of_row hf
  obtain ⟨lf, ef, kf⟩ := arg_of_row hf
  clear hf
  by_cases qf : lenf ≤ 1048576
  · subst ef
    exact exactPS_core af capf lf x w qf kf
  · clear kf ef
    go_enter Try.func9, Try.ntmps9
    go_wp2
    go_ret
    exact ⟨rfl, Below.refl _ _⟩
end Go.Proofs.Ytbolmmgkmgmfeaa
