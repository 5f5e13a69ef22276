/- Walks of exact laws of chapter 12: ArePair; true at every input. -/
import Derived.Test.YtbjkcoajabcibaaLftLaw0
namespace Go.Proofs.Ytbjkcoajabcibaa
open Go.RowKit
set_option linter.unusedVariables false
set_option linter.unusedSimpArgs false
set_option maxRecDepth 20000
set_option maxRecDepth 20000 in
set_option maxHeartbeats 2000000 in
theorem exactArp_core (p n : Int) (af : Option Addr) (capf : Nat) (f : List Int) (ag : Option Addr) (capg : Nat) (g : List Int) (ad : Option Addr) (capd : Nat) (d : List Int) (w : World) (hf : f.length ≤ 1048576) (kf : ArgInt w af f) (hg : g.length ≤ 1048576) (kg : ArgInt w ag g) (hd : d.length ≤ 1048576) (kd : ArgInt w ad d) :
    Calls Try.prog 10 #[.agg #[.int .i64 p, .int .i64 n], .slice af f.length capf, .slice ag g.length capg, .slice ad d.length capd] w fun e w' => e = .returned (.bool true) ∧ Below w.heap.size w w' := by
  obtain ⟨wR, hwR⟩ : ∃ wR, w.alloc (.cells #[.int .i64 p, .int .i64 n] 53) = wR := ⟨_, rfl⟩
  have HBR := Lib.hid (show Below w.heap.size w wR by rw [← hwR]; exact (Below.refl _ _).alloc (Nat.le_refl _) _)
  have HR0 := Lib.hid (show wR.cell? ⟨w.heap.size, 0, none⟩ = some (.int .i64 p) by rw [← hwR]; exact World.cell?_alloc_new _ _ _ _ ▸ rfl)
  have HR1 := Lib.hid (show wR.cell? ⟨w.heap.size, 1, none⟩ = some (.int .i64 n) by rw [← hwR]; exact World.cell?_alloc_new _ _ _ _ ▸ rfl)
  have HRL := Lib.hid (show w.heap.size < wR.heap.size by rw [← hwR]; simp)
  have HA0 := Lib.hid (argInt_below kf HBR.out)
  have HT0 := Lib.hid fun (w : World) (h : ArgInt w af f) => toInt64S_any af capf f w hf h
  have hnf : (0 : Int) ≤ (f.length : Int) := Int.natCast_nonneg _
  have HA1 := Lib.hid (argInt_below kg HBR.out)
  have HT1 := Lib.hid fun (w : World) (h : ArgInt w ag g) => toInt64S_any ag capg g w hg h
  have hng : (0 : Int) ≤ (g.length : Int) := Int.natCast_nonneg _
  have HA2 := Lib.hid (argInt_below kd HBR.out)
  have HT2 := Lib.hid fun (w : World) (h : ArgInt w ad d) => toInt64S_any ad capd d w hd h
  have hnd : (0 : Int) ≤ (d.length : Int) := Int.natCast_nonneg _
  have HS := Lib.hid fun (w : World) (b : Nat) (o : Option Addr) (c : Nat) (h : IntRow b w (.slice o f.length c) f) (b' : Nat) (o' : Option Addr) (c' : Nat) (h' : IntRow b' w (.slice o' g.length c') g) (b'' : Nat) (o'' : Option Addr) (c'' : Nat) (h'' : IntRow b'' w (.slice o'' d.length c'') d) => specArp_any p n (row_seen h (show f.length ≤ 1100000 by omega)) (row_seen h' (show g.length ≤ 1100000 by omega)) (row_seen h'' (show d.length ≤ 1100000 by omega))
  have HI := Lib.hid fun (w : World) (b : Nat) (o : Option Addr) (c : Nat) (h : IntRow b w (.slice o f.length c) f) (b' : Nat) (o' : Option Addr) (c' : Nat) (h' : IntRow b' w (.slice o' g.length c') g) (b'' : Nat) (o'' : Option Addr) (c'' : Nat) (h'' : IntRow b'' w (.slice o'' d.length c'') d) => implArp_any p n (row_seen h (show f.length ≤ 1100000 by omega)) (row_seen h' (show g.length ≤ 1100000 by omega)) (row_seen h'' (show d.length ≤ 1100000 by omega))
  generalize (arpB p n f g d) = q at *
  generalize (lftC p n f g d) = c at *
  have B0 := Lib.hid (Below.refl wR.heap.size wR)
  clear kf kg kd
  go_enter Try.func10, Try.ntmps10
  have hr0 := (B0.out.cell (p := ⟨w.heap.size, 0, none⟩) HRL.out).trans HR0.out
  have hr1 := (B0.out.cell (p := ⟨w.heap.size, 1, none⟩) HRL.out).trans HR1.out
  go_wp2_with fail
  refine (toRing_any p n _).mono ?_
  rintro e W1 ⟨rfl, b1⟩
  clear hr0 hr1
  have B1 := Lib.hid (B0.out.trans (b1.mono B0.out.size))
  clear b1
  go_wp2_with fail
  refine (HT0.out _ (argInt_below HA0.out B1.out)).mono ?_
  rintro e W2 ⟨v2, rfl, r2, b2⟩
  obtain ⟨o2, c2, rfl⟩ := row_slice r2
  have B2 := Lib.hid (B1.out.trans (b2.mono B1.out.size))
  have R_sf_2 := Lib.hid r2
  clear r2 b2
  go_wp2_with fail
  refine (HT1.out _ (argInt_below HA1.out B2.out)).mono ?_
  rintro e W3 ⟨v3, rfl, r3, b3⟩
  obtain ⟨o3, c3, rfl⟩ := row_slice r3
  have B3 := Lib.hid (B2.out.trans (b3.mono B2.out.size))
  have R_sf_3 := Lib.hid (row_below R_sf_2.out b3 (Nat.le_refl _))
  have R_sg_3 := Lib.hid r3
  clear r3 b3
  go_wp2_with fail
  refine (HT2.out _ (argInt_below HA2.out B3.out)).mono ?_
  rintro e W4 ⟨v4, rfl, r4, b4⟩
  obtain ⟨o4, c4, rfl⟩ := row_slice r4
  have B4 := Lib.hid (B3.out.trans (b4.mono B3.out.size))
  have R_sf_4 := Lib.hid (row_below R_sf_3.out b4 (Nat.le_refl _))
  have R_sg_4 := Lib.hid (row_below R_sg_3.out b4 (Nat.le_refl _))
  have R_sd_4 := Lib.hid r4
  clear r4 b4
  go_wp2_with fail
  refine (HS.out _ _ _ _ R_sf_4.out _ _ _ R_sg_4.out _ _ _ R_sd_4.out).mono ?_
  rintro e W5 ⟨rfl, b5⟩
  have B5 := Lib.hid (B4.out.trans (b5.mono B4.out.size))
  have R_sf_5 := Lib.hid (row_below R_sf_4.out b5 (Nat.le_refl _))
  have R_sg_5 := Lib.hid (row_below R_sg_4.out b5 (Nat.le_refl _))
  have R_sd_5 := Lib.hid (row_below R_sd_4.out b5 (Nat.le_refl _))
  clear b5
  go_wp2_with fail
  refine (HT0.out _ (argInt_below HA0.out B5.out)).mono ?_
  rintro e W6 ⟨v6, rfl, r6, b6⟩
  obtain ⟨o6, c6, rfl⟩ := row_slice r6
  have B6 := Lib.hid (B5.out.trans (b6.mono B5.out.size))
  have R_xf_6 := Lib.hid r6
  clear r6 b6
  go_wp2_with fail
  refine (HT1.out _ (argInt_below HA1.out B6.out)).mono ?_
  rintro e W7 ⟨v7, rfl, r7, b7⟩
  obtain ⟨o7, c7, rfl⟩ := row_slice r7
  have B7 := Lib.hid (B6.out.trans (b7.mono B6.out.size))
  have R_xf_7 := Lib.hid (row_below R_xf_6.out b7 (Nat.le_refl _))
  have R_xg_7 := Lib.hid r7
  clear r7 b7
  go_wp2_with fail
  refine (HT2.out _ (argInt_below HA2.out B7.out)).mono ?_
  rintro e W8 ⟨v8, rfl, r8, b8⟩
  obtain ⟨o8, c8, rfl⟩ := row_slice r8
  have B8 := Lib.hid (B7.out.trans (b8.mono B7.out.size))
  have R_xf_8 := Lib.hid (row_below R_xf_7.out b8 (Nat.le_refl _))
  have R_xg_8 := Lib.hid (row_below R_xg_7.out b8 (Nat.le_refl _))
  have R_xd_8 := Lib.hid r8
  clear r8 b8
  have hr0 := (B8.out.cell (p := ⟨w.heap.size, 0, none⟩) HRL.out).trans HR0.out
  have hr1 := (B8.out.cell (p := ⟨w.heap.size, 1, none⟩) HRL.out).trans HR1.out
  go_wp2_with fail
  refine (toRing_any p n _).mono ?_
  rintro e W9 ⟨rfl, b9⟩
  clear hr0 hr1
  have B9 := Lib.hid (B8.out.trans (b9.mono B8.out.size))
  have R_xf_9 := Lib.hid (row_below R_xf_8.out b9 (Nat.le_refl _))
  have R_xg_9 := Lib.hid (row_below R_xg_8.out b9 (Nat.le_refl _))
  have R_xd_9 := Lib.hid (row_below R_xd_8.out b9 (Nat.le_refl _))
  clear b9
  go_wp2_with fail
  refine (HI.out _ _ _ _ R_xf_9.out _ _ _ R_xg_9.out _ _ _ R_xd_9.out).mono ?_
  rintro e W10 ⟨rfl, b10⟩
  have B10 := Lib.hid (B9.out.trans (b10.mono B9.out.size))
  have R_xf_10 := Lib.hid (row_below R_xf_9.out b10 (Nat.le_refl _))
  have R_xg_10 := Lib.hid (row_below R_xg_9.out b10 (Nat.le_refl _))
  have R_xd_10 := Lib.hid (row_below R_xd_9.out b10 (Nat.le_refl _))
  clear b10
  go_wp2_with fail
  refine (HT0.out _ (argInt_below HA0.out B10.out)).mono ?_
  rintro e W11 ⟨v11, rfl, r11, b11⟩
  obtain ⟨o11, c11, rfl⟩ := row_slice r11
  have B11 := Lib.hid (B10.out.trans (b11.mono B10.out.size))
  have R_xf_11 := Lib.hid (row_below R_xf_10.out b11 (Nat.le_refl _))
  have R_xg_11 := Lib.hid (row_below R_xg_10.out b11 (Nat.le_refl _))
  have R_xd_11 := Lib.hid (row_below R_xd_10.out b11 (Nat.le_refl _))
  have R_tf_11 := Lib.hid r11
  clear r11 b11
  go_wp2_with fail
  refine (eqInt_same R_xf_11.out R_tf_11.out (by omega)).mono ?_
  rintro e W12 ⟨rfl, nd, hw⟩
  have b12 : Below W11.heap.size W11 W12 := by rw [hw]; exact below_drewN (Below.refl _ _) nd
  clear hw nd
  have B12 := Lib.hid (B11.out.trans (b12.mono B11.out.size))
  have R_xf_12 := Lib.hid (row_below R_xf_11.out b12 (Nat.le_refl _))
  have R_xg_12 := Lib.hid (row_below R_xg_11.out b12 (Nat.le_refl _))
  have R_xd_12 := Lib.hid (row_below R_xd_11.out b12 (Nat.le_refl _))
  have R_tf_12 := Lib.hid (row_below R_tf_11.out b12 (Nat.le_refl _))
  clear b12
  go_wp2_with fail
  refine (HT1.out _ (argInt_below HA1.out B12.out)).mono ?_
  rintro e W13 ⟨v13, rfl, r13, b13⟩
  obtain ⟨o13, c13, rfl⟩ := row_slice r13
  have B13 := Lib.hid (B12.out.trans (b13.mono B12.out.size))
  have R_xf_13 := Lib.hid (row_below R_xf_12.out b13 (Nat.le_refl _))
  have R_xg_13 := Lib.hid (row_below R_xg_12.out b13 (Nat.le_refl _))
  have R_xd_13 := Lib.hid (row_below R_xd_12.out b13 (Nat.le_refl _))
  have R_tg_13 := Lib.hid r13
  clear r13 b13
  go_wp2_with fail
  refine (eqInt_same R_xg_13.out R_tg_13.out (by omega)).mono ?_
  rintro e W14 ⟨rfl, nd, hw⟩
  have b14 : Below W13.heap.size W13 W14 := by rw [hw]; exact below_drewN (Below.refl _ _) nd
  clear hw nd
  have B14 := Lib.hid (B13.out.trans (b14.mono B13.out.size))
  have R_xf_14 := Lib.hid (row_below R_xf_13.out b14 (Nat.le_refl _))
  have R_xg_14 := Lib.hid (row_below R_xg_13.out b14 (Nat.le_refl _))
  have R_xd_14 := Lib.hid (row_below R_xd_13.out b14 (Nat.le_refl _))
  have R_tg_14 := Lib.hid (row_below R_tg_13.out b14 (Nat.le_refl _))
  clear b14
  go_wp2_with fail
  refine (HT2.out _ (argInt_below HA2.out B14.out)).mono ?_
  rintro e W15 ⟨v15, rfl, r15, b15⟩
  obtain ⟨o15, c15, rfl⟩ := row_slice r15
  have B15 := Lib.hid (B14.out.trans (b15.mono B14.out.size))
  have R_xf_15 := Lib.hid (row_below R_xf_14.out b15 (Nat.le_refl _))
  have R_xg_15 := Lib.hid (row_below R_xg_14.out b15 (Nat.le_refl _))
  have R_xd_15 := Lib.hid (row_below R_xd_14.out b15 (Nat.le_refl _))
  have R_td_15 := Lib.hid r15
  clear r15 b15
  go_wp2_with fail
  refine (eqInt_same R_xd_15.out R_td_15.out (by omega)).mono ?_
  rintro e W16 ⟨rfl, nd, hw⟩
  have b16 : Below W15.heap.size W15 W16 := by rw [hw]; exact below_drewN (Below.refl _ _) nd
  clear hw nd
  have B16 := Lib.hid (B15.out.trans (b16.mono B15.out.size))
  have R_xf_16 := Lib.hid (row_below R_xf_15.out b16 (Nat.le_refl _))
  have R_xg_16 := Lib.hid (row_below R_xg_15.out b16 (Nat.le_refl _))
  have R_xd_16 := Lib.hid (row_below R_xd_15.out b16 (Nat.le_refl _))
  have R_td_16 := Lib.hid (row_below R_td_15.out b16 (Nat.le_refl _))
  clear b16
  go_wp2_with fail
  go_ret
  exact ⟨rfl, HBR.out.trans (B16.out.mono HBR.out.size)⟩
theorem exactArp_walk (p n : Int) (af : Option Addr) (lenf capf : Nat) (zf : List Int) (ag : Option Addr) (leng capg : Nat) (zg : List Int) (ad : Option Addr) (lend capd : Nat) (zd : List Int) (w : World) (_ : (Lit.int .i64 p).wf = true) (_ : (Lit.int .i64 n).wf = true) (hf : (af = none ∧ lenf = 0 ∧ capf = 0 ∧ zf = []) ∨ ∃ x, af = some x ∧ lenf ≤ capf ∧ capf ≤ maxLen ∧ zf.length = capf ∧ (∀ i, i < zf.length → w.cell? (x.add i) = some (.int .i64 (zf.getD i 0))) ∧ ∀ n ∈ zf, (Lit.int .i64 n).wf = true) (hg : (ag = none ∧ leng = 0 ∧ capg = 0 ∧ zg = []) ∨ ∃ x, ag = some x ∧ leng ≤ capg ∧ capg ≤ maxLen ∧ zg.length = capg ∧ (∀ i, i < zg.length → w.cell? (x.add i) = some (.int .i64 (zg.getD i 0))) ∧ ∀ n ∈ zg, (Lit.int .i64 n).wf = true) (hd : (ad = none ∧ lend = 0 ∧ capd = 0 ∧ zd = []) ∨ ∃ x, ad = some x ∧ lend ≤ capd ∧ capd ≤ maxLen ∧ zd.length = capd ∧ (∀ i, i < zd.length → w.cell? (x.add i) = some (.int .i64 (zd.getD i 0))) ∧ ∀ n ∈ zd, (Lit.int .i64 n).wf = true) :
    Calls Try.prog 10 #[.agg #[.int .i64 p, .int .i64 n], .slice af lenf capf, .slice ag leng capg, .slice ad lend capd] w fun e w' => e = .returned (.bool true) ∧ Below w.heap.size w w' := by
  have mf := len_of_row hf
  have mg := len_of_row hg
  have md := len_of_row hd
  obtain ⟨lf, ef, kf⟩ := arg_of_row hf
  obtain ⟨lg, eg, kg⟩ := arg_of_row hg
  obtain ⟨ld, ed, kd⟩ := arg_of_row hd
  clear hf hg hd
  by_cases qf : lenf ≤ 1048576
  · by_cases qg : leng ≤ 1048576
    · by_cases qd : lend ≤ 1048576
      · subst ef eg ed
        exact exactArp_core p n af capf lf ag capg lg ad capd ld w qf kf qg kg qd kd
      · clear kf ef kg eg kd ed
        go_enter Try.func10, Try.ntmps10
        go_wp2
        go_ret
        exact ⟨rfl, (Below.refl _ _).alloc (Nat.le_refl _) _⟩
    · clear kf ef kg eg kd ed
      go_enter Try.func10, Try.ntmps10
      go_wp2
      go_ret
      exact ⟨rfl, (Below.refl _ _).alloc (Nat.le_refl _) _⟩
  · clear kf ef kg eg kd ed
    go_enter Try.func10, Try.ntmps10
    go_wp2
    go_ret
    exact ⟨rfl, (Below.refl _ _).alloc (Nat.le_refl _) _⟩
end Go.Proofs.Ytbjkcoajabcibaa
