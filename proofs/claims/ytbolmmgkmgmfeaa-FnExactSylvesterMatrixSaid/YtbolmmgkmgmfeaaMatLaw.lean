/- Walks of exact laws of chapter 7: SylvesterMatrix; true at every input. -/
import Derived.Test.YtbolmmgkmgmfeaaMatImpl
namespace Go.Proofs.Ytbolmmgkmgmfeaa
open Go.RowKit
set_option linter.unusedVariables false
set_option linter.unusedSimpArgs false
/-- a matrix whose blocks are older than the place from which a step turns the world -/
theorem matG_elder {base B : Nat} {w0 w w' : World} {v : Value} {N : Nat} {G : List Nat} {M : List (List Int)} (h0 : MatG base w0 v N G M) (h : MatG base w v N G M) (hb : Below B w w') (hB : w0.heap.size ≤ B) : MatG base w' v N G M := by
  have keep : ∀ {T : TypeId} {sz n : Nat} {u : Value} {xs : List Value}, w0.ownsRow base T sz u n xs → w.ownsRow base T sz u n xs → w'.ownsRow base T sz u n xs := by
    intro T sz n u xs a b
    refine ⟨b.1, ?_⟩
    rcases b.2 with hn | ⟨g, cap, cur, rfl, hbg, hg, rest⟩
    · exact .inl hn
    · have := (World.ownsRow.lt a g rfl).2
      exact .inr ⟨g, cap, cur, rfl, hbg, by rw [hb.block g (by omega)]; exact hg, rest⟩
  exact ⟨h.len, h.width, fun i hi => keep (h0.row i hi) (h.row i hi), h.apart, keep h0.out h.out⟩
theorem below_mark {w0 w w' : World} {B : Nat} (h : Below w0.heap.size w0 w) (hb : Below B w w') (hB : w0.heap.size ≤ B) : Below w0.heap.size w0 w' := h.trans (hb.mono hB)
set_option maxRecDepth 20000 in
set_option maxHeartbeats 4000000 in
theorem exactSyl_core (af : Option Addr) (capf : Nat) (f : List Int) (ag : Option Addr) (capg : Nat) (g : List Int) (w : World) (hf : f.length ≤ 1048576) (kf : ArgInt w af f) (hg : g.length ≤ 1048576) (kg : ArgInt w ag g) :
    Calls Try.prog 7 #[.slice af f.length capf, .slice ag g.length capg] w fun e w' => e = .returned (.bool true) ∧ Below w.heap.size w w' := by
  have HA0 := Lib.hid kf
  have HT0 := Lib.hid fun (w : World) (h : ArgInt w af f) => toInt64S_any af capf f w hf h
  have hnf : (0 : Int) ≤ (f.length : Int) := Int.natCast_nonneg _
  have HA1 := Lib.hid kg
  have HT1 := Lib.hid fun (w : World) (h : ArgInt w ag g) => toInt64S_any ag capg g w hg h
  have hng : (0 : Int) ≤ (g.length : Int) := Int.natCast_nonneg _
  have HS := Lib.hid fun (w : World) (b : Nat) (o : Option Addr) (c : Nat) (h : IntRow b w (.slice o f.length c) f) (b' : Nat) (o' : Option Addr) (c' : Nat) (h' : IntRow b' w (.slice o' g.length c') g) => specSyl_any (row_seen h (show f.length ≤ 1100000 by omega)) (row_seen h' (show g.length ≤ 1100000 by omega))
  have HI := Lib.hid fun (w : World) (b : Nat) (o : Option Addr) (c : Nat) (h : IntRow b w (.slice o f.length c) f) (b' : Nat) (o' : Option Addr) (c' : Nat) (h' : IntRow b' w (.slice o' g.length c') g) => implSyl_any (row_seen h (show f.length ≤ 1100000 by omega)) (row_seen h' (show g.length ≤ 1100000 by omega))
  have hML := sylQ_len f g
  have hNL := sylN_le f g
  generalize codS2 f g = c at *
  generalize sylQ f g = M at *
  generalize sylN f g = N at *
  have hmn : 0 ≤ (M.length : Int) * (N : Int) ∧ (M.length : Int) * (N : Int) ≤ 64 := by
    have p1 : M.length * N ≤ 8 * 8 := Nat.mul_le_mul hML hNL
    have : ((M.length * N : Nat) : Int) = (M.length : Int) * (N : Int) := by simp
    omega
  have B0 := Lib.hid (Below.refl w.heap.size w)
  clear kf kg
  go_enter Try.func7, Try.ntmps7
  go_wp2_with fail
  refine (HT0.out _ (argInt_below HA0.out B0.out)).mono ?_
  rintro e W1 ⟨v1, rfl, r1, b1⟩
  obtain ⟨o1, c1, rfl⟩ := row_slice r1
  have B1 := Lib.hid (B0.out.trans (b1.mono B0.out.size))
  have R_sf_1 := Lib.hid r1
  clear r1 b1
  go_wp2_with fail
  refine (HT1.out _ (argInt_below HA1.out B1.out)).mono ?_
  rintro e W2 ⟨v2, rfl, r2, b2⟩
  obtain ⟨o2, c2, rfl⟩ := row_slice r2
  have B2 := Lib.hid (B1.out.trans (b2.mono B1.out.size))
  have R_sf_2 := Lib.hid (row_below R_sf_1.out b2 (Nat.le_refl _))
  have R_sg_2 := Lib.hid r2
  clear r2 b2
  go_wp2_with fail
  refine (HS.out _ _ _ _ R_sf_2.out _ _ _ R_sg_2.out).mono ?_
  rintro e W3 ⟨v3, G3, rfl, m3, b3⟩
  have B3 := Lib.hid (B2.out.trans (b3.mono B2.out.size))
  have R_sf_3 := Lib.hid (row_below R_sf_2.out b3 (Nat.le_refl _))
  have R_sg_3 := Lib.hid (row_below R_sg_2.out b3 (Nat.le_refl _))
  have K_w0_3 := Lib.hid m3
  have Z_w0_3 := Lib.hid (Nat.le_refl W3.heap.size)
  have Y_w0 := Lib.hid b3.size
  clear m3 b3
  go_wp2_with fail
  refine (HT0.out _ (argInt_below HA0.out B3.out)).mono ?_
  rintro e W4 ⟨v4, rfl, r4, b4⟩
  obtain ⟨o4, c4, rfl⟩ := row_slice r4
  have B4 := Lib.hid (B3.out.trans (b4.mono B3.out.size))
  have K_w0_4 := Lib.hid (matG_below K_w0_3.out b4)
  have Z_w0_4 := Lib.hid (Nat.le_trans Z_w0_3.out b4.size)
  have R_xf_4 := Lib.hid r4
  clear r4 b4
  go_wp2_with fail
  refine (HT1.out _ (argInt_below HA1.out B4.out)).mono ?_
  rintro e W5 ⟨v5, rfl, r5, b5⟩
  obtain ⟨o5, c5, rfl⟩ := row_slice r5
  have B5 := Lib.hid (B4.out.trans (b5.mono B4.out.size))
  have R_xf_5 := Lib.hid (row_below R_xf_4.out b5 (Nat.le_refl _))
  have K_w0_5 := Lib.hid (matG_below K_w0_4.out b5)
  have Z_w0_5 := Lib.hid (Nat.le_trans Z_w0_4.out b5.size)
  have R_xg_5 := Lib.hid r5
  clear r5 b5
  go_wp2_with fail
  refine (HI.out _ _ _ _ R_xf_5.out _ _ _ R_xg_5.out).mono ?_
  rintro e W6 ⟨v6, G6, rfl, m6, b6⟩
  have B6 := Lib.hid (B5.out.trans (b6.mono B5.out.size))
  have R_xf_6 := Lib.hid (row_below R_xf_5.out b6 (Nat.le_refl _))
  have R_xg_6 := Lib.hid (row_below R_xg_5.out b6 (Nat.le_refl _))
  have K_w0_6 := Lib.hid (matG_below K_w0_5.out b6)
  have Z_w0_6 := Lib.hid (Nat.le_trans Z_w0_5.out b6.size)
  have K_g0_6 := Lib.hid m6
  have Z_g0_6 := Lib.hid (Nat.le_refl W6.heap.size)
  have Y_g0 := Lib.hid b6.size
  clear m6 b6
  go_wp2_with fail
  refine (eqSS_same K_g0_6.out K_w0_6.out (by omega) (by omega)).mono ?_
  rintro e W7 ⟨rfl, nd, hw⟩
  have b7 : Below W6.heap.size W6 W7 := by rw [hw]; exact below_drewN (Below.refl _ _) nd
  clear hw nd
  have B7 := Lib.hid (B6.out.trans (b7.mono B6.out.size))
  have R_xf_7 := Lib.hid (row_below R_xf_6.out b7 (Nat.le_refl _))
  have R_xg_7 := Lib.hid (row_below R_xg_6.out b7 (Nat.le_refl _))
  have K_w0_7 := Lib.hid (matG_below K_w0_6.out b7)
  have K_g0_7 := Lib.hid (matG_below K_g0_6.out b7)
  have Z_w0_7 := Lib.hid (Nat.le_trans Z_w0_6.out b7.size)
  have Z_g0_7 := Lib.hid (Nat.le_trans Z_g0_6.out b7.size)
  clear b7
  go_wp2_with fail
  refine (HT0.out _ (argInt_below HA0.out B7.out)).mono ?_
  rintro e W8 ⟨v8, rfl, r8, b8⟩
  obtain ⟨o8, c8, rfl⟩ := row_slice r8
  have B8 := Lib.hid (B7.out.trans (b8.mono B7.out.size))
  have R_xf_8 := Lib.hid (row_below R_xf_7.out b8 (Nat.le_refl _))
  have R_xg_8 := Lib.hid (row_below R_xg_7.out b8 (Nat.le_refl _))
  have K_w0_8 := Lib.hid (matG_below K_w0_7.out b8)
  have K_g0_8 := Lib.hid (matG_below K_g0_7.out b8)
  have Z_w0_8 := Lib.hid (Nat.le_trans Z_w0_7.out b8.size)
  have Z_g0_8 := Lib.hid (Nat.le_trans Z_g0_7.out b8.size)
  have R_tf_8 := Lib.hid r8
  clear r8 b8
  go_wp2_with fail
  refine (eqInt_same R_xf_8.out R_tf_8.out (by omega)).mono ?_
  rintro e W9 ⟨rfl, nd, hw⟩
  have b9 : Below W8.heap.size W8 W9 := by rw [hw]; exact below_drewN (Below.refl _ _) nd
  clear hw nd
  have B9 := Lib.hid (B8.out.trans (b9.mono B8.out.size))
  have R_xf_9 := Lib.hid (row_below R_xf_8.out b9 (Nat.le_refl _))
  have R_xg_9 := Lib.hid (row_below R_xg_8.out b9 (Nat.le_refl _))
  have R_tf_9 := Lib.hid (row_below R_tf_8.out b9 (Nat.le_refl _))
  have K_w0_9 := Lib.hid (matG_below K_w0_8.out b9)
  have K_g0_9 := Lib.hid (matG_below K_g0_8.out b9)
  have Z_w0_9 := Lib.hid (Nat.le_trans Z_w0_8.out b9.size)
  have Z_g0_9 := Lib.hid (Nat.le_trans Z_g0_8.out b9.size)
  clear b9
  go_wp2_with fail
  refine (HT1.out _ (argInt_below HA1.out B9.out)).mono ?_
  rintro e W10 ⟨v10, rfl, r10, b10⟩
  obtain ⟨o10, c10, rfl⟩ := row_slice r10
  have B10 := Lib.hid (B9.out.trans (b10.mono B9.out.size))
  have R_xf_10 := Lib.hid (row_below R_xf_9.out b10 (Nat.le_refl _))
  have R_xg_10 := Lib.hid (row_below R_xg_9.out b10 (Nat.le_refl _))
  have K_w0_10 := Lib.hid (matG_below K_w0_9.out b10)
  have K_g0_10 := Lib.hid (matG_below K_g0_9.out b10)
  have Z_w0_10 := Lib.hid (Nat.le_trans Z_w0_9.out b10.size)
  have Z_g0_10 := Lib.hid (Nat.le_trans Z_g0_9.out b10.size)
  have R_tg_10 := Lib.hid r10
  clear r10 b10
  go_wp2_with fail
  refine (eqInt_same R_xg_10.out R_tg_10.out (by omega)).mono ?_
  rintro e W11 ⟨rfl, nd, hw⟩
  have b11 : Below W10.heap.size W10 W11 := by rw [hw]; exact below_drewN (Below.refl _ _) nd
  clear hw nd
  have B11 := Lib.hid (B10.out.trans (b11.mono B10.out.size))
  have R_xf_11 := Lib.hid (row_below R_xf_10.out b11 (Nat.le_refl _))
  have R_xg_11 := Lib.hid (row_below R_xg_10.out b11 (Nat.le_refl _))
  have R_tg_11 := Lib.hid (row_below R_tg_10.out b11 (Nat.le_refl _))
  have K_w0_11 := Lib.hid (matG_below K_w0_10.out b11)
  have K_g0_11 := Lib.hid (matG_below K_g0_10.out b11)
  have Z_w0_11 := Lib.hid (Nat.le_trans Z_w0_10.out b11.size)
  have Z_g0_11 := Lib.hid (Nat.le_trans Z_g0_10.out b11.size)
  clear b11
  go_wp2_with fail
  refine (markInt R_xf_11.out (by omega) (by omega) (by omega)).mono ?_
  rintro e W12 ⟨rfl, m12, g12⟩
  have B12 := Lib.hid (below_grown B11.out R_xf_11.out g12 B3.out.size B11.out.size)
  have R_xg_12 := Lib.hid (row_apart2 R_xg_11.out R_xf_4.out (Nat.le_refl _) g12)
  have M_xf_12 := Lib.hid m12
  have K_w0_12 := Lib.hid (matG_young2 K_w0_3.out K_w0_11.out g12 (fun k hk => Nat.le_trans Z_w0_3.out (World.ownsRow.lt R_xf_11.out k hk).1))
  have K_g0_12 := Lib.hid (matG_old2 K_g0_11.out g12 (fun k hk => (World.ownsRow.lt R_xf_5.out k hk).2))
  have Z_w0_12 := Lib.hid (Nat.le_trans Z_w0_11.out g12.size)
  have Z_g0_12 := Lib.hid (Nat.le_trans Z_g0_11.out g12.size)
  clear m12 g12
  go_wp2_with fail
  refine (markInt R_xg_12.out (by omega) (by omega) (by omega)).mono ?_
  rintro e W13 ⟨rfl, m13, g13⟩
  have B13 := Lib.hid (below_grown B12.out R_xg_12.out g13 B4.out.size B12.out.size)
  have M_xg_13 := Lib.hid m13
  have K_w0_13 := Lib.hid (matG_young2 K_w0_3.out K_w0_12.out g13 (fun k hk => Nat.le_trans Z_w0_4.out (World.ownsRow.lt R_xg_12.out k hk).1))
  have K_g0_13 := Lib.hid (matG_old2 K_g0_12.out g13 (fun k hk => (World.ownsRow.lt R_xg_5.out k hk).2))
  have Z_w0_13 := Lib.hid (Nat.le_trans Z_w0_12.out g13.size)
  have Z_g0_13 := Lib.hid (Nat.le_trans Z_g0_12.out g13.size)
  clear m13 g13
  have hk0 : ¬ ((1 : Int) + (f.length : Int) + (g.length : Int) < 0) := by omega
  go_wp2_with fail
  refine (eqSS_same K_g0_13.out K_w0_13.out (by omega) (by omega)).mono ?_
  rintro e W14 ⟨rfl, nd, hw⟩
  have b14 : Below W13.heap.size W13 W14 := by rw [hw]; exact below_drewN (Below.refl _ _) nd
  clear hw nd
  have B14 := Lib.hid (B13.out.trans (b14.mono B13.out.size))
  have K_w0_14 := Lib.hid (matG_below K_w0_13.out b14)
  have K_g0_14 := Lib.hid (matG_below K_g0_13.out b14)
  have Z_w0_14 := Lib.hid (Nat.le_trans Z_w0_13.out b14.size)
  have Z_g0_14 := Lib.hid (Nat.le_trans Z_g0_13.out b14.size)
  clear b14
  have hk1 : ¬ ((1 : Int) + (M.length : Int) * (N : Int) < 0) := by omega
  go_wp2_with fail
  refine (markSS (q := 1) K_g0_14.out (Nat.le_trans Y_g0.out Z_g0_14.out) (by omega) (by omega) (by omega) (by omega)).mono ?_
  rintro e W15 ⟨rfl, m15, b15⟩
  have HB15 := Lib.hid (below_mark B14.out b15 B5.out.size)
  have K_w0_15 := Lib.hid (matG_elder K_w0_3.out K_w0_14.out b15 Z_w0_5.out)
  have H_g0_15 := Lib.hid m15
  clear m15 b15
  go_wp2_with fail
  refine (heldSS (q := 1) H_g0_15.out (by omega) (by omega) (by omega) (by omega)).mono ?_
  rintro e W16 ⟨rfl, nd, hw⟩
  have b16 : Below W15.heap.size W15 W16 := by rw [hw]; exact below_drewN (Below.refl _ _) nd
  clear hw nd
  have B16 := Lib.hid (HB15.out.trans (b16.mono HB15.out.size))
  have K_w0_16 := Lib.hid (matG_below K_w0_15.out b16)
  have H_g0_16 := Lib.hid (markedM_below H_g0_15.out b16)
  clear b16
  go_wp2_with fail
  refine (HT0.out _ (argInt_below HA0.out B16.out)).mono ?_
  rintro e W17 ⟨v17, rfl, r17, b17⟩
  obtain ⟨o17, c17, rfl⟩ := row_slice r17
  have B17 := Lib.hid (B16.out.trans (b17.mono B16.out.size))
  have K_w0_17 := Lib.hid (matG_below K_w0_16.out b17)
  have H_g0_17 := Lib.hid (markedM_below H_g0_16.out b17)
  have R_yf_17 := Lib.hid r17
  clear r17 b17
  go_wp2_with fail
  refine (HT1.out _ (argInt_below HA1.out B17.out)).mono ?_
  rintro e W18 ⟨v18, rfl, r18, b18⟩
  obtain ⟨o18, c18, rfl⟩ := row_slice r18
  have B18 := Lib.hid (B17.out.trans (b18.mono B17.out.size))
  have R_yf_18 := Lib.hid (row_below R_yf_17.out b18 (Nat.le_refl _))
  have K_w0_18 := Lib.hid (matG_below K_w0_17.out b18)
  have H_g0_18 := Lib.hid (markedM_below H_g0_17.out b18)
  have R_yg_18 := Lib.hid r18
  clear r18 b18
  go_wp2_with fail
  refine (HI.out _ _ _ _ R_yf_18.out _ _ _ R_yg_18.out).mono ?_
  rintro e W19 ⟨v19, G19, rfl, m19, b19⟩
  have B19 := Lib.hid (B18.out.trans (b19.mono B18.out.size))
  have R_yf_19 := Lib.hid (row_below R_yf_18.out b19 (Nat.le_refl _))
  have R_yg_19 := Lib.hid (row_below R_yg_18.out b19 (Nat.le_refl _))
  have K_w0_19 := Lib.hid (matG_below K_w0_18.out b19)
  have H_g0_19 := Lib.hid (markedM_below H_g0_18.out b19)
  have K_h0_19 := Lib.hid m19
  have Z_h0_19 := Lib.hid (Nat.le_refl W19.heap.size)
  have Y_h0 := Lib.hid b19.size
  clear m19 b19
  go_wp2_with fail
  refine (eqSS_same K_h0_19.out K_w0_19.out (by omega) (by omega)).mono ?_
  rintro e W20 ⟨rfl, nd, hw⟩
  have b20 : Below W19.heap.size W19 W20 := by rw [hw]; exact below_drewN (Below.refl _ _) nd
  clear hw nd
  have B20 := Lib.hid (B19.out.trans (b20.mono B19.out.size))
  have K_w0_20 := Lib.hid (matG_below K_w0_19.out b20)
  have K_h0_20 := Lib.hid (matG_below K_h0_19.out b20)
  have H_g0_20 := Lib.hid (markedM_below H_g0_19.out b20)
  have Z_h0_20 := Lib.hid (Nat.le_trans Z_h0_19.out b20.size)
  clear b20
  go_wp2_with fail
  refine (heldSS (q := 1) H_g0_20.out (by omega) (by omega) (by omega) (by omega)).mono ?_
  rintro e W21 ⟨rfl, nd, hw⟩
  have b21 : Below W20.heap.size W20 W21 := by rw [hw]; exact below_drewN (Below.refl _ _) nd
  clear hw nd
  have B21 := Lib.hid (B20.out.trans (b21.mono B20.out.size))
  have K_w0_21 := Lib.hid (matG_below K_w0_20.out b21)
  have K_h0_21 := Lib.hid (matG_below K_h0_20.out b21)
  have H_g0_21 := Lib.hid (markedM_below H_g0_20.out b21)
  have Z_h0_21 := Lib.hid (Nat.le_trans Z_h0_20.out b21.size)
  clear b21
  go_wp2_with fail
  go_ret
  exact ⟨rfl, B21.out⟩
theorem exactSyl_walk (af : Option Addr) (lenf capf : Nat) (zf : List Int) (ag : Option Addr) (leng capg : Nat) (zg : List Int) (w : World) (hf : (af = none ∧ lenf = 0 ∧ capf = 0 ∧ zf = []) ∨ ∃ x, af = some x ∧ lenf ≤ capf ∧ capf ≤ maxLen ∧ zf.length = capf ∧ (∀ i, i < zf.length → w.cell? (x.add i) = some (.int .i64 (zf.getD i 0))) ∧ ∀ n ∈ zf, (Lit.int .i64 n).wf = true) (hg : (ag = none ∧ leng = 0 ∧ capg = 0 ∧ zg = []) ∨ ∃ x, ag = some x ∧ leng ≤ capg ∧ capg ≤ maxLen ∧ zg.length = capg ∧ (∀ i, i < zg.length → w.cell? (x.add i) = some (.int .i64 (zg.getD i 0))) ∧ ∀ n ∈ zg, (Lit.int .i64 n).wf = true) :
    Calls Try.prog 7 #[.slice af lenf capf, .slice ag leng capg] w fun e w' => e = .returned (.bool true) ∧ Below w.heap.size w w' := by
  have mf := len_of_row hf
  have mg := len_of_row hg
  obtain ⟨lf, ef, kf⟩ := arg_of_row hf
  obtain ⟨lg, eg, kg⟩ := arg_of_row hg
  clear hf hg
  by_cases qf : lenf ≤ 1048576
  · by_cases qg : leng ≤ 1048576
    · subst ef eg
      exact exactSyl_core af capf lf ag capg lg w qf kf qg kg
    · clear kf ef kg eg
      go_enter Try.func7, Try.ntmps7
      go_wp2
      go_ret
      exact ⟨rfl, Below.refl _ _⟩
  · clear kf ef kg eg
    go_enter Try.func7, Try.ntmps7
    go_wp2
    go_ret
    exact ⟨rfl, Below.refl _ _⟩
end Go.Proofs.Ytbolmmgkmgmfeaa
