/- The walk of the law FnShifted: true for every code; below the old memory nothing has turned. -/
import Derived.Test.YtcennddgbpkclaaPolyDraw2
import Derived.Test.YtcennddgbpkclaaPolyLike
import Derived.Test.YtcennddgbpkclaaCommonFn
import Derived.Deep.DeepCutAuto
namespace Go.Proofs.Ytcennddgbpkclaa
open Go.RowKit
set_option linter.unusedVariables false
set_option linter.unusedSimpArgs false
theorem shiftC_fact {f : List Int} {a : Int} (h : shiftC f a = 0) (ha : -1001 ≤ a ∧ a ≤ 1001) : (shiftQ f a).length = f.length ∧ shiftC (shiftQ f a) (-a) = 0 ∧ shiftQ (shiftQ f a) (-a) = f := by
  unfold shiftC at h
  split at h
  · rename_i hp
    split at h
    · rename_i hx
      obtain ⟨k1, k2, k3, k4, k5⟩ := shift_law hp h
      have e : shiftQ f a = shiftL f a := by simp [shiftQ, hp, hx, k1]
      have hx2 : inB (-a) (-1000) 1000 = true := by
        have := inB_cases a (-1000) 1000
        rcases this with ⟨_, h0, h1⟩ | ⟨h0, _⟩
        · exact inB_t (by omega) (by omega)
        · rw [h0] at hx; cases hx
      rw [e]
      exact ⟨k3, by simp [shiftC, k2, hx2, k4], by simp [shiftQ, k2, hx2, k5]⟩
    · cases h
  · cases h
theorem rev_fact {g : List Int} (h : (if polyB g then resC (revL g) else 1) = 0) (h0 : g.getD 0 0 ≠ 0) :
    (if polyB (if polyB g then resL (revL g) else []) then resL (revL (if polyB g then resL (revL g) else [])) else []) = g ∧
    (if polyB (if polyB g then resL (revL g) else []) then resC (revL (if polyB g then resL (revL g) else [])) else 1) = 0 := by
  cases hp : polyB g
  · rw [hp] at h; cases h
  · obtain ⟨k1, k2, k3, k4⟩ := rev_back hp h0
    have hq := (res_poly k1).1
    rw [if_pos rfl, hq, if_pos rfl, if_pos rfl]
    exact ⟨k4, k3⟩
theorem cont_fact {k : List Int} (h : contC k = 0) {i : Nat} (hi : i < k.length) (hc : 0 < contQ k) : (k.getD i 0).tmod (contQ k) = 0 ∧ contQ k ≤ 1000000 ∧ -1000000 ≤ k.getD i 0 ∧ k.getD i 0 ≤ 1000000 := by
  unfold contC at h
  split at h
  · rename_i hp
    have e : contQ k = contL k := by simp [contQ, hp]
    rw [e]
    have hb := (polyB_of hp).2.1
    exact ⟨Int.tmod_eq_zero_of_dvd (contN_div k k.length i hi), (contN_bd hb k.length).2, hb i⟩
  · cases h
set_option maxRecDepth 100000 in
set_option maxHeartbeats 4000000 in
theorem shifted_core (o : Option Addr) (len cap : Nat) (w : World) (hl : len ≤ 4096) (hc : CodeIn w o len) :
    Calls Try.prog 4 #[.slice o len cap] w fun e w' => e = .returned (.bool true) ∧ Below w.heap.size w w' := by
  have HC := Lib.hid hc
  have B0 := Lib.hid (Below.refl w.heap.size w)
  clear hc
  go_enter Try.func4, Try.ntmps4
  go_wp2_with fail
  refine (big_no _ _ _ _ hl).mono ?_
  rintro e w' ⟨rfl, rfl⟩
  go_wp2_with fail
  refine (drawShift_any o len cap _ hl (codeIn_below (B := 0) HC.out B0.out)).mono ?_
  rintro e W1 ⟨v1, f, a, rfl, rf, hf10, ha0, ha1, b1⟩
  obtain ⟨o_f, c_f, rfl⟩ := row_slice rf
  have B1 := Lib.hid (B0.out.trans (b1.mono B0.out.size))
  have R_f_1 := Lib.hid rf
  clear b1 rf
  have HV := Lib.hid fun (h : shiftC f a = 0) => shiftC_fact h ⟨ha0, ha1⟩
  have hq1 : (shiftQ f a).length ≤ 9 := shiftQ_len f a
  have HSI := Lib.hid fun (w : World) (b : Nat) (k : IntRow b w (.slice o_f f.length c_f) f) => implShift_any a (row_seen k (show f.length ≤ 1100000 by omega))
  have HSS := Lib.hid fun (w : World) (b : Nat) (k : IntRow b w (.slice o_f f.length c_f) f) => specShift_any a (row_seen k (show f.length ≤ 1100000 by omega))
  generalize shiftQ f a = q1 at *
  generalize shiftC f a = c1 at *
  go_wp2_with fail
  refine (HSI.out _ _ R_f_1.out).mono ?_
  rintro e W2 ⟨v2, rfl, r2, b2⟩
  obtain ⟨o_s, c_s, rfl⟩ := row_slice r2
  have B2 := Lib.hid (B1.out.trans (b2.mono B1.out.size))
  have R_f_2 := Lib.hid (row_below R_f_1.out b2 (Nat.le_refl _))
  have R_s_2 := Lib.hid r2
  clear r2 b2
  go_wp2_with fail
  refine (HSS.out _ _ R_f_2.out).mono ?_
  rintro e W3 ⟨v3, rfl, r3, b3⟩
  obtain ⟨o_m, c_m, rfl⟩ := row_slice r3
  have B3 := Lib.hid (B2.out.trans (b3.mono B2.out.size))
  have R_f_3 := Lib.hid (row_below R_f_2.out b3 (Nat.le_refl _))
  have R_s_3 := Lib.hid (row_below R_s_2.out b3 (Nat.le_refl _))
  have R_m_3 := Lib.hid r3
  clear r3 b3
  go_wp2_with fail
  refine (drawRev_any o len cap _ hl (codeIn_below (B := 0) HC.out B3.out)).mono ?_
  rintro e W4 ⟨v2, g, rfl, rg, hg10, b4⟩
  obtain ⟨o_g, c_g, rfl⟩ := row_slice rg
  have B4 := Lib.hid (B3.out.trans (b4.mono B3.out.size))
  have R_f_4 := Lib.hid (row_below R_f_3.out b4 (Nat.le_refl _))
  have R_s_4 := Lib.hid (row_below R_s_3.out b4 (Nat.le_refl _))
  have R_m_4 := Lib.hid (row_below R_m_3.out b4 (Nat.le_refl _))
  have R_g_4 := Lib.hid rg
  clear b4 rg
  have HRV := Lib.hid (rev_fact (g := g))
  have hq2 : (if polyB g then resL (revL g) else []).length ≤ 9 := if_len
  have HRI := Lib.hid fun (w : World) (b : Nat) (k : IntRow b w (.slice o_g g.length c_g) g) => implRev_any (row_seen k (show g.length ≤ 1100000 by omega))
  have HRS := Lib.hid fun (w : World) (b : Nat) (k : IntRow b w (.slice o_g g.length c_g) g) => specRev_any (row_seen k (show g.length ≤ 1100000 by omega))
  generalize (if polyB g then resL (revL g) else []) = q2 at *
  generalize (if polyB g then resC (revL g) else 1) = c2 at *
  go_wp2_with fail
  refine (HRI.out _ _ R_g_4.out).mono ?_
  rintro e W5 ⟨v5, rfl, r5, b5⟩
  obtain ⟨o_r, c_r, rfl⟩ := row_slice r5
  have B5 := Lib.hid (B4.out.trans (b5.mono B4.out.size))
  have R_f_5 := Lib.hid (row_below R_f_4.out b5 (Nat.le_refl _))
  have R_s_5 := Lib.hid (row_below R_s_4.out b5 (Nat.le_refl _))
  have R_m_5 := Lib.hid (row_below R_m_4.out b5 (Nat.le_refl _))
  have R_g_5 := Lib.hid (row_below R_g_4.out b5 (Nat.le_refl _))
  have R_r_5 := Lib.hid r5
  clear r5 b5
  go_wp2_with fail
  refine (HRS.out _ _ R_g_5.out).mono ?_
  rintro e W6 ⟨v6, rfl, r6, b6⟩
  obtain ⟨o_n, c_n, rfl⟩ := row_slice r6
  have B6 := Lib.hid (B5.out.trans (b6.mono B5.out.size))
  have R_f_6 := Lib.hid (row_below R_f_5.out b6 (Nat.le_refl _))
  have R_s_6 := Lib.hid (row_below R_s_5.out b6 (Nat.le_refl _))
  have R_m_6 := Lib.hid (row_below R_m_5.out b6 (Nat.le_refl _))
  have R_g_6 := Lib.hid (row_below R_g_5.out b6 (Nat.le_refl _))
  have R_r_6 := Lib.hid (row_below R_r_5.out b6 (Nat.le_refl _))
  have R_n_6 := Lib.hid r6
  clear r6 b6
  go_wp2_with fail
  refine (drawDer_any o len cap _ hl (codeIn_below (B := 0) HC.out B6.out)).mono ?_
  rintro e W7 ⟨v3, h, rfl, rh, hh10, b7⟩
  obtain ⟨o_h, c_h, rfl⟩ := row_slice rh
  have B7 := Lib.hid (B6.out.trans (b7.mono B6.out.size))
  have R_f_7 := Lib.hid (row_below R_f_6.out b7 (Nat.le_refl _))
  have R_s_7 := Lib.hid (row_below R_s_6.out b7 (Nat.le_refl _))
  have R_m_7 := Lib.hid (row_below R_m_6.out b7 (Nat.le_refl _))
  have R_g_7 := Lib.hid (row_below R_g_6.out b7 (Nat.le_refl _))
  have R_r_7 := Lib.hid (row_below R_r_6.out b7 (Nat.le_refl _))
  have R_n_7 := Lib.hid (row_below R_n_6.out b7 (Nat.le_refl _))
  have R_h_7 := Lib.hid rh
  clear b7 rh
  have hq3 : (if polyB h then resL (derL h) else []).length ≤ 9 := if_len
  have HDI := Lib.hid fun (w : World) (b : Nat) (k : IntRow b w (.slice o_h h.length c_h) h) => implDer_any (row_seen k (show h.length ≤ 1100000 by omega))
  have HDS := Lib.hid fun (w : World) (b : Nat) (k : IntRow b w (.slice o_h h.length c_h) h) => specDer_any (row_seen k (show h.length ≤ 1100000 by omega))
  generalize (if polyB h then resL (derL h) else []) = q3 at *
  generalize (if polyB h then resC (derL h) else 1) = c3 at *
  go_wp2_with fail
  refine (HDI.out _ _ R_h_7.out).mono ?_
  rintro e W8 ⟨v8, rfl, r8, b8⟩
  obtain ⟨o_d, c_d, rfl⟩ := row_slice r8
  have B8 := Lib.hid (B7.out.trans (b8.mono B7.out.size))
  have R_f_8 := Lib.hid (row_below R_f_7.out b8 (Nat.le_refl _))
  have R_s_8 := Lib.hid (row_below R_s_7.out b8 (Nat.le_refl _))
  have R_m_8 := Lib.hid (row_below R_m_7.out b8 (Nat.le_refl _))
  have R_g_8 := Lib.hid (row_below R_g_7.out b8 (Nat.le_refl _))
  have R_r_8 := Lib.hid (row_below R_r_7.out b8 (Nat.le_refl _))
  have R_n_8 := Lib.hid (row_below R_n_7.out b8 (Nat.le_refl _))
  have R_h_8 := Lib.hid (row_below R_h_7.out b8 (Nat.le_refl _))
  have R_d_8 := Lib.hid r8
  clear r8 b8
  go_wp2_with fail
  refine (HDS.out _ _ R_h_8.out).mono ?_
  rintro e W9 ⟨v9, rfl, r9, b9⟩
  obtain ⟨o_u, c_u, rfl⟩ := row_slice r9
  have B9 := Lib.hid (B8.out.trans (b9.mono B8.out.size))
  have R_f_9 := Lib.hid (row_below R_f_8.out b9 (Nat.le_refl _))
  have R_s_9 := Lib.hid (row_below R_s_8.out b9 (Nat.le_refl _))
  have R_m_9 := Lib.hid (row_below R_m_8.out b9 (Nat.le_refl _))
  have R_g_9 := Lib.hid (row_below R_g_8.out b9 (Nat.le_refl _))
  have R_r_9 := Lib.hid (row_below R_r_8.out b9 (Nat.le_refl _))
  have R_n_9 := Lib.hid (row_below R_n_8.out b9 (Nat.le_refl _))
  have R_h_9 := Lib.hid (row_below R_h_8.out b9 (Nat.le_refl _))
  have R_d_9 := Lib.hid (row_below R_d_8.out b9 (Nat.le_refl _))
  have R_u_9 := Lib.hid r9
  clear r9 b9
  go_wp2_with fail
  refine (drawCont_any o len cap _ hl (codeIn_below (B := 0) HC.out B9.out)).mono ?_
  rintro e W10 ⟨v4, k, rfl, rk, hk10, b10⟩
  obtain ⟨o_k, c_k, rfl⟩ := row_slice rk
  have B10 := Lib.hid (B9.out.trans (b10.mono B9.out.size))
  have R_f_10 := Lib.hid (row_below R_f_9.out b10 (Nat.le_refl _))
  have R_s_10 := Lib.hid (row_below R_s_9.out b10 (Nat.le_refl _))
  have R_m_10 := Lib.hid (row_below R_m_9.out b10 (Nat.le_refl _))
  have R_g_10 := Lib.hid (row_below R_g_9.out b10 (Nat.le_refl _))
  have R_r_10 := Lib.hid (row_below R_r_9.out b10 (Nat.le_refl _))
  have R_n_10 := Lib.hid (row_below R_n_9.out b10 (Nat.le_refl _))
  have R_d_10 := Lib.hid (row_below R_d_9.out b10 (Nat.le_refl _))
  have R_u_10 := Lib.hid (row_below R_u_9.out b10 (Nat.le_refl _))
  have R_k_10 := Lib.hid rk
  clear b10 rk
  have HKV := Lib.hid fun (i : Nat) => cont_fact (k := k) (i := i)
  have HCI := Lib.hid fun (w : World) (b : Nat) (h : IntRow b w (.slice o_k k.length c_k) k) => implCont_any (row_seen h (show k.length ≤ 1100000 by omega))
  have HCS := Lib.hid fun (w : World) (b : Nat) (h : IntRow b w (.slice o_k k.length c_k) k) => specCont_any (row_seen h (show k.length ≤ 1100000 by omega))
  generalize contQ k = q4 at *
  generalize contC k = c4 at *
  go_wp2_with fail
  refine (HCI.out _ _ R_k_10.out).mono ?_
  rintro e W11 ⟨rfl, nd, hw⟩
  have b11 : Below W10.heap.size W10 W11 := by rw [hw]; exact below_drewN (Below.refl _ _) nd
  clear hw nd
  have B11 := Lib.hid (B10.out.trans (b11.mono B10.out.size))
  have R_f_11 := Lib.hid (row_below R_f_10.out b11 (Nat.le_refl _))
  have R_s_11 := Lib.hid (row_below R_s_10.out b11 (Nat.le_refl _))
  have R_m_11 := Lib.hid (row_below R_m_10.out b11 (Nat.le_refl _))
  have R_g_11 := Lib.hid (row_below R_g_10.out b11 (Nat.le_refl _))
  have R_r_11 := Lib.hid (row_below R_r_10.out b11 (Nat.le_refl _))
  have R_n_11 := Lib.hid (row_below R_n_10.out b11 (Nat.le_refl _))
  have R_d_11 := Lib.hid (row_below R_d_10.out b11 (Nat.le_refl _))
  have R_u_11 := Lib.hid (row_below R_u_10.out b11 (Nat.le_refl _))
  have R_k_11 := Lib.hid (row_below R_k_10.out b11 (Nat.le_refl _))
  clear b11
  go_wp2_with fail
  refine (HCS.out _ _ R_k_11.out).mono ?_
  rintro e W12 ⟨rfl, nd, hw⟩
  have b12 : Below W11.heap.size W11 W12 := by rw [hw]; exact below_drewN (Below.refl _ _) nd
  clear hw nd
  have B12 := Lib.hid (B11.out.trans (b12.mono B11.out.size))
  have R_f_12 := Lib.hid (row_below R_f_11.out b12 (Nat.le_refl _))
  have R_s_12 := Lib.hid (row_below R_s_11.out b12 (Nat.le_refl _))
  have R_m_12 := Lib.hid (row_below R_m_11.out b12 (Nat.le_refl _))
  have R_g_12 := Lib.hid (row_below R_g_11.out b12 (Nat.le_refl _))
  have R_r_12 := Lib.hid (row_below R_r_11.out b12 (Nat.le_refl _))
  have R_n_12 := Lib.hid (row_below R_n_11.out b12 (Nat.le_refl _))
  have R_d_12 := Lib.hid (row_below R_d_11.out b12 (Nat.le_refl _))
  have R_u_12 := Lib.hid (row_below R_u_11.out b12 (Nat.le_refl _))
  have R_k_12 := Lib.hid (row_below R_k_11.out b12 (Nat.le_refl _))
  clear b12
  go_wp2_with fail
  refine (likeInts_same R_s_12.out R_m_12.out (by omega)).mono ?_
  rintro e W13 ⟨rfl, nd, hw⟩
  have b13 : Below W12.heap.size W12 W13 := by rw [hw]; exact below_drewN (Below.refl _ _) nd
  clear hw nd
  have B13 := Lib.hid (B12.out.trans (b13.mono B12.out.size))
  have R_f_13 := Lib.hid (row_below R_f_12.out b13 (Nat.le_refl _))
  have R_s_13 := Lib.hid (row_below R_s_12.out b13 (Nat.le_refl _))
  have R_m_13 := Lib.hid (row_below R_m_12.out b13 (Nat.le_refl _))
  have R_g_13 := Lib.hid (row_below R_g_12.out b13 (Nat.le_refl _))
  have R_r_13 := Lib.hid (row_below R_r_12.out b13 (Nat.le_refl _))
  have R_n_13 := Lib.hid (row_below R_n_12.out b13 (Nat.le_refl _))
  have R_d_13 := Lib.hid (row_below R_d_12.out b13 (Nat.le_refl _))
  have R_u_13 := Lib.hid (row_below R_u_12.out b13 (Nat.le_refl _))
  have R_k_13 := Lib.hid (row_below R_k_12.out b13 (Nat.le_refl _))
  clear b13
  go_wp2_with fail
  refine (likeInts_same R_r_13.out R_n_13.out (by omega)).mono ?_
  rintro e W14 ⟨rfl, nd, hw⟩
  have b14 : Below W13.heap.size W13 W14 := by rw [hw]; exact below_drewN (Below.refl _ _) nd
  clear hw nd
  have B14 := Lib.hid (B13.out.trans (b14.mono B13.out.size))
  have R_f_14 := Lib.hid (row_below R_f_13.out b14 (Nat.le_refl _))
  have R_s_14 := Lib.hid (row_below R_s_13.out b14 (Nat.le_refl _))
  have R_g_14 := Lib.hid (row_below R_g_13.out b14 (Nat.le_refl _))
  have R_r_14 := Lib.hid (row_below R_r_13.out b14 (Nat.le_refl _))
  have R_n_14 := Lib.hid (row_below R_n_13.out b14 (Nat.le_refl _))
  have R_d_14 := Lib.hid (row_below R_d_13.out b14 (Nat.le_refl _))
  have R_u_14 := Lib.hid (row_below R_u_13.out b14 (Nat.le_refl _))
  have R_k_14 := Lib.hid (row_below R_k_13.out b14 (Nat.le_refl _))
  clear b14
  go_wp2_with fail
  refine (likeInts_same R_d_14.out R_u_14.out (by omega)).mono ?_
  rintro e W15 ⟨rfl, nd, hw⟩
  have b15 : Below W14.heap.size W14 W15 := by rw [hw]; exact below_drewN (Below.refl _ _) nd
  clear hw nd
  have B15 := Lib.hid (B14.out.trans (b15.mono B14.out.size))
  have R_f_15 := Lib.hid (row_below R_f_14.out b15 (Nat.le_refl _))
  have R_s_15 := Lib.hid (row_below R_s_14.out b15 (Nat.le_refl _))
  have R_g_15 := Lib.hid (row_below R_g_14.out b15 (Nat.le_refl _))
  have R_r_15 := Lib.hid (row_below R_r_14.out b15 (Nat.le_refl _))
  have R_d_15 := Lib.hid (row_below R_d_14.out b15 (Nat.le_refl _))
  have R_u_15 := Lib.hid (row_below R_u_14.out b15 (Nat.le_refl _))
  have R_k_15 := Lib.hid (row_below R_k_14.out b15 (Nat.le_refl _))
  clear b15
  clear HSI HSS HRS HDI HDS HCI HCS HRI
  have hlg0 : (0 : Int) ≤ (g.length : Int) := Int.natCast_nonneg _
  go_upto_region 17 with fail
  obtain ⟨T, hT⟩ : ∃ T : Bool, T = (decide (c2 = 0) && (decide (0 < g.length) && !(g.getD 0 0 == 0))) := ⟨_, rfl⟩
  have HT := Lib.hid hT
  clear hT
  go_cut [137] from 125 (fun s wx => s = .bool T ∧ W15 = wx)
  case first =>
    by_cases h2 : c2 = 0
    · by_cases hg0 : 0 < g.length
      · rcases row_shape R_g_15.out with ⟨hz, _⟩ | ⟨_, gb, gc, hgc, _, _⟩
        · omega
        · injection hgc with e1 _ e2
          subst e1 e2
          have c0 := int_cells R_g_15.out 0 hg0
          have hlg : (0 : Int) < (g.length : Int) := by omega
          have HT1 := Lib.hid (show T = !(g.getD 0 0 == 0) by rw [HT.out]; simp [h2, hg0])
          subst h2
          clear HT
          generalize g.getD 0 0 = y at *
          go_wp2_with fail
          go_meet
          case rel => exact ⟨by rw [HT1.out]; first | rfl | (simp [bne]), rfl⟩
      · have hlg : ¬ (0 : Int) < (g.length : Int) := by omega
        have HT1 := Lib.hid (show T = false by rw [HT.out]; simp [hg0])
        subst h2
        go_wp2_with fail
        go_meet
        case rel => exact ⟨by rw [HT1.out], rfl⟩
    · have h2' : (c2 == 0) = false := by simpa using h2
      have HT1 := Lib.hid (show T = false by rw [HT.out]; simp [h2])
      clear h2
      go_wp2_with fail
      go_meet
      case rel => exact ⟨by rw [HT1.out], rfl⟩
  case rest =>
  obtain ⟨rfl, rfl⟩ := hcut
  go_upto_if 137 with fail
  go_cut [] from 125 (fun wx => Below W15.heap.size W15 wx)
  case first =>
    cases hTT : T
    · go_wp2_with fail
      go_meet
      case rel => exact Below.refl _ _
    · have hand := HT.out
      rw [hTT] at hand
      have hand2 : c2 = 0 ∧ 0 < g.length ∧ g.getD 0 0 ≠ 0 := by simpa using hand.symm
      obtain ⟨h2, hg0, hx⟩ := hand2
      obtain ⟨k1, k2⟩ := HRV.out h2 hx
      have HRB := Lib.hid (implRev_any (row_seen R_r_15.out (show q2.length ≤ 1100000 by omega)))
      rw [k1, k2] at HRB
      clear k1 k2 hx hand
      subst h2
      go_wp2_with fail
      refine HRB.out.mono ?_
      rintro e Wa ⟨va, rfl, ra, ba⟩
      obtain ⟨oa, ca, rfl⟩ := row_slice ra
      have RA := Lib.hid ra
      have GA := Lib.hid (row_below R_g_15.out ba (Nat.le_refl _))
      have BA := Lib.hid ba
      clear ra ba
      go_wp2_with fail
      refine (likeInts_same RA.out GA.out (by omega)).mono ?_
      rintro e Wb ⟨rfl, nd, hw⟩
      have BB := Lib.hid (show Below W15.heap.size W15 Wb by rw [hw]; exact below_drewN BA.out nd)
      clear hw nd
      go_wp2_with fail
      go_meet
      case rel => exact BB.out
  case rest =>
  have HBC := Lib.hid hcut
  clear hcut
  have B16 := Lib.hid (B15.out.trans (HBC.out.mono B15.out.size))
  have R_f_16 := Lib.hid (row_below R_f_15.out HBC.out (Nat.le_refl _))
  have R_s_16 := Lib.hid (row_below R_s_15.out HBC.out (Nat.le_refl _))
  have R_g_16 := Lib.hid (row_below R_g_15.out HBC.out (Nat.le_refl _))
  have R_r_16 := Lib.hid (row_below R_r_15.out HBC.out (Nat.le_refl _))
  have R_k_16 := Lib.hid (row_below R_k_15.out HBC.out (Nat.le_refl _))
  go_wp2_with fail
  have hkl0 : (0 : Int) ≤ (k.length : Int) := Int.natCast_nonneg _
  go_loop [26] (fun i => ∃ j : Nat, j ≤ k.length ∧ i = .int .i64 j) (fun i => k.length - (intOf i).toNat)
  case atStart => exact ⟨0, Nat.zero_le _, rfl⟩
  case round =>
    obtain ⟨j, hj, rfl⟩ := hrel
    by_cases h4 : c4 = 0
    · by_cases hq4 : 0 < q4
      · by_cases hjk : j < k.length
        · rcases row_shape R_k_16.out with ⟨hz, _⟩ | ⟨_, gb, gc, hgc, _, _⟩
          · omega
          · injection hgc with e1 _ e2
            subst e1 e2
            have c0 := int_cells R_k_16.out j hjk
            obtain ⟨t1, t2, t3, t4⟩ := HKV.out j h4 hjk hq4
            have hjk' : (j : Int) < (k.length : Int) := by omega
            have hq0 : (q4 == 0) = false := by simp; omega
            subst h4
            generalize k.getD j 0 = y at *
            have hwy : IntKind.i64.wrap (y.tmod q4) = y.tmod q4 := by rw [t1]; exact IntWalk.i64_in _ (by omega)
            have ht1 : (y.tmod q4 != 0) = false := by rw [t1]; rfl
            go_wp2_with fail
            exact ⟨⟨j + 1, by omega, by go_num⟩, by simp only [intOf]; omega⟩
        · have hjk' : ¬ (j : Int) < (k.length : Int) := by omega
          clear hj
          subst h4
          go_upto_region 26 with fail
          by_cases h1 : c1 = 0
          · obtain ⟨e1, e2, e3⟩ := HV.out h1
            have HSB := Lib.hid (implShift_any (-a) (row_seen R_s_16.out (show q1.length ≤ 1100000 by omega)))
            rw [e2, e3] at HSB
            have hle : ((q1.length : Int) == (f.length : Int)) = true := by rw [e1]; simp
            have hwa : IntKind.i64.wrap (-a) = -a := IntWalk.i64_in _ (by omega)
            subst h1
            clear e1 e2 e3
            go_wp2_with fail
            refine HSB.out.mono ?_
            rintro e Wa ⟨va, rfl, ra, ba⟩
            obtain ⟨oa, ca, rfl⟩ := row_slice ra
            have RA := Lib.hid ra
            have FA := Lib.hid (row_below R_f_16.out ba (Nat.le_refl _))
            have BA := Lib.hid (B16.out.trans (ba.mono B16.out.size))
            clear ra ba
            go_wp2_with fail
            refine (likeInts_same RA.out FA.out (by omega)).mono ?_
            rintro e Wb ⟨rfl, nd, hw⟩
            have BB := Lib.hid (show Below w.heap.size w Wb by rw [hw]; exact below_drewN BA.out nd)
            clear hw nd
            go_wp2_with fail
            go_ret
            exact ⟨rfl, BB.out⟩
          · have h1' : (c1 != 0) = true := by simpa using h1
            clear h1
            go_wp2_with fail
            go_ret
            exact ⟨rfl, B16.out⟩
      · clear hj
        subst h4
        go_upto_region 26 with fail
        by_cases h1 : c1 = 0
        · obtain ⟨e1, e2, e3⟩ := HV.out h1
          have HSB := Lib.hid (implShift_any (-a) (row_seen R_s_16.out (show q1.length ≤ 1100000 by omega)))
          rw [e2, e3] at HSB
          have hle : ((q1.length : Int) == (f.length : Int)) = true := by rw [e1]; simp
          have hwa : IntKind.i64.wrap (-a) = -a := IntWalk.i64_in _ (by omega)
          subst h1
          clear e1 e2 e3
          go_wp2_with fail
          refine HSB.out.mono ?_
          rintro e Wa ⟨va, rfl, ra, ba⟩
          obtain ⟨oa, ca, rfl⟩ := row_slice ra
          have RA := Lib.hid ra
          have FA := Lib.hid (row_below R_f_16.out ba (Nat.le_refl _))
          have BA := Lib.hid (B16.out.trans (ba.mono B16.out.size))
          clear ra ba
          go_wp2_with fail
          refine (likeInts_same RA.out FA.out (by omega)).mono ?_
          rintro e Wb ⟨rfl, nd, hw⟩
          have BB := Lib.hid (show Below w.heap.size w Wb by rw [hw]; exact below_drewN BA.out nd)
          clear hw nd
          go_wp2_with fail
          go_ret
          exact ⟨rfl, BB.out⟩
        · have h1' : (c1 != 0) = true := by simpa using h1
          clear h1
          go_wp2_with fail
          go_ret
          exact ⟨rfl, B16.out⟩
    · have h4' : (c4 == 0) = false := by simpa using h4
      clear h4 hj
      go_upto_region 26 with fail
      by_cases h1 : c1 = 0
      · obtain ⟨e1, e2, e3⟩ := HV.out h1
        have HSB := Lib.hid (implShift_any (-a) (row_seen R_s_16.out (show q1.length ≤ 1100000 by omega)))
        rw [e2, e3] at HSB
        have hle : ((q1.length : Int) == (f.length : Int)) = true := by rw [e1]; simp
        have hwa : IntKind.i64.wrap (-a) = -a := IntWalk.i64_in _ (by omega)
        subst h1
        clear e1 e2 e3
        go_wp2_with fail
        refine HSB.out.mono ?_
        rintro e Wa ⟨va, rfl, ra, ba⟩
        obtain ⟨oa, ca, rfl⟩ := row_slice ra
        have RA := Lib.hid ra
        have FA := Lib.hid (row_below R_f_16.out ba (Nat.le_refl _))
        have BA := Lib.hid (B16.out.trans (ba.mono B16.out.size))
        clear ra ba
        go_wp2_with fail
        refine (likeInts_same RA.out FA.out (by omega)).mono ?_
        rintro e Wb ⟨rfl, nd, hw⟩
        have BB := Lib.hid (show Below w.heap.size w Wb by rw [hw]; exact below_drewN BA.out nd)
        clear hw nd
        go_wp2_with fail
        go_ret
        exact ⟨rfl, BB.out⟩
      · have h1' : (c1 != 0) = true := by simpa using h1
        clear h1
        go_wp2_with fail
        go_ret
        exact ⟨rfl, B16.out⟩
set_option maxRecDepth 100000 in
theorem shifted_walk (a : Option Addr) (len cap : Nat) (zs : List Int) (w : World) (h : IsRowOf .u8 w a len cap zs) :
    Calls Try.prog 4 #[.slice a len cap] w fun e w' => e = .returned (.bool true) ∧ Below w.heap.size w w' := by
  obtain ⟨hc, hm⟩ := codeIn_of h
  by_cases hl : len ≤ 4096
  · exact shifted_core a len cap w hl hc
  · clear hc h
    go_enter Try.func4, Try.ntmps4
    go_wp2_with (go_at_call 13; refine (big_yes _ _ _ _ (by omega) (by omega)).mono ?_; rintro e w' ⟨rfl, rfl⟩)
    go_ret
    exact ⟨rfl, Below.refl _ _⟩
end Go.Proofs.Ytcennddgbpkclaa
