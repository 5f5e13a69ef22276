/- The walk of the law FnPolynomialValues: true for every code; below the old memory nothing has turned. -/
import Derived.Test.YtcennddgbpkclaaPolyDraw2
import Derived.Test.YtcennddgbpkclaaPolyLike
import Derived.Test.YtcennddgbpkclaaCommonFn
import Derived.Test.YtcennddgbpkclaaDice
namespace Go.Proofs.Ytcennddgbpkclaa
open Go.RowKit
set_option linter.unusedVariables false
set_option linter.unusedSimpArgs false
set_option maxHeartbeats 800000 in
theorem roll6_any (o : Option Addr) (len cap : Nat) (w : World) (hl : len ≤ 4096) (hc : CodeIn w o len) :
    Calls Try.prog 25 #[.slice o len cap, .int .u64 601] w (RollPost o len cap w) := by
  have HN := Lib.hid (dice_new w o len cap (4759319 + (len : Int)) 60 hl hc (by omega) (by omega))
  clear hc
  go_enter Try.func25, Try.ntmps25
  go_wp2
  go_loopw [6] (fun iv wr => ∃ (k : Nat) (z : Int), k ≤ len ∧ iv = .int .i64 k ∧ DiceAt wr o len cap w.heap.size 0 z ∧ Below w.heap.size w wr) (fun iv _ => len - (intOf iv).toNat)
  case atStart => exact ⟨0, _, Nat.zero_le _, rfl, HN.out, (Below.refl _ _).alloc (Nat.le_refl _) _⟩
  case round =>
    obtain ⟨k, z, hk, rfl, hd, hb⟩ := hrel
    have a2 := hd.c2
    have az := hd.fz 2
    have HD := Lib.hid hd
    have HB := Lib.hid hb
    clear hd hb HN
    by_cases hlt : k < len
    · obtain ⟨b, off, rfl, hbp, hc⟩ : ∃ b off, o = some ⟨b, off, none⟩ ∧ b < w.heap.size ∧ ∀ i, i < len → ∃ z : Int, wr.cell? ⟨b, off + i, none⟩ = some (.int .u8 z) ∧ 0 ≤ z ∧ z ≤ 255 := by
        rcases HD.out.code with h0 | h0
        · omega
        · exact h0
      obtain ⟨x, hx, x0, x1⟩ := hc k hlt
      clear hc
      go_wp2
      go_still_tail 15, (by kernel_rfl)
      go_wp2
      exact ⟨⟨k + 1, _, by omega, by go_num, dice_drewN (dice_cell HD.out _ (u64_bd _).1 (u64_bd _).2) 1, (HB.out.setCell (Nat.le_refl _) _).drew⟩, by simp only [intOf]; omega⟩
    · go_wp2
      go_ret
      exact ⟨_, _, rfl, Nat.le_refl _, HD.out, HB.out⟩
theorem valueQ_bd (f : List Int) (x : Int) : -1000000000000 ≤ valueQ f x ∧ valueQ f x ≤ 1000000000000 := by
  unfold valueQ
  split
  · rename_i h
    unfold valueC at h
    split at h
    · split at h
      · split at h
        · rename_i hin; simpa [inB] using hin
        · cases h
      · cases h
    · cases h
  · omega
/-- what the law asks of values -/
theorem vals_fact {f g : List Int} (h1 : (if twoP f g then resC (mulL f g) else 1) = 0) (h2 : (if twoP f g then resC (addL f g 1) else 1) = 0) (x : Int) (x0 : -3 ≤ x) (x1 : x ≤ 3) :
    valueC f x = 0 ∧ valueC g x = 0 ∧ valueC (if twoP f g then resL (mulL f g) else []) x = 0 ∧ valueC (if twoP f g then resL (addL f g 1) else []) x = 0 ∧
    valueQ (if twoP f g then resL (mulL f g) else []) x = valueQ f x * valueQ g x ∧ valueQ (if twoP f g then resL (addL f g 1) else []) x = valueQ f x + valueQ g x := by
  cases ht : twoP f g
  · rw [ht] at h1; cases h1
  · rw [ht] at h1 h2
    obtain ⟨hf, hg⟩ : polyB f = true ∧ polyB g = true := by simpa [twoP] using ht
    rw [if_pos rfl, if_pos rfl]
    exact values_law hf hg h1 h2 x0 x1
set_option maxRecDepth 100000 in
set_option maxHeartbeats 4000000 in
theorem values_core (o : Option Addr) (len cap : Nat) (w : World) (hl : len ≤ 4096) (hc : CodeIn w o len) :
    Calls Try.prog 3 #[.slice o len cap] w fun e w' => e = .returned (.bool true) ∧ Below w.heap.size w w' := by
  have HC := Lib.hid hc
  have B0 := Lib.hid (Below.refl w.heap.size w)
  clear hc
  go_enter Try.func3, Try.ntmps3
  go_wp2_with fail
  refine (big_no _ _ _ _ hl).mono ?_
  rintro e w' ⟨rfl, rfl⟩
  go_wp2_with fail
  refine (drawMulP_any o len cap _ hl (codeIn_below (B := 0) HC.out B0.out)).mono ?_
  rintro e W1 ⟨v1, v2, f, g, rfl, rf, rg, hf10, hg10, b1⟩
  obtain ⟨o_f, c_f, rfl⟩ := row_slice rf
  obtain ⟨o_g, c_g, rfl⟩ := row_slice rg
  have B1 := Lib.hid (B0.out.trans (b1.mono B0.out.size))
  have R_f_1 := Lib.hid rf
  have R_g_1 := Lib.hid rg
  clear b1 rf rg
  have HV := Lib.hid (vals_fact (f := f) (g := g))
  have hq1 : (if twoP f g then resL (mulL f g) else []).length ≤ 9 := if_len
  have hq2 : (if twoP f g then resL (addL f g 1) else []).length ≤ 9 := if_len
  have HMI := Lib.hid fun (w : World) (b b' : Nat) (h : IntRow b w (.slice o_f f.length c_f) f) (h' : IntRow b' w (.slice o_g g.length c_g) g) => implMulP_any (row_seen h (show f.length ≤ 1100000 by omega)) (row_seen h' (show g.length ≤ 1100000 by omega))
  have HMS := Lib.hid fun (w : World) (b b' : Nat) (h : IntRow b w (.slice o_f f.length c_f) f) (h' : IntRow b' w (.slice o_g g.length c_g) g) => specMulP_any (row_seen h (show f.length ≤ 1100000 by omega)) (row_seen h' (show g.length ≤ 1100000 by omega))
  have HAI := Lib.hid fun (w : World) (b b' : Nat) (h : IntRow b w (.slice o_f f.length c_f) f) (h' : IntRow b' w (.slice o_g g.length c_g) g) => implAddP_any (row_seen h (show f.length ≤ 1100000 by omega)) (row_seen h' (show g.length ≤ 1100000 by omega))
  have HAS := Lib.hid fun (w : World) (b b' : Nat) (h : IntRow b w (.slice o_f f.length c_f) f) (h' : IntRow b' w (.slice o_g g.length c_g) g) => specAddP_any (row_seen h (show f.length ≤ 1100000 by omega)) (row_seen h' (show g.length ≤ 1100000 by omega))
  generalize (if twoP f g then resL (mulL f g) else []) = q1 at *
  generalize (if twoP f g then resC (mulL f g) else 1) = c1 at *
  generalize (if twoP f g then resL (addL f g 1) else []) = q2 at *
  generalize (if twoP f g then resC (addL f g 1) else 1) = c2 at *
  go_wp2_with fail
  refine (HMI.out _ _ _ R_f_1.out R_g_1.out).mono ?_
  rintro e W2 ⟨v2, rfl, r2, b2⟩
  obtain ⟨o_p, c_p, rfl⟩ := row_slice r2
  have B2 := Lib.hid (B1.out.trans (b2.mono B1.out.size))
  have R_f_2 := Lib.hid (row_below R_f_1.out b2 (Nat.le_refl _))
  have R_g_2 := Lib.hid (row_below R_g_1.out b2 (Nat.le_refl _))
  have R_p_2 := Lib.hid r2
  clear r2 b2
  go_wp2_with fail
  refine (HMS.out _ _ _ R_f_2.out R_g_2.out).mono ?_
  rintro e W3 ⟨v3, rfl, r3, b3⟩
  obtain ⟨o_m, c_m, rfl⟩ := row_slice r3
  have B3 := Lib.hid (B2.out.trans (b3.mono B2.out.size))
  have R_f_3 := Lib.hid (row_below R_f_2.out b3 (Nat.le_refl _))
  have R_g_3 := Lib.hid (row_below R_g_2.out b3 (Nat.le_refl _))
  have R_p_3 := Lib.hid (row_below R_p_2.out b3 (Nat.le_refl _))
  have R_m_3 := Lib.hid r3
  clear r3 b3
  go_wp2_with fail
  refine (HAI.out _ _ _ R_f_3.out R_g_3.out).mono ?_
  rintro e W4 ⟨v4, rfl, r4, b4⟩
  obtain ⟨o_s, c_s, rfl⟩ := row_slice r4
  have B4 := Lib.hid (B3.out.trans (b4.mono B3.out.size))
  have R_f_4 := Lib.hid (row_below R_f_3.out b4 (Nat.le_refl _))
  have R_g_4 := Lib.hid (row_below R_g_3.out b4 (Nat.le_refl _))
  have R_p_4 := Lib.hid (row_below R_p_3.out b4 (Nat.le_refl _))
  have R_m_4 := Lib.hid (row_below R_m_3.out b4 (Nat.le_refl _))
  have R_s_4 := Lib.hid r4
  clear r4 b4
  go_wp2_with fail
  refine (HAS.out _ _ _ R_f_4.out R_g_4.out).mono ?_
  rintro e W5 ⟨v5, rfl, r5, b5⟩
  obtain ⟨o_t, c_t, rfl⟩ := row_slice r5
  have B5 := Lib.hid (B4.out.trans (b5.mono B4.out.size))
  have R_f_5 := Lib.hid (row_below R_f_4.out b5 (Nat.le_refl _))
  have R_g_5 := Lib.hid (row_below R_g_4.out b5 (Nat.le_refl _))
  have R_p_5 := Lib.hid (row_below R_p_4.out b5 (Nat.le_refl _))
  have R_m_5 := Lib.hid (row_below R_m_4.out b5 (Nat.le_refl _))
  have R_s_5 := Lib.hid (row_below R_s_4.out b5 (Nat.le_refl _))
  have R_t_5 := Lib.hid r5
  clear r5 b5
  go_wp2_with fail
  refine (drawEval_any o len cap _ hl (codeIn_below (B := 0) HC.out B5.out)).mono ?_
  rintro e W6 ⟨v3, h, x, rfl, rh, hh10, hx0, hx1, b6⟩
  obtain ⟨o_h, c_h, rfl⟩ := row_slice rh
  have B6 := Lib.hid (B5.out.trans (b6.mono B5.out.size))
  have R_f_6 := Lib.hid (row_below R_f_5.out b6 (Nat.le_refl _))
  have R_g_6 := Lib.hid (row_below R_g_5.out b6 (Nat.le_refl _))
  have R_p_6 := Lib.hid (row_below R_p_5.out b6 (Nat.le_refl _))
  have R_m_6 := Lib.hid (row_below R_m_5.out b6 (Nat.le_refl _))
  have R_s_6 := Lib.hid (row_below R_s_5.out b6 (Nat.le_refl _))
  have R_t_6 := Lib.hid (row_below R_t_5.out b6 (Nat.le_refl _))
  have R_h_6 := Lib.hid rh
  clear b6 rh
  have HEI := Lib.hid fun (w : World) (b : Nat) (k : IntRow b w (.slice o_h h.length c_h) h) => implEval_any x (row_seen k (show h.length ≤ 1100000 by omega))
  have HES := Lib.hid fun (w : World) (b : Nat) (k : IntRow b w (.slice o_h h.length c_h) h) => specEval_any x (row_seen k (show h.length ≤ 1100000 by omega))
  generalize valueQ h x = q3 at *
  generalize valueC h x = c3 at *
  go_wp2_with fail
  refine (HEI.out _ _ R_h_6.out).mono ?_
  rintro e W7 ⟨rfl, b7⟩
  have B7 := Lib.hid (B6.out.trans (b7.mono B6.out.size))
  have R_f_7 := Lib.hid (row_below R_f_6.out b7 (Nat.le_refl _))
  have R_g_7 := Lib.hid (row_below R_g_6.out b7 (Nat.le_refl _))
  have R_p_7 := Lib.hid (row_below R_p_6.out b7 (Nat.le_refl _))
  have R_m_7 := Lib.hid (row_below R_m_6.out b7 (Nat.le_refl _))
  have R_s_7 := Lib.hid (row_below R_s_6.out b7 (Nat.le_refl _))
  have R_t_7 := Lib.hid (row_below R_t_6.out b7 (Nat.le_refl _))
  have R_h_7 := Lib.hid (row_below R_h_6.out b7 (Nat.le_refl _))
  clear b7
  go_wp2_with fail
  refine (HES.out _ _ R_h_7.out).mono ?_
  rintro e W8 ⟨rfl, hw⟩
  have b8 : Below W7.heap.size W7 W8 := by rw [← hw]; exact Below.refl _ _
  clear hw
  have B8 := Lib.hid (B7.out.trans (b8.mono B7.out.size))
  have R_f_8 := Lib.hid (row_below R_f_7.out b8 (Nat.le_refl _))
  have R_g_8 := Lib.hid (row_below R_g_7.out b8 (Nat.le_refl _))
  have R_p_8 := Lib.hid (row_below R_p_7.out b8 (Nat.le_refl _))
  have R_m_8 := Lib.hid (row_below R_m_7.out b8 (Nat.le_refl _))
  have R_s_8 := Lib.hid (row_below R_s_7.out b8 (Nat.le_refl _))
  have R_t_8 := Lib.hid (row_below R_t_7.out b8 (Nat.le_refl _))
  have R_h_8 := Lib.hid (row_below R_h_7.out b8 (Nat.le_refl _))
  clear b8
  go_wp2_with fail
  refine (likeInts_same R_p_8.out R_m_8.out (by omega)).mono ?_
  rintro e W9 ⟨rfl, nd, hw⟩
  have b9 : Below W8.heap.size W8 W9 := by rw [hw]; exact below_drewN (Below.refl _ _) nd
  clear hw nd
  have B9 := Lib.hid (B8.out.trans (b9.mono B8.out.size))
  have R_f_9 := Lib.hid (row_below R_f_8.out b9 (Nat.le_refl _))
  have R_g_9 := Lib.hid (row_below R_g_8.out b9 (Nat.le_refl _))
  have R_p_9 := Lib.hid (row_below R_p_8.out b9 (Nat.le_refl _))
  have R_m_9 := Lib.hid (row_below R_m_8.out b9 (Nat.le_refl _))
  have R_s_9 := Lib.hid (row_below R_s_8.out b9 (Nat.le_refl _))
  have R_t_9 := Lib.hid (row_below R_t_8.out b9 (Nat.le_refl _))
  clear b9
  go_wp2_with fail
  refine (likeInts_same R_s_9.out R_t_9.out (by omega)).mono ?_
  rintro e W10 ⟨rfl, nd, hw⟩
  have b10 : Below W9.heap.size W9 W10 := by rw [hw]; exact below_drewN (Below.refl _ _) nd
  clear hw nd
  have B10 := Lib.hid (B9.out.trans (b10.mono B9.out.size))
  have R_f_10 := Lib.hid (row_below R_f_9.out b10 (Nat.le_refl _))
  have R_g_10 := Lib.hid (row_below R_g_9.out b10 (Nat.le_refl _))
  have R_p_10 := Lib.hid (row_below R_p_9.out b10 (Nat.le_refl _))
  have R_s_10 := Lib.hid (row_below R_s_9.out b10 (Nat.le_refl _))
  have R_t_10 := Lib.hid (row_below R_t_9.out b10 (Nat.le_refl _))
  clear b10
  go_wp2_with fail
  refine (implIsPoly_any (row_seen R_f_10.out (by omega))).mono ?_
  rintro e W11 ⟨rfl, hw⟩
  have b11 : Below W10.heap.size W10 W11 := by rw [← hw]; exact Below.refl _ _
  clear hw
  have B11 := Lib.hid (B10.out.trans (b11.mono B10.out.size))
  have R_f_11 := Lib.hid (row_below R_f_10.out b11 (Nat.le_refl _))
  have R_g_11 := Lib.hid (row_below R_g_10.out b11 (Nat.le_refl _))
  have R_p_11 := Lib.hid (row_below R_p_10.out b11 (Nat.le_refl _))
  have R_s_11 := Lib.hid (row_below R_s_10.out b11 (Nat.le_refl _))
  clear b11
  go_wp2_with fail
  refine (specIsPoly_any (row_seen R_f_11.out (by omega))).mono ?_
  rintro e W12 ⟨rfl, hw⟩
  have b12 : Below W11.heap.size W11 W12 := by rw [← hw]; exact Below.refl _ _
  clear hw
  have B12 := Lib.hid (B11.out.trans (b12.mono B11.out.size))
  have R_f_12 := Lib.hid (row_below R_f_11.out b12 (Nat.le_refl _))
  have R_g_12 := Lib.hid (row_below R_g_11.out b12 (Nat.le_refl _))
  have R_p_12 := Lib.hid (row_below R_p_11.out b12 (Nat.le_refl _))
  have R_s_12 := Lib.hid (row_below R_s_11.out b12 (Nat.le_refl _))
  clear b12
  by_cases h1 : c1 = 0
  · by_cases h2 : c2 = 0
    · have HVV := Lib.hid (HV.out h1 h2)
      subst h1 h2
      clear HMI HMS HAI HAS HEI HES HV
      go_wp2_with fail
      refine (roll6_any o len cap _ hl (codeIn_below (B := 0) HC.out B12.out)).mono ?_
      rintro e W13 ⟨bd, z, rfl, hbd, hd, b13⟩
      go_wp2_with fail
      refine (below_any o len cap bd 0 z 7 _ (by omega) (by omega) hd).mono ?_
      rintro e W14 ⟨r, rfl, r0, r1, bb⟩
      have b14 := b13.trans (bb.mono hbd)
      have B14 := Lib.hid (B12.out.trans (b14.mono B12.out.size))
      have R_f_14 := Lib.hid (row_below R_f_12.out b14 (Nat.le_refl _))
      have R_g_14 := Lib.hid (row_below R_g_12.out b14 (Nat.le_refl _))
      have R_p_14 := Lib.hid (row_below R_p_12.out b14 (Nat.le_refl _))
      have R_s_14 := Lib.hid (row_below R_s_12.out b14 (Nat.le_refl _))
      clear b13 bb hd hbd b14
      have hwr : IntKind.i64.wrap (r - 3) = r - 3 := IntWalk.i64_in _ (by omega)
      obtain ⟨x, hx⟩ : ∃ x, r - 3 = x := ⟨_, rfl⟩
      rw [hx] at hwr
      obtain ⟨e1, e2, e3, e4, e5, e6⟩ := HVV.out x (by omega) (by omega)
      have KF := Lib.hid fun (w : World) (b : Nat) (k : IntRow b w (.slice o_f f.length c_f) f) => implEval_any x (row_seen k (show f.length ≤ 1100000 by omega))
      have KG := Lib.hid fun (w : World) (b : Nat) (k : IntRow b w (.slice o_g g.length c_g) g) => implEval_any x (row_seen k (show g.length ≤ 1100000 by omega))
      have KP := Lib.hid fun (w : World) (b : Nat) (k : IntRow b w (.slice o_p q1.length c_p) q1) => implEval_any x (row_seen k (show q1.length ≤ 1100000 by omega))
      have KS := Lib.hid fun (w : World) (b : Nat) (k : IntRow b w (.slice o_s q2.length c_s) q2) => implEval_any x (row_seen k (show q2.length ≤ 1100000 by omega))
      rw [e1] at KF
      rw [e2] at KG
      rw [e3, e5] at KP
      rw [e4, e6] at KS
      obtain ⟨a0, a1⟩ := valueQ_bd f x
      obtain ⟨d0, d1⟩ := valueQ_bd g x
      clear e1 e2 e3 e4 e5 e6 HVV
      generalize valueQ f x = A at *
      generalize valueQ g x = D at *
      have hws : IntKind.i64.wrap (A + D) = A + D := IntWalk.i64_in _ (by omega)
      go_wp2_with fail
      try rw [hx]
      refine (KF.out _ _ R_f_14.out).mono ?_
      rintro e W15 ⟨rfl, b15⟩
      have B15 := Lib.hid (B14.out.trans (b15.mono B14.out.size))
      have R_f_15 := Lib.hid (row_below R_f_14.out b15 (Nat.le_refl _))
      have R_g_15 := Lib.hid (row_below R_g_14.out b15 (Nat.le_refl _))
      have R_p_15 := Lib.hid (row_below R_p_14.out b15 (Nat.le_refl _))
      have R_s_15 := Lib.hid (row_below R_s_14.out b15 (Nat.le_refl _))
      clear b15
      go_wp2_with fail
      try rw [hx]
      refine (KG.out _ _ R_g_15.out).mono ?_
      rintro e W16 ⟨rfl, b16⟩
      have B16 := Lib.hid (B15.out.trans (b16.mono B15.out.size))
      have R_f_16 := Lib.hid (row_below R_f_15.out b16 (Nat.le_refl _))
      have R_g_16 := Lib.hid (row_below R_g_15.out b16 (Nat.le_refl _))
      have R_p_16 := Lib.hid (row_below R_p_15.out b16 (Nat.le_refl _))
      have R_s_16 := Lib.hid (row_below R_s_15.out b16 (Nat.le_refl _))
      clear b16
      go_wp2_with fail
      try rw [hx]
      refine (KP.out _ _ R_p_16.out).mono ?_
      rintro e W17 ⟨rfl, b17⟩
      have B17 := Lib.hid (B16.out.trans (b17.mono B16.out.size))
      have R_f_17 := Lib.hid (row_below R_f_16.out b17 (Nat.le_refl _))
      have R_g_17 := Lib.hid (row_below R_g_16.out b17 (Nat.le_refl _))
      have R_p_17 := Lib.hid (row_below R_p_16.out b17 (Nat.le_refl _))
      have R_s_17 := Lib.hid (row_below R_s_16.out b17 (Nat.le_refl _))
      clear b17
      go_wp2_with fail
      try rw [hx]
      refine (KS.out _ _ R_s_17.out).mono ?_
      rintro e W18 ⟨rfl, b18⟩
      have B18 := Lib.hid (B17.out.trans (b18.mono B17.out.size))
      have R_f_18 := Lib.hid (row_below R_f_17.out b18 (Nat.le_refl _))
      have R_g_18 := Lib.hid (row_below R_g_17.out b18 (Nat.le_refl _))
      have R_p_18 := Lib.hid (row_below R_p_17.out b18 (Nat.le_refl _))
      have R_s_18 := Lib.hid (row_below R_s_17.out b18 (Nat.le_refl _))
      clear b18
      have HBE := Lib.hid B18.out
      by_cases g1 : 1000000000 < A
      · go_wp2_with fail
        go_ret
        exact ⟨rfl, HBE.out⟩
      · by_cases g2 : A < -1000000000
        · go_wp2_with fail
          go_ret
          exact ⟨rfl, HBE.out⟩
        · by_cases g3 : 1000000000 < D
          · go_wp2_with fail
            go_ret
            exact ⟨rfl, HBE.out⟩
          · by_cases g4 : D < -1000000000
            · go_wp2_with fail
              go_ret
              exact ⟨rfl, HBE.out⟩
            · have hm : -1000000000000000000 ≤ A * D ∧ A * D ≤ 1000000000000000000 := by
                have p1 : A.natAbs * D.natAbs ≤ 1000000000 * 1000000000 := Nat.mul_le_mul (by omega) (by omega)
                rw [← Int.natAbs_mul] at p1; omega
              have hwm : IntKind.i64.wrap (A * D) = A * D := IntWalk.i64_in _ (by omega)
              clear hm
              go_wp2_with fail
              go_ret
              exact ⟨rfl, HBE.out⟩
    · have h2' : (c2 != 0) = true := by simpa using h2
      clear h2
      go_wp2_with fail
      go_ret
      exact ⟨rfl, B12.out⟩
  · have h1' : (c1 != 0) = true := by simpa using h1
    clear h1
    go_wp2_with fail
    go_ret
    exact ⟨rfl, B12.out⟩
set_option maxRecDepth 100000 in
theorem values_walk (a : Option Addr) (len cap : Nat) (zs : List Int) (w : World) (h : IsRowOf .u8 w a len cap zs) :
    Calls Try.prog 3 #[.slice a len cap] w fun e w' => e = .returned (.bool true) ∧ Below w.heap.size w w' := by
  obtain ⟨hc, hm⟩ := codeIn_of h
  by_cases hl : len ≤ 4096
  · exact values_core a len cap w hl hc
  · clear hc h
    go_enter Try.func3, Try.ntmps3
    go_wp2_with (go_at_call 13; refine (big_yes _ _ _ _ (by omega) (by omega)).mono ?_; rintro e w' ⟨rfl, rfl⟩)
    go_ret
    exact ⟨rfl, Below.refl _ _⟩
end Go.Proofs.Ytcennddgbpkclaa
