/- The walk of the law FnMonicQuotients: true for every code; below the old memory nothing has turned. -/
import Derived.Test.YtbolmmgkmgmfeaaResDraw
import Derived.Test.YtbolmmgkmgmfeaaResLaw2
import Derived.Test.YtbolmmgkmgmfeaaPolyLike
import Derived.Test.YtbolmmgkmgmfeaaCommonFn
namespace Go.Proofs.Ytbolmmgkmgmfeaa
open Go.RowKit
set_option linter.unusedVariables false
set_option linter.unusedSimpArgs false
/-- what the law asks -/
theorem mq_fact {f g : List Int} (h : dmC f g = 0) :
    ((if twoP g (dmQ f g) then resC (mulL g (dmQ f g)) else 1) = 0 ∧ (if twoP (if twoP g (dmQ f g) then resL (mulL g (dmQ f g)) else []) (dmS f g) then resC (addL (if twoP g (dmQ f g) then resL (mulL g (dmQ f g)) else []) (dmS f g) 1) else 1) = 0 ∧
      (if twoP (if twoP g (dmQ f g) then resL (mulL g (dmQ f g)) else []) (dmS f g) then resL (addL (if twoP g (dmQ f g) then resL (mulL g (dmQ f g)) else []) (dmS f g) 1) else []) = f ∨
     (if twoP g (dmQ f g) then resC (mulL g (dmQ f g)) else 1) = 3) ∧ (dmS f g).length < g.length := by
  obtain ⟨hf, hg, hm, ho⟩ : polyB f = true ∧ polyB g = true ∧ monB g = true ∧ dmOk f g = true := by
    unfold dmC at h
    split at h
    · rename_i hp
      rw [Bool.and_eq_true] at hp
      split at h
      · rename_i hm
        split at h
        · rename_i ho; exact ⟨hp.1, hp.2, hm, ho⟩
        · cases h
      · cases h
    · cases h
  obtain ⟨e1, e2⟩ := dm_some h
  obtain ⟨hv, hlt, hq, hr⟩ := monic_law hf hg hm ho
  rw [← e1, ← e2] at hv
  rw [← e2] at hlt hr
  rw [← e1] at hq
  generalize dmQ f g = q at *
  generalize dmS f g = r at *
  refine ⟨?_, hlt⟩
  rw [show twoP g q = true by simp [twoP, hg, hq], if_pos rfl, if_pos rfl]
  by_cases hc : resC (mulL g q) = 0
  · left
    obtain ⟨k1, k2⟩ := res_poly hc
    rw [show twoP (resL (mulL g q)) r = true by simp [twoP, k1, hr], if_pos rfl, if_pos rfl]
    have ht : trimL (addL (resL (mulL g q)) r 1) = f := by
      refine pval_ext (trimL_last _) (poly_last hf) fun x => ?_
      rw [pval_trim, pval_add, k2, pval_trim, pval_mul, ← hv x, Int.one_mul, Int.mul_comm]
    generalize resL (mulL g q) = p at *
    exact ⟨hc, by simp [resC, ht, hf], by simp [resL, ht, hf]⟩
  · right
    unfold resC at hc ⊢
    split
    · rename_i h2; exact absurd (if_pos h2) hc
    · rfl
set_option maxRecDepth 100000 in
set_option maxHeartbeats 4000000 in
theorem monicq_core (o : Option Addr) (len cap : Nat) (w : World) (hl : len ≤ 4096) (hc : CodeIn w o len) :
    Calls Try.prog 5 #[.slice o len cap] w fun e w' => e = .returned (.bool true) ∧ Below w.heap.size w w' := by
  have HC := Lib.hid hc
  have B0 := Lib.hid (Below.refl w.heap.size w)
  clear hc
  go_enter Try.func5, Try.ntmps5
  go_wp2_with fail
  refine (big_no _ _ _ _ hl).mono ?_
  rintro e w' ⟨rfl, rfl⟩
  go_wp2_with fail
  refine (drawDM_any o len cap _ hl (codeIn_below (B := 0) HC.out B0.out)).mono ?_
  rintro e W1 ⟨v1, v2, f, g, rfl, rf, rg, hf10, hg10, b1⟩
  obtain ⟨o_f, c_f, rfl⟩ := row_slice rf
  obtain ⟨o_g, c_g, rfl⟩ := row_slice rg
  have B1 := Lib.hid (B0.out.trans (b1.mono B0.out.size))
  have R_f_1 := Lib.hid rf
  have R_g_1 := Lib.hid rg
  clear b1 rf rg
  have HV := Lib.hid (mq_fact (f := f) (g := g))
  have hq9 := dmQ_len f g
  have hr9 := dmS_len f g
  have HQD := Lib.hid fun (w : World) (b b' : Nat) (h : IntRow b w (.slice o_f f.length c_f) f) (h' : IntRow b' w (.slice o_g g.length c_g) g) => implDM_any (row_seen h (show f.length ≤ 1100000 by omega)) (row_seen h' (show g.length ≤ 1100000 by omega))
  have HSD := Lib.hid fun (w : World) (b b' : Nat) (h : IntRow b w (.slice o_f f.length c_f) f) (h' : IntRow b' w (.slice o_g g.length c_g) g) => specDM_any (row_seen h (show f.length ≤ 1100000 by omega)) (row_seen h' (show g.length ≤ 1100000 by omega))
  generalize dmQ f g = q at *
  generalize dmS f g = r at *
  generalize dmC f g = c at *
  go_wp2_with fail
  refine (HQD.out _ _ _ R_f_1.out R_g_1.out).mono ?_
  rintro e W2 ⟨v2, u2, rfl, r2, t2, b2, -⟩
  obtain ⟨o_q, c_q, rfl⟩ := row_slice r2
  obtain ⟨o_r, c_r, rfl⟩ := row_slice t2
  have B2 := Lib.hid (B1.out.trans (b2.mono B1.out.size))
  have R_f_2 := Lib.hid (row_below R_f_1.out b2 (Nat.le_refl _))
  have R_g_2 := Lib.hid (row_below R_g_1.out b2 (Nat.le_refl _))
  have R_q_2 := Lib.hid r2
  have R_r_2 := Lib.hid t2
  clear r2 t2 b2
  go_wp2_with fail
  refine (HSD.out _ _ _ R_f_2.out R_g_2.out).mono ?_
  rintro e W3 ⟨v3, u3, rfl, r3, t3, b3, -⟩
  obtain ⟨o_m, c_m, rfl⟩ := row_slice r3
  obtain ⟨o_n, c_n, rfl⟩ := row_slice t3
  have B3 := Lib.hid (B2.out.trans (b3.mono B2.out.size))
  have R_f_3 := Lib.hid (row_below R_f_2.out b3 (Nat.le_refl _))
  have R_g_3 := Lib.hid (row_below R_g_2.out b3 (Nat.le_refl _))
  have R_q_3 := Lib.hid (row_below R_q_2.out b3 (Nat.le_refl _))
  have R_r_3 := Lib.hid (row_below R_r_2.out b3 (Nat.le_refl _))
  have R_m_3 := Lib.hid r3
  have R_n_3 := Lib.hid t3
  clear r3 t3 b3
  go_wp2_with fail
  refine (likeInts_same R_q_3.out R_m_3.out (by omega)).mono ?_
  rintro e W4 ⟨rfl, nd, hw⟩
  have b4 : Below W3.heap.size W3 W4 := by rw [hw]; exact below_drewN (Below.refl _ _) nd
  clear hw nd
  have B4 := Lib.hid (B3.out.trans (b4.mono B3.out.size))
  have R_f_4 := Lib.hid (row_below R_f_3.out b4 (Nat.le_refl _))
  have R_g_4 := Lib.hid (row_below R_g_3.out b4 (Nat.le_refl _))
  have R_q_4 := Lib.hid (row_below R_q_3.out b4 (Nat.le_refl _))
  have R_r_4 := Lib.hid (row_below R_r_3.out b4 (Nat.le_refl _))
  have R_m_4 := Lib.hid (row_below R_m_3.out b4 (Nat.le_refl _))
  have R_n_4 := Lib.hid (row_below R_n_3.out b4 (Nat.le_refl _))
  clear b4
  go_wp2_with fail
  refine (likeInts_same R_r_4.out R_n_4.out (by omega)).mono ?_
  rintro e W5 ⟨rfl, nd, hw⟩
  have b5 : Below W4.heap.size W4 W5 := by rw [hw]; exact below_drewN (Below.refl _ _) nd
  clear hw nd
  have B5 := Lib.hid (B4.out.trans (b5.mono B4.out.size))
  have R_f_5 := Lib.hid (row_below R_f_4.out b5 (Nat.le_refl _))
  have R_g_5 := Lib.hid (row_below R_g_4.out b5 (Nat.le_refl _))
  have R_q_5 := Lib.hid (row_below R_q_4.out b5 (Nat.le_refl _))
  have R_r_5 := Lib.hid (row_below R_r_4.out b5 (Nat.le_refl _))
  have R_n_5 := Lib.hid (row_below R_n_4.out b5 (Nat.le_refl _))
  clear b5
  clear HQD HSD
  by_cases h1 : c = 0
  · obtain ⟨hv, hlt⟩ := HV.out h1
    subst h1
    have hltI : (r.length : Int) < (g.length : Int) := by omega
    have HMI := Lib.hid fun (w : World) (b b' : Nat) (h : IntRow b w (.slice o_g g.length c_g) g) (h' : IntRow b' w (.slice o_q q.length c_q) q) => implMulP_any (row_seen h (show g.length ≤ 1100000 by omega)) (row_seen h' (show q.length ≤ 1100000 by omega))
    have hp9 : (if twoP g q then resL (mulL g q) else []).length ≤ 9 := if_len
    generalize (if twoP g q then resC (mulL g q) else 1) = c1 at *
    generalize (if twoP g q then resL (mulL g q) else []) = p at *
    have HVV := Lib.hid hv
    clear hv HV
    go_wp2_with fail
    refine (HMI.out _ _ _ R_g_5.out R_q_5.out).mono ?_
    rintro e W6 ⟨v6, rfl, r6, b6⟩
    obtain ⟨o_p, c_p, rfl⟩ := row_slice r6
    have B6 := Lib.hid (B5.out.trans (b6.mono B5.out.size))
    have R_f_6 := Lib.hid (row_below R_f_5.out b6 (Nat.le_refl _))
    have R_g_6 := Lib.hid (row_below R_g_5.out b6 (Nat.le_refl _))
    have R_q_6 := Lib.hid (row_below R_q_5.out b6 (Nat.le_refl _))
    have R_r_6 := Lib.hid (row_below R_r_5.out b6 (Nat.le_refl _))
    have R_p_6 := Lib.hid r6
    clear r6 b6
    rcases HVV.out with ⟨k1, k2, k3⟩ | k1
    · have HAI := Lib.hid fun (w : World) (b b' : Nat) (h : IntRow b w (.slice o_p p.length c_p) p) (h' : IntRow b' w (.slice o_r r.length c_r) r) => implAddP_any (row_seen h (show p.length ≤ 1100000 by omega)) (row_seen h' (show r.length ≤ 1100000 by omega))
      rw [k2, k3] at HAI
      subst k1
      clear k2 k3 HVV HMI
      go_wp2_with fail
      refine (HAI.out _ _ _ R_p_6.out R_r_6.out).mono ?_
      rintro e W7 ⟨v7, rfl, r7, b7⟩
      obtain ⟨o_s, c_s, rfl⟩ := row_slice r7
      have B7 := Lib.hid (B6.out.trans (b7.mono B6.out.size))
      have R_f_7 := Lib.hid (row_below R_f_6.out b7 (Nat.le_refl _))
      have R_g_7 := Lib.hid (row_below R_g_6.out b7 (Nat.le_refl _))
      have R_q_7 := Lib.hid (row_below R_q_6.out b7 (Nat.le_refl _))
      have R_r_7 := Lib.hid (row_below R_r_6.out b7 (Nat.le_refl _))
      have R_p_7 := Lib.hid (row_below R_p_6.out b7 (Nat.le_refl _))
      have R_s_7 := Lib.hid r7
      clear r7 b7
      go_wp2_with fail
      refine (likeInts_same R_s_7.out R_f_7.out (by omega)).mono ?_
      rintro e W8 ⟨rfl, nd, hw⟩
      have b8 : Below W7.heap.size W7 W8 := by rw [hw]; exact below_drewN (Below.refl _ _) nd
      clear hw nd
      have B8 := Lib.hid (B7.out.trans (b8.mono B7.out.size))
      have R_f_8 := Lib.hid (row_below R_f_7.out b8 (Nat.le_refl _))
      have R_g_8 := Lib.hid (row_below R_g_7.out b8 (Nat.le_refl _))
      have R_q_8 := Lib.hid (row_below R_q_7.out b8 (Nat.le_refl _))
      have R_r_8 := Lib.hid (row_below R_r_7.out b8 (Nat.le_refl _))
      have R_p_8 := Lib.hid (row_below R_p_7.out b8 (Nat.le_refl _))
      have R_s_8 := Lib.hid (row_below R_s_7.out b8 (Nat.le_refl _))
      clear b8
      have HBE := Lib.hid B8.out
      go_wp2_with fail
      go_ret
      exact ⟨rfl, HBE.out⟩
    · subst k1
      clear HVV HMI
      go_wp2_with fail
      go_ret
      exact ⟨rfl, B6.out⟩
  · have h1' : (c != 0) = true := by simpa using h1
    clear h1 HV
    go_wp2_with fail
    go_ret
    exact ⟨rfl, B5.out⟩
set_option maxRecDepth 100000 in
theorem monicq_walk (a : Option Addr) (len cap : Nat) (zs : List Int) (w : World) (h : IsRowOf .u8 w a len cap zs) :
    Calls Try.prog 5 #[.slice a len cap] w fun e w' => e = .returned (.bool true) ∧ Below w.heap.size w w' := by
  obtain ⟨hc, hm⟩ := codeIn_of h
  by_cases hl : len ≤ 4096
  · exact monicq_core a len cap w hl hc
  · clear hc h
    go_enter Try.func5, Try.ntmps5
    go_wp2_with (go_at_call 10; refine (big_yes _ _ _ _ (by omega) (by omega)).mono ?_; rintro e w' ⟨rfl, rfl⟩)
    go_ret
    exact ⟨rfl, Below.refl _ _⟩
end Go.Proofs.Ytbolmmgkmgmfeaa
