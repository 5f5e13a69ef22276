/- Contracts of the walk: chapter 12: inverses by a polynomial, in spec and impl. -/
import Derived.Test.YtbjkcoajabcibaaLftSum
import Derived.Test.YtbjkcoajabcibaaLftSpec2
import Derived.Test.YtbjkcoajabcibaaLfB
import Derived.Test.YtbjkcoajabcibaaLfA
namespace Go.Proofs.Ytbjkcoajabcibaa
open Go.RowKit
set_option linter.unusedVariables false
set_option linter.unusedSimpArgs false
set_option maxRecDepth 20000
theorem eu_bd {p : Int} {g h a b u v : List Int} (h2 : 2 ≤ p) (h97 : p ≤ 97) (hp : PrimeP p) (e : EuP p g h a b u v) (lg : g.length ≤ 9) : u.length ≤ 9 ∧ v.length ≤ 8 := by
  have h0 := eu_nonzero h2 h97 hp e
  have h1 := e.la
  constructor
  · rcases e.lu with h3 | h3
    · rw [h3]; simp
    · omega
  · rcases e.lv with h3 | h3
    · rw [h3]; simp
    · omega
theorem modP_coef {p : Int} (p97 : p ≤ 97) {f : List Int} (h : ModP p f) : ∀ i, -1000000 ≤ f.getD i 0 ∧ f.getD i 0 ≤ 1000000 := fun i => by have := h.rng i; omega
theorem red_euc (p : Int) (hp : 0 < p) (u q v : List Int) : redL p (trimL (addL u (trimL (mulL q v)) (-1))) = redL p (addL u (mulL q v) (-1)) := by
  rw [redL_trim]
  exact redL_same hp (cgp_val fun x => by rw [pval_add, pval_add, pval_trim])
theorem seen_empty (w : World) : Seen w none 0 0 [] := row_seen (w := w) (l := []) (intRow_nil 0 w) (by simp)
theorem len_one {l : List Int} (h : l.length = 1) : ∃ c, l = [c] := List.length_eq_one_iff.1 h
set_option maxHeartbeats 2000000 in
theorem l12Inverse_any (p : Int) (hs : smallB p = true) {o o' : Option Addr} {n n' c c' : Nat} {h g : List Int} {w : World} (sh : Seen w o n c h) (sg : Seen w o' n' c' g) (mh : ModP p h) (mg : ModP p g) (lh : h.length ≤ 9) (lg : g.length ≤ 9) (lg2 : 2 ≤ g.length) (h1 : (gcdL p g h).length = 1) :
    Calls Try.prog 150 #[.int .i64 p, .slice o n c, .slice o' n' c'] w (OwnPost (invL p h g) w) := by
  obtain ⟨p2, p97, pp⟩ := small_prime hs
  have hg0 : g.length ≠ 0 := by omega
  have en := sh.1
  have en' := sg.1
  subst en'
  have hd0 := divP_is p2 p97 pp mh mg (fun e => hg0 (by rw [e]; rfl))
  have HDG := Lib.hid hd0.deg
  have SG := Lib.hid sg
  have MG := Lib.hid mg
  have E0 := Lib.hid (eu_start2 p2 p97 pp mg mh lg2 h1)
  have HR0 := Lib.hid (l08Rest_any p hs sh sg mh mg hg0 (by omega) (by omega))
  have HEQ := Lib.hid fun (s : List Int) (e : IsInvP p h g s) => invL_eq pp mg (fun e => hg0 (by rw [e]; rfl)) e
  have HREST := Lib.hid fun (wx : World) (o1 : Option Addr) (c1 : Nat) (a : List Int) (h1 : Seen wx o1 a.length c1 a) (hx : Seen wx o' g.length c' g) (hm : ModP p a) (hn : a.length ≤ 20) => l08Rest_any p hs h1 hx hm mg hg0 hn (by omega)
  clear sh sg mh mg h1 hd0 en
  go_enter Try.func150, Try.ntmps150
  go_wp2_with fail
  refine HR0.out.mono ?_
  rintro e W1 ⟨vr, rfl, hr, hb⟩
  obtain ⟨o1, c1, rfl⟩ := row_slice hr
  have S1 := Lib.hid (row_seen hr (by have := HDG.out; omega))
  have HB1 := Lib.hid hb
  have SG1 := Lib.hid (seen_below SG.out hb)
  clear hr hb HR0
  have hba := below_a8 W1 (.cells #[] 2)
  have hbb := below_a8 (W1.alloc (.cells #[] 2)) (.cells #[.int .i64 1] 2)
  have hs1 := seen_one (W1.alloc (.cells #[] 2)) 1 2
  rw [World.size_alloc] at hs1
  have hbc : Below W1.heap.size W1 ((W1.alloc (.cells #[] 2)).alloc (.cells #[.int .i64 1] 2)) := hba.trans (hbb.mono (by simp))
  have SV0 := Lib.hid hs1
  have SU0 := Lib.hid (seen_below (row_seen (l := []) (intRow_made W1) (by simp)) hbb)
  have SB0 := Lib.hid (seen_below S1.out hbc)
  have SA0 := Lib.hid (seen_below SG1.out hbc)
  have HB0 := Lib.hid (HB1.out.trans (hbc.mono HB1.out.size))
  clear hba hbb hs1 hbc S1 SG1
  go_wp2_with fail
  go_loopw [7, 8, 9, 10] (fun va vb vu vv wr => ∃ (o1 : Option Addr) (c1 : Nat) (a : List Int) (o2 : Option Addr) (c2 : Nat) (b : List Int) (o3 : Option Addr) (c3 : Nat) (u : List Int) (o4 : Option Addr) (c4 : Nat) (v : List Int), va = .slice o1 a.length c1 ∧ vb = .slice o2 b.length c2 ∧ vu = .slice o3 u.length c3 ∧ vv = .slice o4 v.length c4 ∧ Seen wr o1 a.length c1 a ∧ Seen wr o2 b.length c2 b ∧ Seen wr o3 u.length c3 u ∧ Seen wr o4 v.length c4 v ∧ EuP p g h a b u v ∧ a.length ≤ 9 ∧ b.length ≤ 9 ∧ Below w.heap.size w wr) (fun _ vb _ _ _ => lenV vb)
  case atStart => exact ⟨o', c', g, o1, c1, remP p h g, _, _, [], _, _, [1], rfl, rfl, rfl, rfl, SA0.out, SB0.out, SU0.out, SV0.out, E0.out, lg, by have := HDG.out; omega, HB0.out⟩
  case round =>
    obtain ⟨o1, c1, a, o2, c2, b, o3, c3, u, o4, c4, v, rfl, rfl, rfl, rfl, s1, s2, s3, s4, eu, la9, lb9, hb⟩ := hrel
    have HB := Lib.hid hb
    have EU := Lib.hid eu
    have S2 := Lib.hid s2
    have S3 := Lib.hid s3
    have S4 := Lib.hid s4
    have h0 := eu_nonzero p2 p97 pp eu
    have bd := eu_bd p2 p97 pp eu lg
    clear SA0 SB0 SU0 SV0 HB0 E0 HB1
    by_cases hlt : 1 < b.length
    · have hlt' : (1 : Int) < (b.length : Int) := by omega
      have HST := Lib.hid (eu_step p2 p97 pp eu hlt)
      have HD := Lib.hid (l08Div_any p hs s1 s2 eu.ma eu.mb h0 (by omega) (by omega))
      have hd := divP_is p2 p97 pp eu.ma eu.mb (fun e => h0 (by rw [e]; rfl))
      have lq := quoP_len p a b
      have hq9 : (quoP p a b).length ≤ 9 := by omega
      have HRL := Lib.hid hd.deg
      have PQ := Lib.hid (mod_poly p97 hq9 hd.mq)
      have PV := Lib.hid (mod_poly p97 (by omega) eu.mv)
      have HCQ := Lib.hid (modP_coef p97 hd.mq)
      have HCV := Lib.hid (modP_coef p97 eu.mv)
      have HCU := Lib.hid eu.mu
      have hml := mulL_le (quoP p a b) v
      have ht9 : (trimL (mulL (quoP p a b) v)).length ≤ 18 := trim_le (by omega)
      have HT9 := Lib.hid ht9
      have HRE := Lib.hid (red_euc p (by omega) u (quoP p a b) v)
      have hal : (trimL (addL u (trimL (mulL (quoP p a b) v)) (-1))).length ≤ 18 := trim_le (by rw [addL_length]; omega)
      have HAL := Lib.hid hal
      have HR9 := Lib.hid (remP_len p a b)
      clear s1 s2 s3 s4 eu hb hd lq hml ht9 hal h0
      go_wp2_with fail
      refine HD.out.mono ?_
      rintro e W3 ⟨vq, vr, rfl, hq, hr, hb3, hap⟩
      obtain ⟨o5, c5, rfl⟩ := row_slice hq
      obtain ⟨o6, c6, rfl⟩ := row_slice hr
      have SQ := Lib.hid (row_seen hq (by omega))
      have SR := Lib.hid (row_seen hr (by have := HR9.out; omega))
      have S2a := Lib.hid (seen_below S2.out hb3)
      have S3a := Lib.hid (seen_below S3.out hb3)
      have S4a := Lib.hid (seen_below S4.out hb3)
      have HB3 := Lib.hid (HB.out.trans (hb3.mono HB.out.size))
      clear hq hr hb3 hap HD S2 S3 S4
      go_wp2_with fail
      refine (l06Mul_any SQ.out S4a.out PQ.out PV.out).mono ?_
      rintro e W4 ⟨v5, rfl, hr5, hb5⟩
      obtain ⟨o7, c7, rfl⟩ := row_slice hr5
      have S5 := Lib.hid (row_seen hr5 (by have := HT9.out; omega))
      have S2b := Lib.hid (seen_below S2a.out hb5)
      have S3b := Lib.hid (seen_below S3a.out hb5)
      have S4b := Lib.hid (seen_below S4a.out hb5)
      have SRb := Lib.hid (seen_below SR.out hb5)
      have HB4 := Lib.hid (HB3.out.trans (hb5.mono HB3.out.size))
      clear hr5 hb5 S2a S3a S4a SR SQ
      go_wp2_with fail
      refine (l06Add_any (-1) S3b.out S5.out (fun i => by have := HCU.out.rng i; omega) (fun i => by
        rw [trimL_getD, mulL_getD]
        have := mulP_bd HCQ.out HCV.out i (quoP p a b).length
        omega)).mono ?_
      rintro e W5 ⟨v6, rfl, hr6, hb6⟩
      obtain ⟨o8, c8, rfl⟩ := row_slice hr6
      have S6 := Lib.hid (row_seen hr6 (by have := HAL.out; omega))
      have S2c := Lib.hid (seen_below S2b.out hb6)
      have S4c := Lib.hid (seen_below S4b.out hb6)
      have SRc := Lib.hid (seen_below SRb.out hb6)
      have HB5 := Lib.hid (HB4.out.trans (hb6.mono HB4.out.size))
      clear hr6 hb6 S2b S3b S4b SRb S5
      go_wp2_with fail
      refine (l08Reduce_any p p2 p97 S6.out (by have := HAL.out; omega)).mono ?_
      rw [HRE.out]
      rintro e W6 ⟨v7, rfl, hr7, hb7⟩
      obtain ⟨o9, c9, rfl⟩ := row_slice hr7
      have hw9 := (eu_bd p2 p97 pp HST.out lg).2
      have S7 := Lib.hid (row_seen hr7 (by omega))
      have S2d := Lib.hid (seen_below S2c.out hb7)
      have S4d := Lib.hid (seen_below S4c.out hb7)
      have SRd := Lib.hid (seen_below SRc.out hb7)
      have HB6 := Lib.hid (HB5.out.trans (hb7.mono HB5.out.size))
      clear hr7 hb7 S2c S4c SRc S6 hw9
      go_wp2_with fail
      exact ⟨⟨o2, c2, b, o6, c6, remP p a b, o4, c4, v, o9, c9, _, rfl, rfl, rfl, rfl, S2d.out, SRd.out, S4d.out, S7.out, HST.out, lb9, by have := HRL.out; omega, HB6.out⟩, by simp only [lenV]; exact HRL.out⟩
    · have hb1 : b.length = 1 := by omega
      obtain ⟨k, rfl⟩ := len_one hb1
      have hkr := eu.mb.rng 0
      rw [List.getD_cons_zero] at hkr
      obtain ⟨hk0, hk1⟩ := hkr
      have MV := Lib.hid eu.mv
      have PV := Lib.hid (mod_poly p97 (show v.length ≤ 9 by omega) eu.mv)
      have hpi := inv_poly p2 p97 pp eu.mb (by simp)
      simp only [invP, List.length_singleton, Nat.sub_self, List.getD_cons_zero] at hpi
      have PI := Lib.hid hpi
      clear hpi
      have HFIN := Lib.hid (HEQ.out _ (eu_end2 p2 p97 pp MG.out lg2 eu))
      obtain ⟨_, _, _, _, gb, ho2, hc2⟩ := s2
      obtain ⟨ho2, hgl⟩ := ho2 (by simp)
      have a2 := hc2 0 (by simp)
      rw [List.getD_cons_zero] at a2
      subst ho2
      have hlt' : ¬ (1 : Int) < (([k] : List Int).length : Int) := by simp
      have HPL := Lib.hid (prodL_le p v [bezX k p % p])
      have MP := Lib.hid (redL_mod (p := p) (by omega) (mulL v [bezX k p % p]))
      have SGW := Lib.hid (seen_below SG.out HB.out)
      clear s1 s3 s4 eu hb hc2 hgl h0 S2 S3 EU hlt hb1
      simp only [List.length_singleton] at hlt' ⊢
      go_wp2_with fail
      refine (l02Inv8_any k p _ hk0 hk1 p2 (by omega)).mono ?_
      rintro e wn ⟨rfl, rfl⟩
      have hiv := Int.emod_nonneg (bezX k p) (show p ≠ 0 by omega)
      obtain ⟨iv, hive⟩ : ∃ iv, bezX k p % p = iv := ⟨_, rfl⟩
      rw [hive] at PI HFIN HPL MP ⊢
      have hbn := below_a8 wr (.cells #[.int .i64 iv] 2)
      have SI := Lib.hid (seen_one wr iv 2)
      have SV := Lib.hid (seen_below S4.out hbn)
      have SGI := Lib.hid (seen_below SGW.out hbn)
      have HBI := Lib.hid (HB.out.trans (hbn.mono HB.out.size))
      clear hive hiv hbn a2
      go_wp2_with fail
      refine (l08Mul_any p p2 p97 SV.out SI.out PV.out PI.out).mono ?_
      rintro e W4 ⟨v5, rfl, hr5, hb5⟩
      obtain ⟨o7, c7, rfl⟩ := row_slice hr5
      have S5 := Lib.hid (row_seen hr5 (by have := HPL.out; simp at this; omega))
      have SG5 := Lib.hid (seen_below SGI.out hb5)
      have HB5 := Lib.hid (HBI.out.trans (hb5.mono HBI.out.size))
      clear hr5 hb5
      go_wp2_with fail
      refine (HREST.out _ _ _ _ S5.out SG5.out MP.out (by have := HPL.out; simp at this; omega)).mono ?_
      rintro e W5 ⟨v6, rfl, hr6, hb6⟩
      have HR6 := Lib.hid (intRow_lower hr6 HB5.out.size)
      have HB6 := Lib.hid (HB5.out.trans (hb6.mono HB5.out.size))
      clear hr6 hb6
      go_wp2_with fail
      go_ret
      rw [← HFIN.out]
      exact ⟨_, rfl, HR6.out, HB6.out⟩
end Go.Proofs.Ytbjkcoajabcibaa
