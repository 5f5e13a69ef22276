/- Contracts of the walk: chapter 12 in spec: the lifts of a pair. -/
import Derived.Test.YtbjkcoajabcibaaLftMath2
import Derived.Test.YtbjkcoajabcibaaLftInv
namespace Go.Proofs.Ytbjkcoajabcibaa
open Go.RowKit
set_option linter.unusedVariables false
set_option linter.unusedSimpArgs false
set_option maxRecDepth 20000
theorem mod_res9 {M : Int} (m9 : M ≤ 1000000000) {f : List Int} (h : ModP M f) : Res9 f := fun i => by have := h.rng i; omega
theorem mod_neg9 {M : Int} (m9 : M ≤ 1000000000) {f : List Int} (h : ModP M f) : ∀ i, -1000000000000000000 ≤ -1 * f.getD i 0 ∧ -1 * f.getD i 0 ≤ 1000000000000000000 := fun i => by have := h.rng i; omega
theorem mod_mul9 {p q : Int} (p97 : p ≤ 97) (q0 : 0 ≤ q) (q9 : q ≤ 1000000000) {f : List Int} (h : ModP p f) : ∀ i, -1000000000000000000 ≤ q * f.getD i 0 ∧ q * f.getD i 0 ≤ 1000000000000000000 := fun i => by
  have h1 := h.rng i
  have h2 := prod_nine q0 q9 h1.1 (by omega)
  omega
/-- what is asked of a pair to be lifted -/
structure LiftOk (p n : Int) (f g h : List Int) : Prop where
  ring : ringM p n ≠ 0
  mf : ModP (ringM p n) f
  mon : mncB f = true
  lf : f.length ≤ 9
  mg : ModP p g
  mh : ModP p h
  tw : TwinOk p f g h
theorem liftOk_len {p n : Int} {f g h : List Int} (e : LiftOk p n f g h) : f.length + 1 = g.length + h.length ∧ g.length ≤ 9 ∧ h.length ≤ 9 := by
  have hb := ringM_bd e.ring
  have h1 := pair_len hb.1 e.mon e.tw
  have := e.lf
  have := e.tw.lg
  have := e.tw.lh
  omega
theorem liftOk_all {p n : Int} {f g h : List Int} (e : LiftOk p n f g h) (k : Nat) : LifI (ringM p n) g h (lifN p (ringM p n) f g h k).1 (lifN p (ringM p n) f g h k).2 := by
  have hb := ringM_bd e.ring
  obtain ⟨_, _, pp⟩ := small_prime (ringM_in e.ring).1
  exact lifI_all hb.1 hb.2.1 pp hb.2.2.2.2.2.2 e.mg e.mh e.tw k
theorem liftOk_inv {p n : Int} {f g h : List Int} (e : LiftOk p n f g h) : InvOk p g h := by
  have hb := ringM_bd e.ring
  obtain ⟨_, _, pp⟩ := small_prime (ringM_in e.ring).1
  exact both_inv hb.1 hb.2.1 pp e.mg e.mh e.tw
/-- the lifts -/
noncomputable def liftA (p n : Int) (f g h : List Int) : List Int := (lifN p (ringM p n) f g h (n.toNat - 1)).1
noncomputable def liftB (p n : Int) (f g h : List Int) : List Int := (lifN p (ringM p n) f g h (n.toNat - 1)).2
set_option maxHeartbeats 8000000 in
theorem l12Lift_any (p n : Int) {o1 o2 o3 : Option Addr} {k1 k2 k3 c1 c2 c3 : Nat} {f g h : List Int} {w : World} (sf : Seen w o1 k1 c1 f) (sg : Seen w o2 k2 c2 g) (sh : Seen w o3 k3 c3 h) (ok : LiftOk p n f g h) :
    Calls Try.prog 109 #[.agg #[.int .i64 p, .int .i64 n], .slice o1 k1 c1, .slice o2 k2 c2, .slice o3 k3 c3] w (Own2Post (liftA p n f g h) (liftB p n f g h) w) := by
  have e1 := sf.1
  have e2 := sg.1
  have e3 := sh.1
  subst e1 e2 e3
  obtain ⟨p2, p97, hn1, hn2, m2, m9, hpm⟩ := ringM_bd ok.ring
  obtain ⟨hs, _, _, hpw⟩ := ringM_in ok.ring
  have pp := (small_prime hs).2.2
  obtain ⟨hlen, lg9, lh9⟩ := liftOk_len ok
  have lg2 := ok.tw.lg
  have lh2 := ok.tw.lh
  have OK := Lib.hid ok
  have HI := Lib.hid (liftOk_inv ok)
  have HALL := Lib.hid (liftOk_all ok)
  have HMG := Lib.hid ok.mg
  have HMH := Lib.hid ok.mh
  have ls9 : (invL p h g).length ≤ 8 := by have := HI.out.s.deg; omega
  have lt9 : (invL p g h).length ≤ 8 := by have := HI.out.t.deg; omega
  have HPS := Lib.hid (mod_poly p97 (show (invL p h g).length ≤ 9 by omega) HI.out.s.mod)
  have HPT := Lib.hid (mod_poly p97 (show (invL p g h).length ≤ 9 by omega) HI.out.t.mod)
  have SF := Lib.hid sf
  have SG := Lib.hid sg
  have SH := Lib.hid sh
  have HL2 := Lib.hid (show liftA p n f g h = (lifN p (ringM p n) f g h (n.toNat - 1)).1 ∧ liftB p n f g h = (lifN p (ringM p n) f g h (n.toNat - 1)).2 from ⟨rfl, rfl⟩)
  have H := Lib.hid (And.intro hs (And.intro hn1 (show n ≤ 1000 by omega)))
  have HNN := Lib.hid (show 1 ≤ n.toNat by omega)
  obtain ⟨M, hM⟩ : ∃ M, ringM p n = M := ⟨_, rfl⟩
  have HMM := Lib.hid hM
  rw [hM] at m2 m9 hpm hpw HALL HL2
  have HMF := Lib.hid (show ModP M f by rw [← hM]; exact ok.mf)
  have HMON := Lib.hid ok.mon
  obtain ⟨N, hN⟩ : ∃ N, n.toNat = N := ⟨_, rfl⟩
  rw [hN] at hpw HL2 HNN
  have HPW := Lib.hid hpw
  have HONE := Lib.hid (And.intro ok.tw.one (show (gcdL p h g).length = 1 by rw [gcdL_comm p2 p97 pp ok.mh ok.mg]; exact ok.tw.one))
  have HLEN := Lib.hid hlen
  obtain ⟨i0, hi, hz0, hz1, hz2⟩ := info_parts Try.infoInt64
  have HI0 := Lib.hid hi
  have HZ0 := Lib.hid hz0
  have HZ1 := Lib.hid hz1
  have HZ2 := Lib.hid hz2
  have HST := Lib.hid (keep_start (w := w) (a := .int .i64 p) (b := .int .i64 n) (T := 25) 0)
  clear sf sg sh ok hM hN hpw hlen hi hz0 hz1 hz2
  have d0 := HST.out.2.1
  have d1 := HST.out.2.2
  go_enter Try.func109, Try.ntmps109
  go_wp2_with fail
  go_quiet ((go_at_call 70; exact (l02Modulus_any _ _ _ H.out.1 H.out.2.1 H.out.2.2).mono fun e w' h => ⟨h.1, _, h.2.symm⟩))
  rw [HMM.out]
  have hb0 : Below w.heap.size w ((w.alloc (.cells #[.int .i64 p, .int .i64 n] 25)).drewN nq) := below_drewN (below_a8 w _) nq
  generalize (w.alloc (.cells #[.int .i64 p, .int .i64 n] 25)).drewN nq = W0 at *
  have HB0 := Lib.hid hb0
  have SF0 := Lib.hid (seen_below SF.out hb0)
  have SG0 := Lib.hid (seen_below SG.out hb0)
  have SH0 := Lib.hid (seen_below SH.out hb0)
  clear hb0 d0 d1 HST SF SG SH
  go_wp2_with fail
  refine (l12Inverse_any p hs SH0.out SG0.out HMH.out HMG.out lh9 lg9 lg2 HONE.out.1).mono ?_
  rintro e W1 ⟨v1, rfl, hr1, hb1⟩
  obtain ⟨os, cs, rfl⟩ := row_slice hr1
  have SS1 := Lib.hid (row_seen hr1 (by omega))
  have SF1 := Lib.hid (seen_below SF0.out hb1)
  have SG1 := Lib.hid (seen_below SG0.out hb1)
  have SH1 := Lib.hid (seen_below SH0.out hb1)
  have HB1 := Lib.hid (HB0.out.trans (hb1.mono HB0.out.size))
  clear hr1 hb1 HB0 SF0 SG0 SH0
  go_wp2_with fail
  refine (l12Inverse_any p hs SG1.out SH1.out HMG.out HMH.out lg9 lh9 lh2 HONE.out.2).mono ?_
  rintro e W2 ⟨v2, rfl, hr2, hb2⟩
  obtain ⟨ot, ct, rfl⟩ := row_slice hr2
  have ST2 := Lib.hid (row_seen hr2 (by omega))
  have SS2 := Lib.hid (seen_below SS1.out hb2)
  have SF2 := Lib.hid (seen_below SF1.out hb2)
  have SG2 := Lib.hid (seen_below SG1.out hb2)
  have SH2 := Lib.hid (seen_below SH1.out hb2)
  have HB2 := Lib.hid (HB1.out.trans (hb2.mono HB1.out.size))
  clear hr2 hb2 HB1 SS1 SF1 SG1 SH1
  go_wp2_with fail
  refine (specOwn_any SG2.out).mono ?_
  rintro e W3 ⟨v3, rfl, hr3, hb3⟩
  obtain ⟨oa, ca, rfl⟩ := row_slice hr3
  have RA3 := Lib.hid (intRow_lower hr3 HB2.out.size)
  have RA3o := Lib.hid hr3
  have ST3 := Lib.hid (seen_below ST2.out hb3)
  have SS3 := Lib.hid (seen_below SS2.out hb3)
  have SF3 := Lib.hid (seen_below SF2.out hb3)
  have SG3 := Lib.hid (seen_below SG2.out hb3)
  have SH3 := Lib.hid (seen_below SH2.out hb3)
  have HB3 := Lib.hid (HB2.out.trans (hb3.mono HB2.out.size))
  clear hr3 hb3 HB2 ST2 SS2 SF2 SG2 SH2
  go_wp2_with fail
  refine (specOwn_any SH3.out).mono ?_
  rintro e W4 ⟨v4, rfl, hr4, hb4⟩
  obtain ⟨ob, cb, rfl⟩ := row_slice hr4
  have RB4 := Lib.hid (intRow_lower hr4 HB3.out.size)
  have RA4 := Lib.hid (row_below RA3.out hb4 (Nat.le_refl _))
  have AP4 := Lib.hid (apart8 RA3o.out hr4)
  have ST4 := Lib.hid (seen_below ST3.out hb4)
  have SS4 := Lib.hid (seen_below SS3.out hb4)
  have SF4 := Lib.hid (seen_below SF3.out hb4)
  have SG4 := Lib.hid (seen_below SG3.out hb4)
  have SH4 := Lib.hid (seen_below SH3.out hb4)
  have HB4 := Lib.hid (HB3.out.trans (hb4.mono HB3.out.size))
  clear hr4 hb4 HB3 ST3 SS3 SF3 SG3 SH3 RA3 RA3o
  have HP1 := Lib.hid (show p = p ^ (0 + 1) by simp [Int.pow_succ])
  go_wp2_with fail
  go_loopw [14, 15, 16] (fun va vb vq wr => ∃ (k : Nat) (oa : Option Addr) (ca : Nat) (ob : Option Addr) (cb : Nat) (A B : List Int) (q : Int), va = .slice oa A.length ca ∧ vb = .slice ob B.length cb ∧ vq = .int .i64 q ∧ q = p ^ (k + 1) ∧ k + 1 ≤ N ∧ lifN p M f g h k = (A, B) ∧ IntRow w.heap.size wr (.slice oa A.length ca) A ∧ IntRow w.heap.size wr (.slice ob B.length cb) B ∧ ((Value.slice oa A.length ca).ownBlock = none ∨ (Value.slice oa A.length ca).ownBlock ≠ (Value.slice ob B.length cb).ownBlock) ∧ Seen wr os (invL p h g).length cs (invL p h g) ∧ Seen wr ot (invL p g h).length ct (invL p g h) ∧ Seen wr o1 f.length c1 f ∧ Seen wr o2 g.length c2 g ∧ Seen wr o3 h.length c3 h ∧ Below w.heap.size w wr) (fun _ _ vq _ => (M - intOf vq).toNat)
  case atStart => exact ⟨0, oa, ca, ob, cb, g, h, p, rfl, rfl, rfl, HP1.out, HNN.out, rfl, RA4.out, RB4.out, AP4.out, SS4.out, ST4.out, SF4.out, SG4.out, SH4.out, HB4.out⟩
  case round =>
    obtain ⟨k, oa, ca, ob, cb, A, B, q, rfl, rfl, rfl, hq, hkN, hAB, ra, rb, ap, ss, st, sf, sg, sh, hb⟩ := hrel
    have hI : LifI M g h A B := by have h5 := HALL.out k; rw [hAB] at h5; exact h5
    have la := hI.la
    have lb := hI.lb
    have HII := Lib.hid hI
    have RA := Lib.hid ra
    have RB := Lib.hid rb
    have AP := Lib.hid ap
    have SS := Lib.hid ss
    have ST := Lib.hid st
    have SF := Lib.hid sf
    have SG := Lib.hid sg
    have SH := Lib.hid sh
    have HB := Lib.hid hb
    have HQ := Lib.hid hq
    have HAB := Lib.hid hAB
    have hq1 : 1 ≤ q := by rw [hq]; exact pow_ge1 p2 _
    clear ra rb ap ss st sf sg sh hb hI hAB RA4 RB4 AP4 SS4 ST4 SF4 SG4 SH4 HB4
    by_cases hlt : k + 1 < N
    · have hqM : q < M := by rw [hq, HPW.out]; exact (pow_reach p2).2 hlt
      have hqp : q * p = p ^ (k + 2) := by rw [hq, Int.pow_succ p (k + 1)]
      have hqpM : q * p ≤ M := by rw [hqp, HPW.out]; exact pow_le p2 (by omega)
      have hqq : q < q * p := by rw [hqp, hq]; exact pow_more p2 _
      have HQP := Lib.hid hqp
      have HSUC := Lib.hid (lifN_succ p M f g h k)
      have la9 : A.length ≤ 9 := by omega
      have lb9 : B.length ≤ 9 := by omega
      have HLK := Lib.hid (lack_len (p := p) (q := q) (by omega) m2 HMON.out HLEN.out HII.out)
      have hpab := prodL_le M A B
      obtain ⟨D, hD⟩ : ∃ D, redL M (addL f (prodL M A B) (-1)) = D := ⟨_, rfl⟩
      have HDM := Lib.hid (show ModP M D by rw [← hD]; exact redL_mod (by omega) _)
      have HLQ := Lib.hid (lack_eq p q M f A B D hD)
      have HMAB := Lib.hid (redL_mod (p := M) (by omega) (mulL A B))
      have HDD := Lib.hid hD
      rw [hD] at HLK
      have hDl : D.length ≤ 20 := by have := HLK.out.1; omega
      have HLT := Lib.hid hlt
      clear hq hqp hlt hD la lb
      go_wp2_with fail
      refine (l12Mul_any M m2 m9 (row_seen RA.out (by omega)) (row_seen RB.out (by omega)) (mod_res9 m9 HII.out.ma) (mod_res9 m9 HII.out.mb) la9 lb9).mono ?_
      rintro e V1 ⟨v1, rfl, hr1, hb1⟩
      obtain ⟨o4, c4, rfl⟩ := row_slice hr1
      have S1 := Lib.hid (row_seen hr1 (by omega))
      have RA1 := Lib.hid (row_below RA.out hb1 (Nat.le_refl _))
      have RB1 := Lib.hid (row_below RB.out hb1 (Nat.le_refl _))
      have SS1 := Lib.hid (seen_below SS.out hb1)
      have ST1 := Lib.hid (seen_below ST.out hb1)
      have SF1 := Lib.hid (seen_below SF.out hb1)
      have SG1 := Lib.hid (seen_below SG.out hb1)
      have SH1 := Lib.hid (seen_below SH.out hb1)
      have HB1 := Lib.hid (HB.out.trans (hb1.mono HB.out.size))
      clear hr1 hb1 RA RB SS ST SF SG SH HB hpab
      go_wp2_with fail
      refine (l12Add_any (-1) M m2 m9 SF1.out S1.out HMF.out.rng (mod_neg9 m9 HMAB.out)).mono ?_
      rw [show redL M (addL f (prodL M A B) (-1)) = D from HDD.out]
      rintro e V2 ⟨v2, rfl, hr2, hb2⟩
      obtain ⟨o5, c5, rfl⟩ := row_slice hr2
      have SD2 := Lib.hid (row_seen hr2 (by omega))
      have RA2 := Lib.hid (row_below RA1.out hb2 (Nat.le_refl _))
      have RB2 := Lib.hid (row_below RB1.out hb2 (Nat.le_refl _))
      have SS2 := Lib.hid (seen_below SS1.out hb2)
      have ST2 := Lib.hid (seen_below ST1.out hb2)
      have SF2 := Lib.hid (seen_below SF1.out hb2)
      have SG2 := Lib.hid (seen_below SG1.out hb2)
      have SH2 := Lib.hid (seen_below SH1.out hb2)
      have HB2 := Lib.hid (HB1.out.trans (hb2.mono HB1.out.size))
      clear hr2 hb2 RA1 RB1 SS1 ST1 SF1 SG1 SH1 HB1 S1
      have hrc := intRow_made V2
      have hbc := below_a8 V2 (.cells #[] 2)
      have RC := Lib.hid hrc
      have HBC := Lib.hid hbc
      clear hrc hbc
      go_wp2_with fail
      go_loopw [18, 19] (fun v d wr => ∃ j : Nat, d = .int .i64 j ∧ j ≤ D.length ∧ IntRow V2.heap.size wr v (tabL j fun i => D.getD i 0 / q % p) ∧ Below V2.heap.size V2 wr) (fun _ d _ => D.length - (intOf d).toNat)
      case atStart => exact ⟨0, rfl, Nat.zero_le _, RC.out, HBC.out⟩
      case round =>
        obtain ⟨j, rfl, hj, hrow, hbj⟩ := hrel
        have bl : (tabL j fun i => D.getD i 0 / q % p).length ≤ 1000000 := by rw [tabL_length]; omega
        have bs := hbj.size
        have HW := Lib.hid hrow
        have HBJ := Lib.hid hbj
        clear hrow hbj RC HBC
        by_cases hltj : j < D.length
        · obtain ⟨_, _, _, _, gd, hod, hcd⟩ := SD2.out
          obtain ⟨rfl, hgd⟩ := hod (by omega)
          have a2 := hcd j hltj
          rw [← HBJ.out.cell (p := ⟨gd, j, none⟩) hgd] at a2
          have HSJ := Lib.hid (show (tabL (j + 1) fun i => D.getD i 0 / q % p) = (tabL j fun i => D.getD i 0 / q % p) ++ [D.getD j 0 / q % p] from tabL_succ _ _)
          obtain ⟨z0, z1⟩ := HDM.out.rng j
          generalize D.getD j 0 = z at *
          generalize (tabL j fun i => D.getD i 0 / q % p) = acc at *
          obtain ⟨y, hy⟩ : ∃ y, z / q = y := ⟨_, rfl⟩
          obtain ⟨x, hx⟩ : ∃ x, y % p = x := ⟨_, rfl⟩
          have ty : z.tdiv q = y := by rw [Int.tdiv_eq_ediv_of_nonneg z0, hy]
          have hy0 : 0 ≤ y := by rw [← hy]; exact Int.ediv_nonneg z0 (by omega)
          have hy1 : y ≤ z := by rw [← hy]; exact Int.ediv_le_self _ z0
          have tx : y.tmod p = x := by rw [tmod_nonneg hy0, hx]
          have hx0 : 0 ≤ x ∧ x < p := by rw [← hx]; exact ⟨Int.emod_nonneg _ (by omega), Int.emod_lt_of_pos _ (by omega)⟩
          have wy : IntKind.i64.wrap y = y := IntWalk.i64_in _ (by omega)
          have wx : IntKind.i64.wrap x = x := IntWalk.i64_in _ (by omega)
          have hqz : (q == 0) = false := by simp; omega
          have hpz : (p == 0) = false := by simp; omega
          rw [hy, hx] at HSJ
          have hjD : (j : Int) < (D.length : Int) := by omega
          clear hcd hgd hy hx hy0 hy1 hx0 z0 z1
          go_wp2_with (at_builtin; refine wpList_append_own _ rfl (.tmp 62) (.tmp 71) 26 rfl V2.heap.size 2 i0 (.int .i64 0) 1 8 Try.underlying26 HI0.out HZ0.out HZ1.out HZ2.out rfl (by decide) _ _ _ rfl (HW.out.alloc _) ⟨wr.heap.size, 0, none⟩ 1 1 [.int .i64 x] rfl rfl ?c1 ?c2 ?c3 ?c4 ?c5 ?_)
          try (case c1 => first | exact news_one _ _ _ | simp [Addr.add])
          try (case c2 => first | exact one_one _ | rfl)
          case c3 => unfold maxLen; omega
          case c4 => omega
          case c5 => first | omega | (simp; omega)
          intro v' w1 hown hgrow _
          have HO2 := Lib.hid (intRow_snoc hown)
          have HG2 := Lib.hid (below_appendI HBJ.out HW.out hgrow)
          clear hown hgrow
          go_wp2_with fail
          go_roundw
          case rel => exact ⟨j + 1, by first | rfl | go_num, by omega, by rw [HSJ.out]; exact HO2.out, HG2.out⟩
          case measure => simp [intOf]; omega
        · have hjD : j = D.length := by omega
          have hjn : ¬ (j : Int) < (D.length : Int) := by omega
          have HT := Lib.hid (show trimL (tabL j fun i => D.getD i 0 / q % p) = lackL p q M f A B by rw [hjD]; exact HLQ.out.symm)
          obtain ⟨oc, cc, rfl, HSC⟩ := seen_row HW.out (by omega)
          have SC := Lib.hid HSC
          have RA3 := Lib.hid (row_below RA2.out HBJ.out (Nat.le_refl _))
          have RB3 := Lib.hid (row_below RB2.out HBJ.out (Nat.le_refl _))
          have SS3 := Lib.hid (seen_below SS2.out HBJ.out)
          have ST3 := Lib.hid (seen_below ST2.out HBJ.out)
          have SF3 := Lib.hid (seen_below SF2.out HBJ.out)
          have SG3 := Lib.hid (seen_below SG2.out HBJ.out)
          have SH3 := Lib.hid (seen_below SH2.out HBJ.out)
          have HB3 := Lib.hid (HB2.out.trans (HBJ.out.mono HB2.out.size))
          obtain ⟨C, hC⟩ : ∃ C, lackL p q M f A B = C := ⟨_, rfl⟩
          have hLC := HLK.out.2
          rw [hC] at hLC HT
          have lc9 : C.length ≤ 9 := by have := hLC.1; have := HLEN.out; have := OK.out.lf; omega
          have HMC := Lib.hid hLC.2
          have HPC := Lib.hid (mod_poly p97 lc9 hLC.2)
          have HSTEP := Lib.hid (show lifN p M f g h (k + 1) = (redL M (addL A (remP p (prodL p C (invL p h g)) g) q), redL M (addL B (remP p (prodL p C (invL p g h)) h) q)) by
            rw [HSUC.out, HAB.out, ← HQ.out]
            unfold stepF lifX
            rw [hC])
          have HLE := Lib.hid (show (redL M (addL A (remP p (prodL p C (invL p h g)) g) q)).length = A.length ∧ (redL M (addL B (remP p (prodL p C (invL p g h)) h) q)).length = B.length by
            have h5 := HALL.out (k + 1)
            rw [HSTEP.out] at h5
            exact ⟨h5.la.trans HII.out.la.symm, h5.lb.trans HII.out.lb.symm⟩)
          generalize (tabL j fun i => D.getD i 0 / q % p) = acc at *
          have hdx := divP_is p2 p97 pp (redL_mod (p := p) (by omega) (mulL C (invL p h g))) HMG.out (fun e => by rw [e] at lg2; simp at lg2)
          have hdy := divP_is p2 p97 pp (redL_mod (p := p) (by omega) (mulL C (invL p g h))) HMH.out (fun e => by rw [e] at lh2; simp at lh2)
          have HDX := Lib.hid hdx.mr
          have HDY := Lib.hid hdy.mr
          have hxl := hdx.deg
          have hyl := hdy.deg
          have HMX := Lib.hid (redL_mod (p := p) (by omega) (mulL C (invL p h g)))
          have HMY := Lib.hid (redL_mod (p := p) (by omega) (mulL C (invL p g h)))
          have lpx := prodL_le p C (invL p h g)
          have lpy := prodL_le p C (invL p g h)
          clear hC hLC hjD hdx hdy HSC SD2 RA2 RB2 SS2 ST2 SF2 SG2 SH2 HB2 HBJ HW hltj hj
          go_wp2_with fail
          refine (specTrim_any SC.out).mono ?_
          rw [HT.out]
          rintro e V3 ⟨v3, rfl, hr3, hb3⟩
          obtain ⟨o6, c6, rfl⟩ := row_slice hr3
          have SC4 := Lib.hid (row_seen hr3 (by omega))
          have RA4 := Lib.hid (row_below RA3.out hb3 (Nat.le_refl _))
          have RB4 := Lib.hid (row_below RB3.out hb3 (Nat.le_refl _))
          have SS4 := Lib.hid (seen_below SS3.out hb3)
          have ST4 := Lib.hid (seen_below ST3.out hb3)
          have SF4 := Lib.hid (seen_below SF3.out hb3)
          have SG4 := Lib.hid (seen_below SG3.out hb3)
          have SH4 := Lib.hid (seen_below SH3.out hb3)
          have HB4 := Lib.hid (HB3.out.trans (hb3.mono HB3.out.size))
          clear hr3 hb3 SC RA3 RB3 SS3 ST3 SF3 SG3 SH3 HB3
          go_wp2_with fail
          refine (l08Mul_any p p2 p97 SC4.out SS4.out HPC.out HPS.out).mono ?_
          rintro e V4 ⟨v4, rfl, hr4, hb4⟩
          obtain ⟨o7, c7, rfl⟩ := row_slice hr4
          have SP5 := Lib.hid (row_seen hr4 (by omega))
          have SC5 := Lib.hid (seen_below SC4.out hb4)
          have RA5 := Lib.hid (row_below RA4.out hb4 (Nat.le_refl _))
          have RB5 := Lib.hid (row_below RB4.out hb4 (Nat.le_refl _))
          have SS5 := Lib.hid (seen_below SS4.out hb4)
          have ST5 := Lib.hid (seen_below ST4.out hb4)
          have SF5 := Lib.hid (seen_below SF4.out hb4)
          have SG5 := Lib.hid (seen_below SG4.out hb4)
          have SH5 := Lib.hid (seen_below SH4.out hb4)
          have HB5 := Lib.hid (HB4.out.trans (hb4.mono HB4.out.size))
          clear hr4 hb4 SC4 RA4 RB4 SS4 ST4 SF4 SG4 SH4 HB4
          go_wp2_with fail
          refine (l08Rest_any p hs SP5.out SG5.out HMX.out HMG.out (by omega) (by omega) (by omega)).mono ?_
          rintro e V5 ⟨v5, rfl, hr5, hb5⟩
          obtain ⟨ox, cx, rfl⟩ := row_slice hr5
          have SX6 := Lib.hid (row_seen hr5 (by show (remP p (redL p (mulL C (invL p h g))) g).length ≤ _; omega))
          have SC6 := Lib.hid (seen_below SC5.out hb5)
          have RA6 := Lib.hid (row_below RA5.out hb5 (Nat.le_refl _))
          have RB6 := Lib.hid (row_below RB5.out hb5 (Nat.le_refl _))
          have SS6 := Lib.hid (seen_below SS5.out hb5)
          have ST6 := Lib.hid (seen_below ST5.out hb5)
          have SF6 := Lib.hid (seen_below SF5.out hb5)
          have SG6 := Lib.hid (seen_below SG5.out hb5)
          have SH6 := Lib.hid (seen_below SH5.out hb5)
          have HB6 := Lib.hid (HB5.out.trans (hb5.mono HB5.out.size))
          clear hr5 hb5 SC5 RA5 RB5 SS5 ST5 SF5 SG5 SH5 HB5 SP5
          go_wp2_with fail
          refine (l08Mul_any p p2 p97 SC6.out ST6.out HPC.out HPT.out).mono ?_
          rintro e V6 ⟨v6, rfl, hr6, hb6⟩
          obtain ⟨o8, c8, rfl⟩ := row_slice hr6
          have SP7 := Lib.hid (row_seen hr6 (by omega))
          have SX7 := Lib.hid (seen_below SX6.out hb6)
          have RA7 := Lib.hid (row_below RA6.out hb6 (Nat.le_refl _))
          have RB7 := Lib.hid (row_below RB6.out hb6 (Nat.le_refl _))
          have SS7 := Lib.hid (seen_below SS6.out hb6)
          have ST7 := Lib.hid (seen_below ST6.out hb6)
          have SF7 := Lib.hid (seen_below SF6.out hb6)
          have SG7 := Lib.hid (seen_below SG6.out hb6)
          have SH7 := Lib.hid (seen_below SH6.out hb6)
          have HB7 := Lib.hid (HB6.out.trans (hb6.mono HB6.out.size))
          clear hr6 hb6 SC6 RA6 RB6 SS6 ST6 SF6 SG6 SH6 HB6 SX6
          go_wp2_with fail
          refine (l08Rest_any p hs SP7.out SH7.out HMY.out HMH.out (by omega) (by omega) (by omega)).mono ?_
          rintro e V7 ⟨v7, rfl, hr7, hb7⟩
          obtain ⟨oy, cy, rfl⟩ := row_slice hr7
          have SY8 := Lib.hid (row_seen hr7 (by show (remP p (redL p (mulL C (invL p g h))) h).length ≤ _; omega))
          have SX8 := Lib.hid (seen_below SX7.out hb7)
          have RA8 := Lib.hid (row_below RA7.out hb7 (Nat.le_refl _))
          have RB8 := Lib.hid (row_below RB7.out hb7 (Nat.le_refl _))
          have SS8 := Lib.hid (seen_below SS7.out hb7)
          have ST8 := Lib.hid (seen_below ST7.out hb7)
          have SF8 := Lib.hid (seen_below SF7.out hb7)
          have SG8 := Lib.hid (seen_below SG7.out hb7)
          have SH8 := Lib.hid (seen_below SH7.out hb7)
          have HB8 := Lib.hid (HB7.out.trans (hb7.mono HB7.out.size))
          clear hr7 hb7 RA7 RB7 SS7 ST7 SF7 SG7 SH7 HB7 SX7 SP7
          go_wp2_with fail
          refine (l12Add_any q M m2 m9 (row_seen RA8.out (by omega)) SX8.out HII.out.ma.rng (mod_mul9 p97 (by omega) (by omega) HDX.out)).mono ?_
          rintro e V8 ⟨v8, rfl, hr8, hb8⟩
          obtain ⟨oa', ca', rfl⟩ := row_slice hr8
          have RA9 := Lib.hid (intRow_lower hr8 HB8.out.size)
          have RA9o := Lib.hid hr8
          have SY9 := Lib.hid (seen_below SY8.out hb8)
          have RB9 := Lib.hid (row_below RB8.out hb8 (Nat.le_refl _))
          have SS9 := Lib.hid (seen_below SS8.out hb8)
          have ST9 := Lib.hid (seen_below ST8.out hb8)
          have SF9 := Lib.hid (seen_below SF8.out hb8)
          have SG9 := Lib.hid (seen_below SG8.out hb8)
          have SH9 := Lib.hid (seen_below SH8.out hb8)
          have HB9 := Lib.hid (HB8.out.trans (hb8.mono HB8.out.size))
          clear hr8 hb8 RA8 RB8 SS8 ST8 SF8 SG8 SH8 HB8 SX8 SY8
          go_wp2_with fail
          refine (l12Add_any q M m2 m9 (row_seen RB9.out (by omega)) SY9.out HII.out.mb.rng (mod_mul9 p97 (by omega) (by omega) HDY.out)).mono ?_
          rintro e V9 ⟨v9, rfl, hr9, hb9⟩
          obtain ⟨ob', cb', rfl⟩ := row_slice hr9
          have RBX := Lib.hid (intRow_lower hr9 HB9.out.size)
          have RAX := Lib.hid (row_below RA9.out hb9 (Nat.le_refl _))
          have APX := Lib.hid (apart8 RA9o.out hr9)
          have SSX := Lib.hid (seen_below SS9.out hb9)
          have STX := Lib.hid (seen_below ST9.out hb9)
          have SFX := Lib.hid (seen_below SF9.out hb9)
          have SGX := Lib.hid (seen_below SG9.out hb9)
          have SHX := Lib.hid (seen_below SH9.out hb9)
          have HBX := Lib.hid (HB9.out.trans (hb9.mono HB9.out.size))
          clear hr9 hb9 RA9 RA9o RB9 SS9 ST9 SF9 SG9 SH9 HB9 SY9
          have wqp : IntKind.i64.wrap (q * p) = q * p := IntWalk.i64_in _ (by omega)
          go_wp2_with fail
          exact ⟨⟨k + 1, oa', ca', ob', cb', _, _, q * p, rfl, rfl, rfl, HQP.out, by have := HLT.out; omega, HSTEP.out, RAX.out, RBX.out, APX.out, SSX.out, STX.out, SFX.out, SGX.out, SHX.out, HBX.out⟩, by simp only [intOf]; omega⟩
    · have hqM : ¬ q < M := by rw [hq, HPW.out]; intro hc; exact hlt ((pow_reach p2).1 hc)
      have hkn : N - 1 = k := by omega
      have HE := Lib.hid (show liftA p n f g h = A ∧ liftB p n f g h = B by rw [HL2.out.1, HL2.out.2, hkn, HAB.out]; exact ⟨rfl, rfl⟩)
      clear hq hkn hlt la lb
      go_wp2_with fail
      go_ret2
      rw [HE.out.1, HE.out.2]
      exact ⟨_, _, rfl, RA.out, RB.out, HB.out, AP.out⟩
end Go.Proofs.Ytbjkcoajabcibaa
