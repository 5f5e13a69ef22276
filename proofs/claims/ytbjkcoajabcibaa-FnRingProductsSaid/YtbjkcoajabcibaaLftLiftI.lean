/- Contracts of the walk: chapter 12 in impl: the step is made and applied until the modulus is reached. -/
import Derived.Test.YtbjkcoajabcibaaLftStep
import Derived.Test.YtbjkcoajabcibaaLftPairI
namespace Go.Proofs.Ytbjkcoajabcibaa
open Go.RowKit
set_option linter.unusedVariables false
set_option linter.unusedSimpArgs false
set_option maxRecDepth 20000
/-- the step as a value -/
def StepPost (p n : Int) (f g h : List Int) (vf vg vh : Value) (w : World) (e : Ending) (w' : World) : Prop :=
  ∃ (b0 b1 bf bi b2 b3 : Nat) (os : Option Addr) (cs : Nat), e = .returned (.func (.func 167) #[] #[.pointer (some ⟨b0, 0, none⟩), .pointer (some ⟨b1, 0, none⟩), .pointer (some ⟨bf, 0, none⟩), .pointer (some ⟨bi, 0, none⟩), .pointer (some ⟨b2, 0, none⟩), .pointer (some ⟨b3, 0, none⟩)]) ∧
    StepC w' p n b0 b1 bf bi b2 b3 vf vg vh (.slice os (invL p h g).length cs) ∧ Seen w' os (invL p h g).length cs (invL p h g) ∧ Below w.heap.size w w'
theorem four_boxes (w : World) (a b u1 u2 u3 : Value) (T T1 : TypeId) :
    Below w.heap.size w ((((w.alloc (.cells #[a, b] T)).alloc (.cells #[u1] T1)).alloc (.cells #[u2] T1)).alloc (.cells #[u3] T1)) ∧
    ((((w.alloc (.cells #[a, b] T)).alloc (.cells #[u1] T1)).alloc (.cells #[u2] T1)).alloc (.cells #[u3] T1)).cell? ⟨w.heap.size, 0, none⟩ = some a ∧
    ((((w.alloc (.cells #[a, b] T)).alloc (.cells #[u1] T1)).alloc (.cells #[u2] T1)).alloc (.cells #[u3] T1)).cell? ⟨w.heap.size, 1, none⟩ = some b ∧
    ((((w.alloc (.cells #[a, b] T)).alloc (.cells #[u1] T1)).alloc (.cells #[u2] T1)).alloc (.cells #[u3] T1)).cell? ⟨w.heap.size + 1, 0, none⟩ = some u1 ∧
    ((((w.alloc (.cells #[a, b] T)).alloc (.cells #[u1] T1)).alloc (.cells #[u2] T1)).alloc (.cells #[u3] T1)).cell? ⟨w.heap.size + 1 + 1, 0, none⟩ = some u2 ∧
    ((((w.alloc (.cells #[a, b] T)).alloc (.cells #[u1] T1)).alloc (.cells #[u2] T1)).alloc (.cells #[u3] T1)).cell? ⟨w.heap.size + 1 + 1 + 1, 0, none⟩ = some u3 := by
  have h1 := below_a8 w (.cells #[a, b] T)
  obtain ⟨W1, hW1⟩ : ∃ W1, w.alloc (.cells #[a, b] T) = W1 := ⟨_, rfl⟩
  have s1 : W1.heap.size = w.heap.size + 1 := by rw [← hW1]; simp
  have c0 : W1.cell? ⟨w.heap.size, 0, none⟩ = some a := by rw [← hW1]; exact World.cell?_alloc_new _ _ _ _ ▸ rfl
  have c1 : W1.cell? ⟨w.heap.size, 1, none⟩ = some b := by rw [← hW1]; exact World.cell?_alloc_new _ _ _ _ ▸ rfl
  rw [hW1] at h1 ⊢
  have h2 := below_a8 W1 (.cells #[u1] T1)
  obtain ⟨W2, hW2⟩ : ∃ W2, W1.alloc (.cells #[u1] T1) = W2 := ⟨_, rfl⟩
  have s2 : W2.heap.size = w.heap.size + 1 + 1 := by rw [← hW2]; simp [s1]
  have c2 : W2.cell? ⟨w.heap.size + 1, 0, none⟩ = some u1 := by rw [← hW2, ← s1]; exact World.cell?_alloc_new _ _ _ _ ▸ rfl
  rw [hW2] at h2 ⊢
  have h3 := below_a8 W2 (.cells #[u2] T1)
  obtain ⟨W3, hW3⟩ : ∃ W3, W2.alloc (.cells #[u2] T1) = W3 := ⟨_, rfl⟩
  have s3 : W3.heap.size = w.heap.size + 1 + 1 + 1 := by rw [← hW3]; simp [s2]
  have c3 : W3.cell? ⟨w.heap.size + 1 + 1, 0, none⟩ = some u2 := by rw [← hW3, ← s2]; exact World.cell?_alloc_new _ _ _ _ ▸ rfl
  rw [hW3] at h3 ⊢
  have h4 := below_a8 W3 (.cells #[u3] T1)
  obtain ⟨W4, hW4⟩ : ∃ W4, W3.alloc (.cells #[u3] T1) = W4 := ⟨_, rfl⟩
  have c4 : W4.cell? ⟨w.heap.size + 1 + 1 + 1, 0, none⟩ = some u3 := by rw [← hW4, ← s3]; exact World.cell?_alloc_new _ _ _ _ ▸ rfl
  rw [hW4] at h4 ⊢
  have k2 := h2.trans (h3.mono (by omega))
  have k3 := k2.trans (h4.mono (by omega))
  have k4 := h3.trans (h4.mono (by omega))
  exact ⟨h1.trans (k3.mono (by omega)), cell_below c0 k3, cell_below c1 k3, cell_below c2 k4, cell_below c3 h4, c4⟩
set_option maxHeartbeats 4000000 in
theorem stepFor_any (p n : Int) {o1 o2 o3 : Option Addr} {c1 c2 c3 : Nat} {f g h : List Int} {w : World} (sf : Seen w o1 f.length c1 f) (sg : Seen w o2 g.length c2 g) (sh : Seen w o3 h.length c3 h) (ok : LiftOk p n f g h) :
    Calls Try.prog 147 #[.agg #[.int .i64 p, .int .i64 n], .slice o1 f.length c1, .slice o2 g.length c2, .slice o3 h.length c3] w (StepPost p n f g h (.slice o1 f.length c1) (.slice o2 g.length c2) (.slice o3 h.length c3) w) := by
  have hs := (ringM_in ok.ring).1
  obtain ⟨_, lg9, lh9⟩ := liftOk_len ok
  have hl9 : (invL p h g).length ≤ 1100000 := by have := (liftOk_inv ok).s.deg; omega
  have HINV := Lib.hid fun (W : World) (hw : Below w.heap.size w W) => inverseModulo_any p hs (seen_below sh hw) (seen_below sg hw) ok.mh ok.mg lh9 lg9 ok.tw.lg ok.tw.one
  have hx := four_boxes w (.int .i64 p) (.int .i64 n) (.slice o1 f.length c1) (.slice o2 g.length c2) (.slice o3 h.length c3) 25 26
  have HX := Lib.hid hx
  obtain ⟨hb, k0, k1, k2, k3, k4⟩ := hx
  have hmf : ∀ (fn : Fn) (first cap : Array Value) (w : World), (Instr.makeFunc fn first cap).run Try.prog w = .ok (.func fn first cap) w := fun _ _ _ _ => rfl
  clear sf sg sh ok hb
  go_enter Try.func147, Try.ntmps147
  go_wp2_with fail
  generalize ((((w.alloc (.cells #[.int .i64 p, .int .i64 n] 25)).alloc (.cells #[.slice o1 f.length c1] 26)).alloc (.cells #[.slice o2 g.length c2] 26)).alloc (.cells #[.slice o3 h.length c3] 26)) = W4 at *
  refine (ringBy_any p W4).mono ?_
  rintro e W5 ⟨rfl, hb5⟩
  have hb6 := hb5.trans ((below_a8 W5 (.cells #[.int .i64 p, .int .i64 1] 25)).mono hb5.size)
  have q0 := cell_below k0 hb6
  have q1 := cell_below k1 hb6
  have q2 := cell_below k2 hb6
  have q3 := cell_below k3 hb6
  have q4 := cell_below k4 hb6
  have q5 : (W5.alloc (.cells #[.int .i64 p, .int .i64 1] 25)).cell? ⟨W5.heap.size, 0, none⟩ = some (.int .i64 p) := World.cell?_alloc_new _ _ _ _ ▸ rfl
  have q6 : (W5.alloc (.cells #[.int .i64 p, .int .i64 1] 25)).cell? ⟨W5.heap.size, 1, none⟩ = some (.int .i64 1) := World.cell?_alloc_new _ _ _ _ ▸ rfl
  have HB6 := Lib.hid (HX.out.1.trans (hb6.mono HX.out.1.size))
  clear k0 k1 k2 k3 k4 hb5 hb6
  go_wp2_with fail
  have HQ := Lib.hid (And.intro q0 (And.intro q1 (And.intro q2 (And.intro q3 (And.intro q4 (And.intro q5 q6))))))
  obtain ⟨bf, hbf⟩ : ∃ b, W5.heap.size = b := ⟨_, rfl⟩
  rw [hbf] at HQ ⊢
  clear q0 q1 q2 q3 q4 q5 q6 HX hbf
  generalize W5.alloc (.cells #[.int .i64 p, .int .i64 1] 25) = W6 at *
  refine (HINV.out _ HB6.out).mono ?_
  rintro e W7 ⟨v7, rfl, hr7, hb7⟩
  obtain ⟨os, cs, rfl⟩ := row_slice hr7
  have hb8 := below_a8 W7 (.cells #[.slice os (invL p h g).length cs] 26)
  have hb9 := hb7.trans (hb8.mono hb7.size)
  have SS := Lib.hid (seen_below (row_seen hr7 hl9) hb8)
  have q7 : (W7.alloc (.cells #[.slice os (invL p h g).length cs] 26)).cell? ⟨W7.heap.size, 0, none⟩ = some (.slice os (invL p h g).length cs) := World.cell?_alloc_new _ _ _ _ ▸ rfl
  obtain ⟨q0, q1, q2, q3, q4, q5, q6⟩ := HQ.out
  have HC := Lib.hid (show StepC (W7.alloc (.cells #[.slice os (invL p h g).length cs] 26)) p n w.heap.size (w.heap.size + 1) bf W7.heap.size (w.heap.size + 1 + 1) (w.heap.size + 1 + 1 + 1) (.slice o1 f.length c1) (.slice o2 g.length c2) (.slice o3 h.length c3) (.slice os (invL p h g).length cs) from
    ⟨cell_below q0 hb9, cell_below q1 hb9, cell_below q2 hb9, cell_below q5 hb9, cell_below q6 hb9, q7, cell_below q3 hb9, cell_below q4 hb9⟩)
  have HB9 := Lib.hid (HB6.out.trans (hb9.mono HB6.out.size))
  clear q0 q1 q2 q3 q4 q5 q6 q7 HQ hb7 hb8 hb9 hr7 HINV
  go_wp2_with fail
  go_ret
  exact ⟨_, _, _, _, _, _, os, cs, rfl, HC.out, SS.out, HB9.out⟩
set_option maxHeartbeats 4000000 in
theorem untilModulus_any (p n : Int) {o1 o2 o3 os : Option Addr} {c1 c2 c3 cs : Nat} {f g h : List Int} {b0 b1 bf bi b2 b3 : Nat} {w : World} (sf : Seen w o1 f.length c1 f) (sg : Seen w o2 g.length c2 g) (sh : Seen w o3 h.length c3 h)
    (ss : Seen w os (invL p h g).length cs (invL p h g)) (ok : LiftOk p n f g h) (hC : StepC w p n b0 b1 bf bi b2 b3 (.slice o1 f.length c1) (.slice o2 g.length c2) (.slice o3 h.length c3) (.slice os (invL p h g).length cs)) :
    Calls Try.prog 146 #[.agg #[.int .i64 p, .int .i64 n], .func (.func 167) #[] #[.pointer (some ⟨b0, 0, none⟩), .pointer (some ⟨b1, 0, none⟩), .pointer (some ⟨bf, 0, none⟩), .pointer (some ⟨bi, 0, none⟩), .pointer (some ⟨b2, 0, none⟩), .pointer (some ⟨b3, 0, none⟩)], .slice o2 g.length c2, .slice o3 h.length c3] w (Own2Post (liftA p n f g h) (liftB p n f g h) w) := by
  obtain ⟨p2, p97, hn1, hn2, m2, m9, hpm⟩ := ringM_bd ok.ring
  obtain ⟨hs, _, _, hpw⟩ := ringM_in ok.ring
  have OK := Lib.hid ok
  have HALL := Lib.hid (liftOk_all ok)
  have lg9 := (liftOk_len ok).2.1
  have lh9 := (liftOk_len ok).2.2
  have HL2 := Lib.hid (show liftA p n f g h = (lifN p (ringM p n) f g h (n.toNat - 1)).1 ∧ liftB p n f g h = (lifN p (ringM p n) f g h (n.toNat - 1)).2 from ⟨rfl, rfl⟩)
  have HNN := Lib.hid (show 1 ≤ n.toNat by omega)
  obtain ⟨M, hM⟩ : ∃ M, ringM p n = M := ⟨_, rfl⟩
  have HMM := Lib.hid hM
  rw [hM] at m2 m9 hpm hpw HALL HL2
  obtain ⟨N, hN⟩ : ∃ N, n.toNat = N := ⟨_, rfl⟩
  rw [hN] at hpw HL2 HNN
  have HPW := Lib.hid hpw
  have hba := below_a8 w (.cells #[.int .i64 p, .int .i64 n] 25)
  have hca : (w.alloc (.cells #[.int .i64 p, .int .i64 n] 25)).cell? ⟨w.heap.size, 0, none⟩ = some (.int .i64 p) := World.cell?_alloc_new _ _ _ _ ▸ rfl
  have hcb : (w.alloc (.cells #[.int .i64 p, .int .i64 n] 25)).cell? ⟨w.heap.size, 1, none⟩ = some (.int .i64 n) := World.cell?_alloc_new _ _ _ _ ▸ rfl
  have HK0 := Lib.hid (And.intro hba (And.intro hca hcb))
  have SF0 := Lib.hid (seen_below sf hba)
  have SG0 := Lib.hid (seen_below sg hba)
  have SH0 := Lib.hid (seen_below sh hba)
  have SS0 := Lib.hid (seen_below ss hba)
  have C0 := Lib.hid (stepC_below hC hba)
  have HP1 := Lib.hid (show p = p ^ (0 + 1) by simp [Int.pow_succ])
  clear sf sg sh ss hC ok hba hca hcb hM hN hpw
  go_enter Try.func146, Try.ntmps146
  go_wp2_with fail
  generalize w.alloc (.cells #[.int .i64 p, .int .i64 n] 25) = W0 at *
  refine (clone8_any SG0.out).mono ?_
  rintro e W1 ⟨v1, rfl, hr1, hb1⟩
  obtain ⟨oa, ca, rfl⟩ := row_slice hr1
  have RA1 := Lib.hid hr1
  have SF1 := Lib.hid (seen_below SF0.out hb1)
  have SG1 := Lib.hid (seen_below SG0.out hb1)
  have SH1 := Lib.hid (seen_below SH0.out hb1)
  have SS1 := Lib.hid (seen_below SS0.out hb1)
  have C1 := Lib.hid (stepC_below C0.out hb1)
  have HK1 := Lib.hid (keep11 HK0.out hb1)
  clear hr1 hb1 SF0 SG0 SH0 SS0 C0
  go_wp2_with fail
  refine (clone8_any SH1.out).mono ?_
  rintro e W2 ⟨v2, rfl, hr2, hb2⟩
  obtain ⟨ob, cb, rfl⟩ := row_slice hr2
  have AP2 := Lib.hid (apart8 RA1.out hr2)
  have RA2 := Lib.hid (intRow_lower (row_below RA1.out hb2 (Nat.le_refl _)) HK0.out.1.size)
  have RB2 := Lib.hid (intRow_lower hr2 HK1.out.1.size)
  have SF2 := Lib.hid (seen_below SF1.out hb2)
  have SG2 := Lib.hid (seen_below SG1.out hb2)
  have SH2 := Lib.hid (seen_below SH1.out hb2)
  have SS2 := Lib.hid (seen_below SS1.out hb2)
  have C2 := Lib.hid (stepC_below C1.out hb2)
  have hk2 := keep11 HK1.out hb2
  have HK2 := Lib.hid hk2
  have k0 := hk2.2.1
  have k1 := hk2.2.2
  clear hr2 hb2 SF1 SG1 SH1 SS1 C1 HK1 RA1 hk2 HK0
  go_wp2_with fail
  clear k0 k1
  go_loopw [2, 3, 10] (fun va vb vq wr => ∃ (k : Nat) (oa : Option Addr) (ca : Nat) (ob : Option Addr) (cb : Nat) (A B : List Int) (q : Int), va = .slice oa A.length ca ∧ vb = .slice ob B.length cb ∧ vq = .int .i64 q ∧ q = p ^ (k + 1) ∧ k + 1 ≤ N ∧ lifN p M f g h k = (A, B) ∧ IntRow w.heap.size wr (.slice oa A.length ca) A ∧ IntRow w.heap.size wr (.slice ob B.length cb) B ∧ ((Value.slice oa A.length ca).ownBlock = none ∨ (Value.slice oa A.length ca).ownBlock ≠ (Value.slice ob B.length cb).ownBlock) ∧ Seen wr os (invL p h g).length cs (invL p h g) ∧ Seen wr o1 f.length c1 f ∧ Seen wr o2 g.length c2 g ∧ Seen wr o3 h.length c3 h ∧ StepC wr p n b0 b1 bf bi b2 b3 (.slice o1 f.length c1) (.slice o2 g.length c2) (.slice o3 h.length c3) (.slice os (invL p h g).length cs) ∧ Below w.heap.size w wr ∧ wr.cell? ⟨w.heap.size, 0, none⟩ = some (.int .i64 p) ∧ wr.cell? ⟨w.heap.size, 1, none⟩ = some (.int .i64 n)) (fun _ _ vq _ => (M - intOf vq).toNat)
  case atStart => exact ⟨0, oa, ca, ob, cb, g, h, p, rfl, rfl, rfl, HP1.out, HNN.out, rfl, RA2.out, RB2.out, AP2.out, SS2.out, SF2.out, SG2.out, SH2.out, C2.out, HK2.out⟩
  case round =>
    obtain ⟨k, oa, ca, ob, cb, A, B, q, rfl, rfl, rfl, hq, hkN, hAB, ra, rb, ap, ss, sf, sg, sh, hc, hk⟩ := hrel
    have hI : LifI M g h A B := by have h5 := HALL.out k; rw [hAB] at h5; exact h5
    have HII := Lib.hid hI
    have la9 : A.length ≤ 9 := by have := hI.la; omega
    have lb9 : B.length ≤ 9 := by have := hI.lb; omega
    have HAB := Lib.hid hAB
    have HQ := Lib.hid hq
    have hq1 : 1 ≤ q := by rw [hq]; exact pow_ge1 p2 _
    have HK := Lib.hid hk
    have k0 := hk.2.1
    have k1 := hk.2.2
    have RA := Lib.hid ra
    have RB := Lib.hid rb
    have AP := Lib.hid ap
    have SS := Lib.hid ss
    have SF := Lib.hid sf
    have SG := Lib.hid sg
    have SH := Lib.hid sh
    have CC := Lib.hid hc
    clear hI hAB hk ra rb ap ss sf sg sh hc RA2 RB2 AP2 SS2 SF2 SG2 SH2 C2 HK2
    have HMOD := Lib.hid (modulusR_any HMM.out wr)
    by_cases hlt : k + 1 < N
    · have hqM : q < M := by rw [hq, HPW.out]; exact (pow_reach p2).2 hlt
      have hqp : q * p = p ^ (k + 2) := by rw [hq, Int.pow_succ p (k + 1)]
      have hqpM : q * p ≤ M := by rw [hqp, HPW.out]; exact pow_le p2 (by omega)
      have hqq : q < q * p := by rw [hqp, hq]; exact pow_more p2 _
      have HQP := Lib.hid hqp
      have HLT := Lib.hid hlt
      have HSTEP := Lib.hid (show lifN p M f g h (k + 1) = stepF p q M f g h (A, B) by rw [lifN_succ, HAB.out, ← HQ.out])
      clear hq hqp hlt
      go_wp2_with fail
      refine HMOD.out.mono ?_
      rintro e W3 ⟨rfl, hb3⟩
      have hk3 := keep11 HK.out hb3
      have HK3 := Lib.hid hk3
      have RA3 := Lib.hid (row_below RA.out hb3 (Nat.le_refl _))
      have RB3 := Lib.hid (row_below RB.out hb3 (Nat.le_refl _))
      have SS3 := Lib.hid (seen_below SS.out hb3)
      have SF3 := Lib.hid (seen_below SF.out hb3)
      have SG3 := Lib.hid (seen_below SG.out hb3)
      have SH3 := Lib.hid (seen_below SH.out hb3)
      have C3 := Lib.hid (stepC_below CC.out hb3)
      clear hb3 RA RB SS SF SG SH CC k0 k1 HMOD
      have HST := Lib.hid (stepFn_any p n (q := q) SF3.out SG3.out SH3.out (row_seen RA3.out (by omega)) (row_seen RB3.out (by omega)) SS3.out OK.out (by rw [HMM.out]; exact HII.out) hq1 (by rw [HMM.out]; exact hqM) C3.out)
      rw [HMM.out] at HST
      clear hk3
      go_wp2_with fail
      refine HST.out.mono ?_
      rintro e W4 ⟨v4, v5, rfl, hr4, hr5, hb4, hap4⟩
      obtain ⟨oa', ca', rfl⟩ := row_slice hr4
      obtain ⟨ob', cb', rfl⟩ := row_slice hr5
      have hk4 := keep11 HK3.out hb4
      have HK4 := Lib.hid hk4
      have RA4 := Lib.hid (intRow_lower hr4 HK3.out.1.size)
      have RB4 := Lib.hid (intRow_lower hr5 HK3.out.1.size)
      have AP4 := Lib.hid hap4
      have SS4 := Lib.hid (seen_below SS3.out hb4)
      have SF4 := Lib.hid (seen_below SF3.out hb4)
      have SG4 := Lib.hid (seen_below SG3.out hb4)
      have SH4 := Lib.hid (seen_below SH3.out hb4)
      have C4 := Lib.hid (stepC_below C3.out hb4)
      have k0 := hk4.2.1
      have wqp : IntKind.i64.wrap (q * p) = q * p := IntWalk.i64_in _ (by omega)
      clear hr4 hr5 hb4 hap4 hk4 RA3 RB3 SS3 SF3 SG3 SH3 C3 HST
      go_wp2_with fail
      exact ⟨⟨k + 1, oa', ca', ob', cb', _, _, q * p, rfl, rfl, rfl, HQP.out, by have := HLT.out; omega, HSTEP.out, RA4.out, RB4.out, AP4.out, SS4.out, SF4.out, SG4.out, SH4.out, C4.out, HK4.out⟩, by simp only [intOf]; omega⟩
    · have hqM : ¬ q < M := by rw [hq, HPW.out]; intro hc; exact hlt ((pow_reach p2).1 hc)
      have hkn : N - 1 = k := by omega
      have HE := Lib.hid (show liftA p n f g h = A ∧ liftB p n f g h = B by rw [HL2.out.1, HL2.out.2, hkn, HAB.out]; exact ⟨rfl, rfl⟩)
      clear hq hkn hlt
      go_wp2_with fail
      refine HMOD.out.mono ?_
      rintro e W3 ⟨rfl, hb3⟩
      have RA3 := Lib.hid (row_below RA.out hb3 (Nat.le_refl _))
      have RB3 := Lib.hid (row_below RB.out hb3 (Nat.le_refl _))
      have HB3 := Lib.hid (HK.out.1.trans (hb3.mono HK.out.1.size))
      clear hb3 k0 k1 HMOD
      go_wp2_with fail
      go_ret2
      rw [HE.out.1, HE.out.2]
      exact ⟨_, _, rfl, RA3.out, RB3.out, HB3.out, AP.out⟩
set_option maxHeartbeats 4000000 in
theorem liftPair_any (p n : Int) {o1 o2 o3 : Option Addr} {k1 k2 k3 c1 c2 c3 : Nat} {f g h : List Int} {w : World} (sf : Seen w o1 k1 c1 f) (sg : Seen w o2 k2 c2 g) (sh : Seen w o3 k3 c3 h) (ok : LiftOk p n f g h) :
    Calls Try.prog 106 #[.agg #[.int .i64 p, .int .i64 n], .slice o1 k1 c1, .slice o2 k2 c2, .slice o3 k3 c3] w (Own2Post (liftA p n f g h) (liftB p n f g h) w) := by
  have e1 := sf.1
  have e2 := sg.1
  have e3 := sh.1
  subst e1 e2 e3
  have hba := below_a8 w (.cells #[.int .i64 p, .int .i64 n] 25)
  have hca : (w.alloc (.cells #[.int .i64 p, .int .i64 n] 25)).drew.cell? ⟨w.heap.size, 0, none⟩ = some (.int .i64 p) := World.cell?_alloc_new _ _ _ _ ▸ rfl
  have hcb : (w.alloc (.cells #[.int .i64 p, .int .i64 n] 25)).drew.cell? ⟨w.heap.size, 1, none⟩ = some (.int .i64 n) := World.cell?_alloc_new _ _ _ _ ▸ rfl
  have hst : Below w.heap.size w (w.alloc (.cells #[.int .i64 p, .int .i64 n] 25)).drew ∧ (w.alloc (.cells #[.int .i64 p, .int .i64 n] 25)).drew.cell? ⟨w.heap.size, 0, none⟩ = some (.int .i64 p) ∧ (w.alloc (.cells #[.int .i64 p, .int .i64 n] 25)).drew.cell? ⟨w.heap.size, 1, none⟩ = some (.int .i64 n) := ⟨below_drewN hba 1, hca, hcb⟩
  have OK := Lib.hid ok
  have SF := Lib.hid (seen_below sf hst.1)
  have SG := Lib.hid (seen_below sg hst.1)
  have SH := Lib.hid (seen_below sh hst.1)
  have HSF := Lib.hid (stepFor_any p n SF.out SG.out SH.out ok)
  clear sf sg sh ok hba hca hcb
  go_enter Try.func106, Try.ntmps106
  go_wp2_with fail
  go_region_held3 (fun W' => Below w.heap.size w W' ∧ W'.cell? ⟨w.heap.size, 0, none⟩ = some (.int .i64 p) ∧ W'.cell? ⟨w.heap.size, 1, none⟩ = some (.int .i64 n)) (first | exact hst | exact keep11 ‹_› hb1 | exact keep11 ‹_› hb2 | assumption)
    (first | (go_at_call 147; refine HSF.out.mono ?_; rintro ee W1 ⟨b0, b1, bf, bi, b2, b3, os, cs, rfl, hC, hS, hb1⟩) | (go_at_call 146; refine (untilModulus_any p n (seen_below SF.out hb1) (seen_below SG.out hb1) (seen_below SH.out hb1) hS OK.out hC).mono ?_; rintro ee W2 ⟨v1, v2, rfl, hr1, hr2, hb2, hap⟩))
  have hk1 := keep11 hst hb1
  have hk2 := keep11 hk1 hb2
  have RX := Lib.hid (intRow_lower hr1 hk1.1.size)
  have RY := Lib.hid (intRow_lower hr2 hk1.1.size)
  have AP := Lib.hid hap
  have HB := Lib.hid hk2.1
  clear hr1 hr2 hap hb1 hb2 hk1 hk2 hst hC hS HSF
  go_wp2_with fail
  go_ret2
  exact ⟨_, _, rfl, RX.out, RY.out, HB.out, AP.out⟩
end Go.Proofs.Ytbjkcoajabcibaa
