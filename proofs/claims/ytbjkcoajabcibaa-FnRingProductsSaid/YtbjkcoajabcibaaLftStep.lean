/- Contracts of the walk: chapter 12 in impl: the step that lifts a pair, a closure. -/
import Derived.Test.YtbjkcoajabcibaaLftLift
import Derived.Test.YtbjkcoajabcibaaLftInvI
import Derived.Deep.RegionHeld3
namespace Go.Proofs.Ytbjkcoajabcibaa
open Go.RowKit
set_option linter.unusedVariables false
set_option linter.unusedSimpArgs false
set_option maxRecDepth 20000
/-- the variables that the step has taken in -/
def StepC (W : World) (p n : Int) (b0 b1 bf bi b2 b3 : Nat) (vf vg vh vi : Value) : Prop :=
  W.cell? ⟨b0, 0, none⟩ = some (.int .i64 p) ∧ W.cell? ⟨b0, 1, none⟩ = some (.int .i64 n) ∧ W.cell? ⟨b1, 0, none⟩ = some vf ∧ W.cell? ⟨bf, 0, none⟩ = some (.int .i64 p) ∧ W.cell? ⟨bf, 1, none⟩ = some (.int .i64 1) ∧
  W.cell? ⟨bi, 0, none⟩ = some vi ∧ W.cell? ⟨b2, 0, none⟩ = some vg ∧ W.cell? ⟨b3, 0, none⟩ = some vh
theorem cell_below {W W' : World} {a : Addr} {v : Value} (h : W.cell? a = some v) (hb : Below W.heap.size W W') : W'.cell? a = some v := by rw [hb.cell (World.block_lt_of_cell? _ _ h)]; exact h
theorem stepC_below {W W' : World} {p n : Int} {b0 b1 bf bi b2 b3 : Nat} {vf vg vh vi : Value} (h : StepC W p n b0 b1 bf bi b2 b3 vf vg vh vi) (hb : Below W.heap.size W W') : StepC W' p n b0 b1 bf bi b2 b3 vf vg vh vi := by
  obtain ⟨h1, h2, h3, h4, h5, h6, h7, h8⟩ := h
  exact ⟨cell_below h1 hb, cell_below h2 hb, cell_below h3 hb, cell_below h4 hb, cell_below h5 hb, cell_below h6 hb, cell_below h7 hb, cell_below h8 hb⟩
theorem stepS_next {w0 W W' : World} {p n : Int} {b0 b1 bf bi b2 b3 : Nat} {vf vg vh vi : Value} (h : Below w0.heap.size w0 W ∧ W.cell? ⟨b0, 0, none⟩ = some (.int .i64 p) ∧ W.cell? ⟨b0, 1, none⟩ = some (.int .i64 n) ∧ W.cell? ⟨b1, 0, none⟩ = some vf ∧ W.cell? ⟨bf, 0, none⟩ = some (.int .i64 p) ∧ W.cell? ⟨bf, 1, none⟩ = some (.int .i64 1) ∧ W.cell? ⟨bi, 0, none⟩ = some vi ∧ W.cell? ⟨b2, 0, none⟩ = some vg ∧ W.cell? ⟨b3, 0, none⟩ = some vh) (hb : Below W.heap.size W W') :
    Below w0.heap.size w0 W' ∧ W'.cell? ⟨b0, 0, none⟩ = some (.int .i64 p) ∧ W'.cell? ⟨b0, 1, none⟩ = some (.int .i64 n) ∧ W'.cell? ⟨b1, 0, none⟩ = some vf ∧ W'.cell? ⟨bf, 0, none⟩ = some (.int .i64 p) ∧ W'.cell? ⟨bf, 1, none⟩ = some (.int .i64 1) ∧ W'.cell? ⟨bi, 0, none⟩ = some vi ∧ W'.cell? ⟨b2, 0, none⟩ = some vg ∧ W'.cell? ⟨b3, 0, none⟩ = some vh :=
  ⟨h.1.trans (hb.mono h.1.size), stepC_below h.2 hb⟩
theorem quo_step {D : List Int} {q : Int} {N k : Nat} (hk : k < N) : (tabL N fun i => if i < k then D.getD i 0 / q else D.getD i 0).set k (D.getD k 0 / q) = tabL N fun i => if i < k + 1 then D.getD i 0 / q else D.getD i 0 := by
  rw [tab_set _ hk]
  refine tabL_ext fun i hi => ?_
  by_cases e : i = k
  · subst e; rw [if_pos rfl, if_pos (by omega)]
  · rw [if_neg e]
    by_cases h2 : i < k
    · rw [if_pos h2, if_pos (by omega)]
    · rw [if_neg h2, if_neg (by omega)]
theorem row_own {b N c : Nat} {o : Option Addr} {w : World} {l : List Int} (h : IntRow b w (.slice o N c) l) (h0 : 0 < N) : ∃ G, o = some ⟨G, 0, none⟩ ∧ b ≤ G := by
  have hl := row_len h
  rcases row_shape h with ⟨hz, o', c', e⟩ | ⟨_, G, c', e, hb, _⟩
  · omega
  · injection e with e1 _ _; exact ⟨G, e1, hb⟩
set_option maxHeartbeats 8000000 in
theorem stepFn_any (p n : Int) {o1 o2 o3 oa ob os : Option Addr} {c1 c2 c3 ca cb cs : Nat} {f g h A B : List Int} {q : Int} {b0 b1 bf bi b2 b3 : Nat} {w : World} (sf : Seen w o1 f.length c1 f) (sg : Seen w o2 g.length c2 g) (sh : Seen w o3 h.length c3 h) (sa : Seen w oa A.length ca A) (sb : Seen w ob B.length cb B)
    (ss : Seen w os (invL p h g).length cs (invL p h g)) (ok : LiftOk p n f g h) (hI : LifI (ringM p n) g h A B) (q1 : 1 ≤ q) (qM : q < ringM p n) (hC : StepC w p n b0 b1 bf bi b2 b3 (.slice o1 f.length c1) (.slice o2 g.length c2) (.slice o3 h.length c3) (.slice os (invL p h g).length cs)) :
    Calls Try.prog 167 #[.int .i64 q, .slice oa A.length ca, .slice ob B.length cb, .pointer (some ⟨b0, 0, none⟩), .pointer (some ⟨b1, 0, none⟩), .pointer (some ⟨bf, 0, none⟩), .pointer (some ⟨bi, 0, none⟩), .pointer (some ⟨b2, 0, none⟩), .pointer (some ⟨b3, 0, none⟩)] w (Own2Post (stepF p q (ringM p n) f g h (A, B)).1 (stepF p q (ringM p n) f g h (A, B)).2 w) := by
  obtain ⟨p2, p97, hn1, hn2, m2, m9, hpm⟩ := ringM_bd ok.ring
  have hs := (ringM_in ok.ring).1
  have pp := (small_prime hs).2.2
  obtain ⟨hlen, lg9, lh9⟩ := liftOk_len ok
  have lg2 := ok.tw.lg
  have lh2 := ok.tw.lh
  have HI := Lib.hid (liftOk_inv ok)
  have HMG := Lib.hid ok.mg
  have HMH := Lib.hid ok.mh
  have lf9 := ok.lf
  have ls9 : (invL p h g).length ≤ 8 := by have := HI.out.s.deg; omega
  have la := hI.la
  have lb := hI.lb
  have la9 : A.length ≤ 9 := by omega
  have lb9 : B.length ≤ 9 := by omega
  obtain ⟨M, hM⟩ : ∃ M, ringM p n = M := ⟨_, rfl⟩
  have HR := Lib.hid hM
  have HRP := Lib.hid (ringM_8 hs)
  have HMF := Lib.hid ok.mf
  rw [hM] at m2 m9 hpm qM HMF hI ⊢
  have HII := Lib.hid hI
  have HLK := Lib.hid (lack_len (p := p) (q := q) (by omega) m2 ok.mon hlen hI)
  have hpab := prodL_le M A B
  obtain ⟨D, hD⟩ : ∃ D, redL M (addL f (prodL M A B) (-1)) = D := ⟨_, rfl⟩
  have HDM := Lib.hid (show ModP M D by rw [← hD]; exact redL_mod (by omega) _)
  have HMAB := Lib.hid (redL_mod (p := M) (by omega) (mulL A B))
  have HDD := Lib.hid hD
  obtain ⟨C, hCC⟩ : ∃ C, lackL p q M f A B = C := ⟨_, rfl⟩
  have HCE := Lib.hid (show redL p (tabL D.length fun i => D.getD i 0 / q) = C by rw [← hCC, lackL, hD])
  have hlk := HLK.out
  rw [hD, hCC] at hlk
  have hDl : D.length ≤ 20 := by omega
  have lc9 : C.length ≤ 9 := by omega
  have HMC := Lib.hid hlk.2.2
  obtain ⟨X, hX⟩ : ∃ X, remP p (prodL p C (invL p h g)) g = X := ⟨_, rfl⟩
  have HXX := Lib.hid hX
  have hg0 : g ≠ [] := fun e => by rw [e] at lg2; simp at lg2
  have hdx := divP_is p2 p97 pp (redL_mod (p := p) (by omega) (mulL C (invL p h g))) HMG.out hg0
  have hdx1 : ModP p X := by rw [← hX]; exact hdx.mr
  have hdx2 : X.length < g.length := by rw [← hX]; exact hdx.deg
  have HMX := Lib.hid hdx1
  have HMP := Lib.hid (redL_mod (p := p) (by omega) (mulL C (invL p h g)))
  have lpx := prodL_le p C (invL p h g)
  have lxh := prodL_le p X h
  have HMXH := Lib.hid (redL_mod (p := p) (by omega) (mulL X h))
  obtain ⟨E, hE⟩ : ∃ E, redL p (addL C (prodL p X h) (-1)) = E := ⟨_, rfl⟩
  have HEE := Lib.hid hE
  have HME := Lib.hid (show ModP p E by rw [← hE]; exact redL_mod (by omega) _)
  have lE : E.length ≤ 20 := by
    have := redL_le p (addL C (prodL p X h) (-1)); rw [addL_len, hE] at this; omega
  have HY := Lib.hid (show quoP p E g = lifX p h g C by
    have h5 := second_same p2 p97 pp HMG.out HMH.out hlk.2.2 lg2 lh2 hlk.2.1 HI.out.s HI.out.t
    rw [show remP p (prodL p C (invL p h g)) g = X from hX, hE] at h5
    exact h5)
  have HSF := Lib.hid (show stepF p q M f g h (A, B) = (redL M (addL A X q), redL M (addL B (quoP p E g) q)) by
    rw [HY.out]; unfold stepF lifX; rw [hCC]; rw [show remP p (prodL p C (invL p h g)) g = X from hX])
  have lY := quoP_len p E g
  have HMY := Lib.hid (divP_is p2 p97 pp HME.out HMG.out hg0).mq
  have SF := Lib.hid sf
  have SG := Lib.hid sg
  have SH := Lib.hid sh
  have SA := Lib.hid sa
  have SB := Lib.hid sb
  have SS := Lib.hid ss
  have HCN := Lib.hid hC
  have HSFE := Lib.hid (And.intro HSF.out HSF.out)
  rw [HSF.out]
  clear sf sg sh sa sb ss hC ok hI hM hlen la lb hD hCC hlk hX hdx hdx1 hE hg0 HLK HSFE HSF
  have hS0 : Below w.heap.size w w.drew ∧ w.drew.cell? ⟨b0, 0, none⟩ = some (.int .i64 p) ∧ w.drew.cell? ⟨b0, 1, none⟩ = some (.int .i64 n) ∧ w.drew.cell? ⟨b1, 0, none⟩ = some (.slice o1 f.length c1) ∧ w.drew.cell? ⟨bf, 0, none⟩ = some (.int .i64 p) ∧ w.drew.cell? ⟨bf, 1, none⟩ = some (.int .i64 1) ∧ w.drew.cell? ⟨bi, 0, none⟩ = some (.slice os (invL p h g).length cs) ∧ w.drew.cell? ⟨b2, 0, none⟩ = some (.slice o2 g.length c2) ∧ w.drew.cell? ⟨b3, 0, none⟩ = some (.slice o3 h.length c3) := ⟨below_drewN (Below.refl _ _) 1, HCN.out⟩
  have hd0 : Below w.heap.size w w.drew := hS0.1
  have HP1 := Lib.hid (productR_any HR.out m2 m9 (seen_below SA.out hd0) (seen_below SB.out hd0) (mod_res9 m9 HII.out.ma) (mod_res9 m9 HII.out.mb) (by omega) (by omega))
  go_enter Try.func167, Try.ntmps167
  go_wp2_with fail
  go_region_held3 (fun W' => Below w.heap.size w W' ∧ W'.cell? ⟨b0, 0, none⟩ = some (.int .i64 p) ∧ W'.cell? ⟨b0, 1, none⟩ = some (.int .i64 n) ∧ W'.cell? ⟨b1, 0, none⟩ = some (.slice o1 f.length c1) ∧ W'.cell? ⟨bf, 0, none⟩ = some (.int .i64 p) ∧ W'.cell? ⟨bf, 1, none⟩ = some (.int .i64 1) ∧ W'.cell? ⟨bi, 0, none⟩ = some (.slice os (invL p h g).length cs) ∧ W'.cell? ⟨b2, 0, none⟩ = some (.slice o2 g.length c2) ∧ W'.cell? ⟨b3, 0, none⟩ = some (.slice o3 h.length c3)) (first | exact hS0 | exact stepS_next ‹_› hb1 | exact stepS_next ‹_› hb2 | assumption)
    (first | (go_at_call 93; refine HP1.out.mono ?_; rintro ee V1 ⟨v1, rfl, hr1, hb1⟩; obtain ⟨o4, c4, rfl⟩ := row_slice hr1) | (go_at_call 158; refine (sumA_any (-1) HR.out m2 m9 (seen_below (seen_below SF.out hd0) hb1) (row_seen hr1 (by omega)) (mod_res9 m9 HMF.out) (mod_neg9 m9 HMAB.out) (by omega) (by omega)).mono ?_; rw [HDD.out]; rintro ee V2 ⟨v2, rfl, hr2, hb2⟩; obtain ⟨o5, c5, rfl⟩ := row_slice hr2))
  have hS1 := stepS_next hS0 hb1
  have hS2 := stepS_next hS1 hb2
  have HS1 := Lib.hid hS1
  have RD := Lib.hid hr2
  have HBV := Lib.hid hb2
  have HBV1 := Lib.hid hS1.1.size
  clear hr1 hb1 hr2 hb2 hS0 hS1 hS2 hd0 HP1
  go_wp2_with fail
  go_loopw [28] (fun s wr => ∃ k : Nat, k ≤ D.length ∧ s = .int .i64 k ∧ IntRow V1.heap.size wr (.slice o5 D.length c5) (tabL D.length fun i => if i < k then D.getD i 0 / q else D.getD i 0) ∧ Below V1.heap.size V1 wr) (fun s _ => D.length - (intOf s).toNat)
  case atStart =>
    refine ⟨0, Nat.zero_le _, rfl, ?_, HBV.out⟩
    have e : (tabL D.length fun i => if i < 0 then D.getD i 0 / q else D.getD i 0) = D := by
      refine ext_getD (by rw [tabL_length]) fun i hi => ?_
      rw [tabL_length] at hi
      rw [tabL_getD hi, if_neg (by omega)]
    rw [e]; exact RD.out
  case round =>
    obtain ⟨k, hk, rfl, hr, hb⟩ := hrel
    have HRW := Lib.hid hr
    have HB := Lib.hid hb
    clear hr hb RD HBV
    by_cases hlt : k < D.length
    · obtain ⟨G, rfl, hG⟩ := row_own HRW.out (by omega)
      have hrl : (tabL D.length fun i => if i < k then D.getD i 0 / q else D.getD i 0).length = D.length := tabL_length _ _
      have c2' := int_at HRW.out hrl hlt
      rw [tabL_getD hlt, if_neg (by omega)] at c2'
      have f2 := int_frozen HRW.out hrl k
      have HE := Lib.hid (quo_step (D := D) (q := q) hlt)
      obtain ⟨z0, z1⟩ := HDM.out.rng k
      obtain ⟨z, hz⟩ : ∃ z, D.getD k 0 = z := ⟨_, rfl⟩
      rw [hz] at c2' HE z0 z1
      obtain ⟨y, hy⟩ : ∃ y, z / q = y := ⟨_, rfl⟩
      have ty : z.tdiv q = y := by rw [Int.tdiv_eq_ediv_of_nonneg z0, hy]
      have hy0 : 0 ≤ y := by rw [← hy]; exact Int.ediv_nonneg z0 (by omega)
      have hy1 : y ≤ z := by rw [← hy]; exact Int.ediv_le_self _ z0
      have wy : IntKind.i64.wrap y = y := IntWalk.i64_in _ (by omega)
      have hqz : (q == 0) = false := by simp; omega
      rw [hy] at HE
      have HR3 := Lib.hid (int_stored HRW.out hrl k y)
      rw [HE.out] at HR3
      have HB3 := Lib.hid (HB.out.setCell (p := ⟨G, k, none⟩) hG (.int .i64 y))
      have hkn : (k : Int) < (D.length : Int) := by omega
      clear hz hy hy0 hy1 z0 z1 HE HRW HB hrl
      go_wp2_with fail
      exact ⟨⟨k + 1, by omega, by go_num, HR3.out, HB3.out⟩, by simp only [intOf]; omega⟩
    · have hkn : ¬ (k : Int) < (D.length : Int) := by omega
      have hrl : (tabL D.length fun i => if i < k then D.getD i 0 / q else D.getD i 0).length = D.length := tabL_length _ _
      have he : (tabL D.length fun i => if i < k then D.getD i 0 / q else D.getD i 0) = tabL D.length fun i => D.getD i 0 / q := tabL_ext fun i hi => if_pos (by omega)
      have hrw := HRW.out
      rw [he] at hrw
      have SL := Lib.hid (show Seen wr o5 D.length c5 (tabL D.length fun i => D.getD i 0 / q) by
        have h5 := row_seen (o := o5) (n := (tabL D.length fun i => D.getD i 0 / q).length) (c := c5) (by rw [tabL_length]; exact hrw) (by rw [tabL_length]; omega)
        rw [tabL_length] at h5; exact h5)
      have hSr := stepS_next HS1.out HB.out
      have k3 := hSr.2.2.2.2.1
      have k4 := hSr.2.2.2.2.2.1
      clear hrw he hrl hk hlt HRW HB
      go_wp2_with fail
      refine (reduced_any p hs SL.out (by omega)).mono ?_
      rw [HCE.out]
      rintro ee W3 ⟨v3, rfl, hr3, hb3⟩
      obtain ⟨o6, c6, rfl⟩ := row_slice hr3
      have hS3 := stepS_next hSr hb3
      have hd3 : Below W3.heap.size W3 W3.drew := below_drewN (Below.refl _ _) 1
      have SC := Lib.hid (seen_below (row_seen hr3 (by omega)) hd3)
      have hT3 : Below w.heap.size w W3.drew ∧ W3.drew.cell? ⟨b0, 0, none⟩ = some (.int .i64 p) ∧ W3.drew.cell? ⟨b0, 1, none⟩ = some (.int .i64 n) ∧ W3.drew.cell? ⟨b1, 0, none⟩ = some (.slice o1 f.length c1) ∧ W3.drew.cell? ⟨bf, 0, none⟩ = some (.int .i64 p) ∧ W3.drew.cell? ⟨bf, 1, none⟩ = some (.int .i64 1) ∧ W3.drew.cell? ⟨bi, 0, none⟩ = some (.slice os (invL p h g).length cs) ∧ W3.drew.cell? ⟨b2, 0, none⟩ = some (.slice o2 g.length c2) ∧ W3.drew.cell? ⟨b3, 0, none⟩ = some (.slice o3 h.length c3) := ⟨below_drewN hS3.1 1, hS3.2⟩
      clear hr3 hb3 hSr k3 k4 hd3 SL HS1
      have HP2 := Lib.hid (product_any p hs SC.out (seen_below SS.out hT3.1) HMC.out HI.out.s.mod (by omega) (by omega))
      go_wp2_with fail
      go_region_held3 (fun W' => Below w.heap.size w W' ∧ W'.cell? ⟨b0, 0, none⟩ = some (.int .i64 p) ∧ W'.cell? ⟨b0, 1, none⟩ = some (.int .i64 n) ∧ W'.cell? ⟨b1, 0, none⟩ = some (.slice o1 f.length c1) ∧ W'.cell? ⟨bf, 0, none⟩ = some (.int .i64 p) ∧ W'.cell? ⟨bf, 1, none⟩ = some (.int .i64 1) ∧ W'.cell? ⟨bi, 0, none⟩ = some (.slice os (invL p h g).length cs) ∧ W'.cell? ⟨b2, 0, none⟩ = some (.slice o2 g.length c2) ∧ W'.cell? ⟨b3, 0, none⟩ = some (.slice o3 h.length c3)) (first | exact hT3 | exact stepS_next ‹_› hb4 | exact stepS_next ‹_› hb5 | assumption)
        (first | (go_at_call 93; refine HP2.out.mono ?_; rintro ee W4 ⟨v4, rfl, hr4, hb4⟩; obtain ⟨o7, c7, rfl⟩ := row_slice hr4) | (go_at_call 168; refine (rest_any p hs (row_seen hr4 (by omega)) (seen_below (seen_below SG.out hT3.1) hb4) HMP.out HMG.out (by omega) (by omega) (by omega)).mono ?_; rw [HXX.out]; rintro ee W5 ⟨v5, rfl, hr5, hb5⟩; obtain ⟨o8, c8, rfl⟩ := row_slice hr5))
      have hS4 := stepS_next hT3 hb4
      have hS5 := stepS_next hS4 hb5
      have hd5 : Below W5.heap.size W5 W5.drew := below_drewN (Below.refl _ _) 1
      have SC5 := Lib.hid (seen_below (seen_below (seen_below SC.out hb4) hb5) hd5)
      have SX5 := Lib.hid (seen_below (row_seen hr5 (by omega)) hd5)
      have hT5 : Below w.heap.size w W5.drew ∧ W5.drew.cell? ⟨b0, 0, none⟩ = some (.int .i64 p) ∧ W5.drew.cell? ⟨b0, 1, none⟩ = some (.int .i64 n) ∧ W5.drew.cell? ⟨b1, 0, none⟩ = some (.slice o1 f.length c1) ∧ W5.drew.cell? ⟨bf, 0, none⟩ = some (.int .i64 p) ∧ W5.drew.cell? ⟨bf, 1, none⟩ = some (.int .i64 1) ∧ W5.drew.cell? ⟨bi, 0, none⟩ = some (.slice os (invL p h g).length cs) ∧ W5.drew.cell? ⟨b2, 0, none⟩ = some (.slice o2 g.length c2) ∧ W5.drew.cell? ⟨b3, 0, none⟩ = some (.slice o3 h.length c3) := ⟨below_drewN hS5.1 1, hS5.2⟩
      clear hr4 hb4 hr5 hb5 hS3 hS4 hS5 hT3 hd5 SC HP2
      have HP3 := Lib.hid (product_any p hs SX5.out (seen_below SH.out hT5.1) HMX.out HMH.out (by omega) (by omega))
      go_wp2_with fail
      go_region_held3 (fun W' => Below w.heap.size w W' ∧ W'.cell? ⟨b0, 0, none⟩ = some (.int .i64 p) ∧ W'.cell? ⟨b0, 1, none⟩ = some (.int .i64 n) ∧ W'.cell? ⟨b1, 0, none⟩ = some (.slice o1 f.length c1) ∧ W'.cell? ⟨bf, 0, none⟩ = some (.int .i64 p) ∧ W'.cell? ⟨bf, 1, none⟩ = some (.int .i64 1) ∧ W'.cell? ⟨bi, 0, none⟩ = some (.slice os (invL p h g).length cs) ∧ W'.cell? ⟨b2, 0, none⟩ = some (.slice o2 g.length c2) ∧ W'.cell? ⟨b3, 0, none⟩ = some (.slice o3 h.length c3)) (first | exact hT5 | exact stepS_next ‹_› hb6 | exact stepS_next ‹_› hb7 | exact stepS_next ‹_› hb8 | assumption)
        (first | (go_at_call 93; refine HP3.out.mono ?_; rintro ee W6 ⟨v6, rfl, hr6, hb6⟩; obtain ⟨o9, c9, rfl⟩ := row_slice hr6) | (go_at_call 158; refine (sumA_any (-1) HRP.out p2 (by omega) (seen_below SC5.out hb6) (row_seen hr6 (by omega)) (modP_res p97 HMC.out) (modP_neg p97 HMXH.out) (by omega) (by omega)).mono ?_; rw [HEE.out]; rintro ee W7 ⟨v7, rfl, hr7, hb7⟩; obtain ⟨o10, c10, rfl⟩ := row_slice hr7) | (go_at_call 88; refine (divide_any p hs (row_seen hr7 (by omega)) (seen_d (seen_below (seen_below (seen_below SG.out hT5.1) hb6) hb7)) HME.out HMG.out (by omega) (by omega) (by omega)).mono ?_; rintro ee W8 ⟨v8, v9, rfl, hr8, hr9, hb8, hap8⟩; obtain ⟨o11, c11, rfl⟩ := row_slice hr8; obtain ⟨o12, c12, rfl⟩ := row_slice hr9))
      have hS6 := stepS_next hT5 hb6
      have hS7 := stepS_next hS6 hb7
      have hS8 := stepS_next hS7 hb8
      have hd8 : Below W8.heap.size W8 W8.drew := below_drewN (Below.refl _ _) 1
      have SX8 := Lib.hid (seen_below (seen_below (seen_below (seen_below SX5.out hb6) hb7) hb8) hd8)
      have SY8 := Lib.hid (seen_below (row_seen hr8 (by omega)) hd8)
      have hT8 : Below w.heap.size w W8.drew ∧ W8.drew.cell? ⟨b0, 0, none⟩ = some (.int .i64 p) ∧ W8.drew.cell? ⟨b0, 1, none⟩ = some (.int .i64 n) ∧ W8.drew.cell? ⟨b1, 0, none⟩ = some (.slice o1 f.length c1) ∧ W8.drew.cell? ⟨bf, 0, none⟩ = some (.int .i64 p) ∧ W8.drew.cell? ⟨bf, 1, none⟩ = some (.int .i64 1) ∧ W8.drew.cell? ⟨bi, 0, none⟩ = some (.slice os (invL p h g).length cs) ∧ W8.drew.cell? ⟨b2, 0, none⟩ = some (.slice o2 g.length c2) ∧ W8.drew.cell? ⟨b3, 0, none⟩ = some (.slice o3 h.length c3) := ⟨below_drewN hS8.1 1, hS8.2⟩
      have hd88 := hd8.size
      clear hr6 hb6 hr7 hb7 hr8 hr9 hb8 hap8 hS6 hS7 hS8 hT5 SC5 SX5 HP3 hd8
      have HP4 := Lib.hid (sumA_any q HR.out m2 m9 (seen_below SA.out hT8.1) SX8.out (mod_res9 m9 HII.out.ma) (mod_mul9 p97 (by omega) (by omega) HMX.out) (by omega) (by omega))
      go_wp2_with fail
      go_region_held3 (fun W' => Below w.heap.size w W' ∧ W'.cell? ⟨b0, 0, none⟩ = some (.int .i64 p) ∧ W'.cell? ⟨b0, 1, none⟩ = some (.int .i64 n) ∧ W'.cell? ⟨b1, 0, none⟩ = some (.slice o1 f.length c1) ∧ W'.cell? ⟨bf, 0, none⟩ = some (.int .i64 p) ∧ W'.cell? ⟨bf, 1, none⟩ = some (.int .i64 1) ∧ W'.cell? ⟨bi, 0, none⟩ = some (.slice os (invL p h g).length cs) ∧ W'.cell? ⟨b2, 0, none⟩ = some (.slice o2 g.length c2) ∧ W'.cell? ⟨b3, 0, none⟩ = some (.slice o3 h.length c3)) (first | exact hT8 | exact stepS_next ‹_› hb10 | exact stepS_next ‹_› hb11 | assumption)
        (first | (go_at_call 158; refine (sumA_any q HR.out m2 m9 (seen_below (seen_below SB.out hT8.1) hb10) (seen_below SY8.out hb10) (mod_res9 m9 HII.out.mb) (mod_mul9 p97 (by omega) (by omega) HMY.out) (by omega) (by omega)).mono ?_; rintro ee W11 ⟨v11, rfl, hr11, hb11⟩; obtain ⟨o14, c14, rfl⟩ := row_slice hr11) | (go_at_call 158; refine HP4.out.mono ?_; rintro ee W10 ⟨v10, rfl, hr10, hb10⟩; obtain ⟨o13, c13, rfl⟩ := row_slice hr10))
      have hS10 := stepS_next hT8 hb10
      have hS11 := stepS_next hS10 hb11
      have RX := Lib.hid (intRow_lower (row_below hr10 hb11 (Nat.le_refl _)) hT8.1.size)
      have RY := Lib.hid (intRow_lower hr11 hS10.1.size)
      have AP := Lib.hid (apart8 hr10 hr11)
      have HBE := Lib.hid hS11.1
      clear hr10 hb10 hr11 hb11 hS10 hS11 hT8
      go_wp2_with fail
      go_ret2
      exact ⟨_, _, rfl, RX.out, RY.out, HBE.out, AP.out⟩
end Go.Proofs.Ytbjkcoajabcibaa
