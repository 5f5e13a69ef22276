/- Contracts of the walk: chapter 12 in impl: inverses by a polynomial. -/
import Derived.Test.YtbjkcoajabcibaaLftInv
import Derived.Deep.RegionHeld3
namespace Go.Proofs.Ytbjkcoajabcibaa
open Go.RowKit
set_option linter.unusedVariables false
set_option linter.unusedSimpArgs false
set_option maxRecDepth 20000
theorem red_euc2 (p : Int) (hp : 0 < p) (u q v : List Int) : redL p (addL u (prodL p q v) (-1)) = redL p (addL u (mulL q v) (-1)) :=
  redL_same hp (cgp_add (-1) (cgp_refl p u) (redL_cg p (mulL q v)))
theorem modP_res {p : Int} (p97 : p ≤ 97) {f : List Int} (h : ModP p f) : Res9 f := fun i => by have := h.rng i; omega
theorem modP_neg {p : Int} (p97 : p ≤ 97) {f : List Int} (h : ModP p f) : ∀ i, -1000000000000000000 ≤ -1 * f.getD i 0 ∧ -1 * f.getD i 0 ≤ 1000000000000000000 := fun i => by have := h.rng i; omega
set_option maxHeartbeats 4000000 in
theorem inverseModulo_any (p : Int) (hs : smallB p = true) {o o' : Option Addr} {n n' c c' : Nat} {h g : List Int} {w : World} (sh : Seen w o n c h) (sg : Seen w o' n' c' g) (mh : ModP p h) (mg : ModP p g) (lh : h.length ≤ 9) (lg : g.length ≤ 9) (lg2 : 2 ≤ g.length) (h1 : (gcdL p g h).length = 1) :
    Calls Try.prog 166 #[R1 p, .slice o n c, .slice o' n' c'] w (OwnPost (invL p h g) w) := by
  obtain ⟨p2, p97, pp⟩ := small_prime hs
  have hR := ringM_8 hs
  have HR9 := Lib.hid hR
  clear hR
  have hg0 : g.length ≠ 0 := by omega
  have en := sh.1
  have en' := sg.1
  subst en en'
  have MG := Lib.hid mg
  have E0 := Lib.hid (eu_start p2 p97 pp mg mh lg2 h1)
  have HEQ := Lib.hid fun (s : List Int) (e : IsInvP p h g s) => invL_eq pp mg (fun e => hg0 (by rw [e]; rfl)) e
  have hba := below_a8 w (.cells #[.int .i64 p, .int .i64 1] 25)
  have hbb := below_a8 (w.alloc (.cells #[.int .i64 p, .int .i64 1] 25)) (.cells #[.int .i64 1] 2)
  have hs1 := seen_one (w.alloc (.cells #[.int .i64 p, .int .i64 1] 25)) 1 2
  rw [World.size_alloc] at hs1
  have hbc : Below w.heap.size w ((w.alloc (.cells #[.int .i64 p, .int .i64 1] 25)).alloc (.cells #[.int .i64 1] 2)) := hba.trans (hbb.mono (by simp))
  have SV0 := Lib.hid hs1
  have SU0 := Lib.hid (seen_empty ((w.alloc (.cells #[.int .i64 p, .int .i64 1] 25)).alloc (.cells #[.int .i64 1] 2)))
  have SB0 := Lib.hid (seen_below sh hbc)
  have SA0 := Lib.hid (seen_below sg hbc)
  have hca : (w.alloc (.cells #[.int .i64 p, .int .i64 1] 25)).cell? ⟨w.heap.size, 0, none⟩ = some (.int .i64 p) := World.cell?_alloc_new _ _ _ _ ▸ rfl
  have hcb : (w.alloc (.cells #[.int .i64 p, .int .i64 1] 25)).cell? ⟨w.heap.size, 1, none⟩ = some (.int .i64 1) := World.cell?_alloc_new _ _ _ _ ▸ rfl
  have HK0 := Lib.hid (keep8 (W := w.alloc (.cells #[.int .i64 p, .int .i64 1] 25)) ⟨hba, hca, hcb⟩ hbb)
  clear hca hcb
  clear sh sg mh mg h1 hba hbb hs1 hbc
  go_enter Try.func166, Try.ntmps166
  go_wp2_with fail
  go_loopw [7, 8, 9, 10] (fun va vb vu vv wr => ∃ (o1 : Option Addr) (c1 : Nat) (a : List Int) (o2 : Option Addr) (c2 : Nat) (b : List Int) (o3 : Option Addr) (c3 : Nat) (u : List Int) (o4 : Option Addr) (c4 : Nat) (v : List Int), va = .slice o1 a.length c1 ∧ vb = .slice o2 b.length c2 ∧ vu = .slice o3 u.length c3 ∧ vv = .slice o4 v.length c4 ∧ Seen wr o1 a.length c1 a ∧ Seen wr o2 b.length c2 b ∧ Seen wr o3 u.length c3 u ∧ Seen wr o4 v.length c4 v ∧ EuP p g h a b u v ∧ a.length ≤ 9 ∧ b.length ≤ 9 ∧ Below w.heap.size w wr ∧ wr.cell? ⟨w.heap.size, 0, none⟩ = some (.int .i64 p) ∧ wr.cell? ⟨w.heap.size, 1, none⟩ = some (.int .i64 1)) (fun _ vb _ _ _ => lenV vb)
  case atStart => exact ⟨o', c', g, o, c, h, none, 0, [], _, _, [1], rfl, rfl, rfl, rfl, SA0.out, SB0.out, SU0.out, SV0.out, E0.out, lg, lh, HK0.out⟩
  case round =>
    obtain ⟨o1, c1, a, o2, c2, b, o3, c3, u, o4, c4, v, rfl, rfl, rfl, rfl, s1, s2, s3, s4, eu, la9, lb9, hk⟩ := hrel
    have HK := Lib.hid hk
    have S2 := Lib.hid s2
    have S3 := Lib.hid s3
    have S4 := Lib.hid s4
    have h0 := eu_nonzero p2 p97 pp eu
    have bd := eu_bd p2 p97 pp eu lg
    have k0 := hk.2.1
    have k1 := hk.2.2
    clear SA0 SB0 SU0 SV0 HK0 E0
    by_cases hlt : 1 < b.length
    · have hlt' : (1 : Int) < (b.length : Int) := by omega
      have HST := Lib.hid (eu_step p2 p97 pp eu hlt)
      have HD := Lib.hid (divide_any p hs s1 (seen_d s2) eu.ma eu.mb h0 (by omega) (by omega))
      have hd := divP_is p2 p97 pp eu.ma eu.mb (fun e => h0 (by rw [e]; rfl))
      have lq := quoP_len p a b
      have hq9 : (quoP p a b).length ≤ 9 := by omega
      have HRL := Lib.hid hd.deg
      have HMQ := Lib.hid hd.mq
      have HMV := Lib.hid eu.mv
      have HMU := Lib.hid eu.mu
      have hpl := prodL_le p (quoP p a b) v
      have hpl20 : (prodL p (quoP p a b) v).length ≤ 20 := by omega
      have HMP := Lib.hid (redL_mod (p := p) (by omega) (mulL (quoP p a b) v))
      have HRE := Lib.hid (red_euc2 p (by omega) u (quoP p a b) v)
      have HRM := Lib.hid (remP_len p a b)
      clear s1 s2 s3 s4 eu hk hd lq hpl h0
      go_wp2_with fail
      refine HD.out.mono ?_
      rintro e W3 ⟨vq, vr, rfl, hq, hr, hb3, hap⟩
      obtain ⟨o5, c5, rfl⟩ := row_slice hq
      obtain ⟨o6, c6, rfl⟩ := row_slice hr
      have hk3 := keep8 HK.out hb3
      have SQ := Lib.hid (row_seen hq (by omega))
      have SR := Lib.hid (row_seen hr (by have := HRM.out; omega))
      have S2a := Lib.hid (seen_below S2.out hb3)
      have S3a := Lib.hid (seen_below S3.out hb3)
      have S4a := Lib.hid (seen_below S4.out hb3)
      have hst : Below w.heap.size w W3.drew ∧ W3.drew.cell? ⟨w.heap.size, 0, none⟩ = some (.int .i64 p) ∧ W3.drew.cell? ⟨w.heap.size, 1, none⟩ = some (.int .i64 1) := ⟨below_drewN hk3.1 1, hk3.2.1, hk3.2.2⟩
      have hbd : Below W3.heap.size W3 W3.drew := below_drewN (Below.refl _ _) 1
      have HP1 := Lib.hid (product_any p hs (seen_below SQ.out hbd) (seen_below S4a.out hbd) HMQ.out HMV.out (by omega) (by omega))
      clear hq hr hb3 hap HD S2 S3 S4 k0 k1
      have k0 := hk3.2.1
      have k1 := hk3.2.2
      go_wp2_with fail
      go_region_held3 (fun W' => Below w.heap.size w W' ∧ W'.cell? ⟨w.heap.size, 0, none⟩ = some (.int .i64 p) ∧ W'.cell? ⟨w.heap.size, 1, none⟩ = some (.int .i64 1)) (first | exact hst | exact keep8 ‹_› hb4 | exact keep8 ‹_› hb5 | assumption)
        (first | (go_at_call 93; refine HP1.out.mono ?_; rintro ee W4 ⟨v4, rfl, hr4, hb4⟩; obtain ⟨o7, c7, rfl⟩ := row_slice hr4) | (go_at_call 158; refine (sumA_any (-1) HR9.out p2 (by omega) (seen_below (seen_below S3a.out hbd) hb4) (row_seen hr4 (by omega)) (modP_res p97 HMU.out) (modP_neg p97 HMP.out) (by omega) (by omega)).mono ?_; rw [HRE.out]; rintro ee W5 ⟨v5, rfl, hr5, hb5⟩; obtain ⟨o8, c8, rfl⟩ := row_slice hr5))
      have hk4 := keep8 hst hb4
      have HK5 := Lib.hid (keep8 hk4 hb5)
      have hw9 := (eu_bd p2 p97 pp HST.out lg).2
      have S5 := Lib.hid (row_seen hr5 (by omega))
      have S2c := Lib.hid (seen_below (seen_below (seen_below S2a.out hbd) hb4) hb5)
      have S4c := Lib.hid (seen_below (seen_below (seen_below S4a.out hbd) hb4) hb5)
      have SRc := Lib.hid (seen_below (seen_below (seen_below SR.out hbd) hb4) hb5)
      clear hr4 hb4 hr5 hb5 hst hbd hk4 hk3 k0 k1 HP1 hw9
      go_wp2_with fail
      exact ⟨⟨o2, c2, b, o6, c6, remP p a b, o4, c4, v, o8, c8, _, rfl, rfl, rfl, rfl, S2c.out, SRc.out, S4c.out, S5.out, HST.out, lb9, by have := HRL.out; omega, HK5.out⟩, by simp only [lenV]; exact HRL.out⟩
    · have hb1 : b.length = 1 := by omega
      obtain ⟨k, rfl⟩ := len_one hb1
      have HD := Lib.hid (divide_any p hs s4 (seen_d s2) eu.mv eu.mb (by simp) (by omega) (by simp))
      have HFIN := Lib.hid (HEQ.out _ (eu_end p2 p97 pp MG.out lg2 eu))
      have hlt' : ¬ (1 : Int) < (([k] : List Int).length : Int) := by simp
      clear s1 s2 s3 s4 eu hk h0 S2 S3 S4 hlt hb1
      simp only [List.length_singleton] at hlt' HD ⊢
      go_wp2_with fail
      refine HD.out.mono ?_
      rintro e W3 ⟨vq, vr, rfl, hq, hr, hb3, hap⟩
      obtain ⟨o5, c5, rfl⟩ := row_slice hq
      obtain ⟨o6, c6, rfl⟩ := row_slice hr
      have HQ := Lib.hid (intRow_lower hq HK.out.1.size)
      have HB := Lib.hid (HK.out.1.trans (hb3.mono HK.out.1.size))
      clear hq hr hb3 hap HD k0 k1
      go_wp2_with fail
      go_ret
      rw [← HFIN.out]
      exact ⟨_, rfl, HQ.out, HB.out⟩
end Go.Proofs.Ytbjkcoajabcibaa
