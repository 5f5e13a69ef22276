/- Contracts of the walk: chapter 8 in spec: powers of x, roots, derivatives, square-free ones. -/
import Derived.Test.YtidcpmhbkldpeaaModSpec2
import Derived.Lib.RabinKarpLaws
namespace Go.Proofs.Ytidcpmhbkldpeaa
open Go.RowKit
set_option linter.unusedVariables false
set_option linter.unusedSimpArgs false
set_option maxRecDepth 20000
theorem l08Rest_any (p : Int) (hs : smallB p = true) {o o' : Option Addr} {n n' c c' : Nat} {f g : List Int} {w : World} (h : Seen w o n c f) (h' : Seen w o' n' c' g) (hf : ModP p f) (hg : ModP p g) (h0 : g.length ≠ 0) (hn20 : n ≤ 20) (hn9' : n' ≤ 20) :
    Calls Try.prog 125 #[.int .i64 p, .slice o n c, .slice o' n' c'] w (OwnPost (remP p f g) w) := by
  have HD := Lib.hid (l08Div_any p hs h h' hf hg h0 hn20 hn9')
  clear h h' hf hg h0
  go_enter Try.func125, Try.ntmps125
  go_wp2_with fail
  refine HD.out.mono ?_
  rintro e w3 ⟨v, u, rfl, hq, hr, hb, hap⟩
  have HR := Lib.hid hr
  have HB := Lib.hid hb
  clear hq hr hb hap HD
  go_wp2_with fail
  go_ret
  exact ⟨_, rfl, HR.out, HB.out⟩
theorem pow_len {p : Int} {f r : List Int} {e : Nat} (h : IsPow p f e r) (hf : f.length ≤ 9) : r.length ≤ 8 := by have := h.deg; omega
theorem pow_poly {p : Int} {f r : List Int} {e : Nat} (p97 : p ≤ 97) (h : IsPow p f e r) (hf : f.length ≤ 9) : polyB r = true := mod_poly p97 (by have := h.deg; omega) h.mod
set_option maxHeartbeats 4000000 in
theorem l08Power_any (p : Int) (hs : smallB p = true) {oa o : Option Addr} {ca n c : Nat} {f : List Int} {w : World} (E0 : Nat) (hE : E0 ≤ 1000000000000) (ha : Seen w oa 2 ca [0, 1]) (h : Seen w o n c f) (hf : ModP p f) (h0 : f.length ≠ 0) (hn9 : n ≤ 9) :
    Calls Try.prog 117 #[.int .i64 p, .slice oa 2 ca, .int .i64 (E0 : Int), .slice o n c] w (OwnPost (powL p f E0) w) := by
  obtain ⟨p2, p97, pp⟩ := small_prime hs
  have hne : f ≠ [] := fun e => h0 (by rw [e]; rfl)
  have hfl : f.length ≤ 9 := by have := h.1; omega
  obtain ⟨k0, k1⟩ := pow_first p2 p97 pp hf hne
  have m1 : ModP p [1] := ⟨fun i => by
    match i with
    | 0 => exact ⟨by simp, by simp; omega⟩
    | i + 1 => simp; omega, by simp [lastB]⟩
  have mx := (pw_x p2 f).mod
  have HA := Lib.hid ha
  have HS := Lib.hid h
  have HF := Lib.hid (And.intro hf (And.intro h0 hne))
  have HREST := Lib.hid fun (wx : World) (o1 : Option Addr) (n1 c1 : Nat) (a : List Int) (h1 : Seen wx o1 n1 c1 a) (hx : Seen wx o n c f) (hm : ModP p a) (hn : n1 ≤ 20) => l08Rest_any p hs h1 hx hm hf h0 hn (by omega)
  have HMUL := Lib.hid fun (wx : World) (o1 o2 : Option Addr) (n1 n2 c1 c2 : Nat) (a b : List Int) (h1 : Seen wx o1 n1 c1 a) (h2 : Seen wx o2 n2 c2 b) (ha : polyB a = true) (hb : polyB b = true) => l08Mul_any p p2 p97 h1 h2 ha hb
  have HJ := Lib.hid fun (r s : List Int) (a b : Nat) (h1 : IsPow p f a r) (h2 : IsPow p f b s) => pow_join p2 p97 pp hf hne h1 h2
  have HMOD := Lib.hid fun (r s : List Int) => redL_mod (p := p) (by omega) (mulL r s)
  have HEQ := Lib.hid fun (r : List Int) (h : IsPow p f E0 r) => powL_eq p2 p97 pp hf hne h
  have HS1 := Lib.hid (seen_one w 1 2)
  have hb0 : Below w.heap.size w (w.alloc (.cells #[.int .i64 1] 2)) := (Below.refl w.heap.size w).alloc (Nat.le_refl _) _
  have HB0 := Lib.hid hb0
  have HSF := Lib.hid (seen_below h hb0)
  have HSA := Lib.hid (seen_below ha hb0)
  have K0 := Lib.hid k0
  have K1 := Lib.hid k1
  have M1 := Lib.hid m1
  have MX := Lib.hid mx
  clear ha h hf h0 hne k0 k1 m1 mx hb0 hs
  go_enter Try.func117, Try.ntmps117
  go_wp2_with fail
  refine (HREST.out _ _ _ _ _ HS1.out HSF.out M1.out (by omega)).mono ?_
  rintro e W2 ⟨v, rfl, hr, hb⟩
  obtain ⟨o1, c1, rfl⟩ := row_slice hr
  have HB2 := Lib.hid (HB0.out.trans (hb.mono HB0.out.size))
  have SF2 := Lib.hid (seen_below HSF.out hb)
  have SA2 := Lib.hid (seen_below HSA.out hb)
  have R2 := Lib.hid (intRow_lower hr HB0.out.size)
  clear hr hb HS1 HSF HSA HS HA
  go_wp2_with fail
  refine (HREST.out _ _ _ _ _ SA2.out SF2.out MX.out (by omega)).mono ?_
  rintro e W3 ⟨v, rfl, hr, hb⟩
  obtain ⟨o2, c2, rfl⟩ := row_slice hr
  have HB3 := Lib.hid (HB2.out.trans (hb.mono HB2.out.size))
  have SF3 := Lib.hid (seen_below SF2.out hb)
  have R3 := Lib.hid (row_below R2.out hb (Nat.le_refl _))
  have A3 := Lib.hid (intRow_lower hr HB2.out.size)
  clear hr hb SF2 SA2 R2 HB2
  go_wp2_with fail
  go_loopw [1, 2, 9] (fun va ve vo wr => ∃ (o1 o2 : Option Addr) (c1 c2 : Nat) (r s : List Int) (A B e : Nat), va = .slice o2 s.length c2 ∧ ve = .int .i64 (e : Int) ∧ vo = .slice o1 r.length c1 ∧ IntRow w.heap.size wr (.slice o1 r.length c1) r ∧ IntRow w.heap.size wr (.slice o2 s.length c2) s ∧ IsPow p f A r ∧ IsPow p f B s ∧ A + B * e = E0 ∧ e ≤ E0 ∧ Seen wr o n c f ∧ Below w.heap.size w wr) (fun _ ve _ _ => (intOf ve).toNat)
  case atStart => exact ⟨_, _, _, _, _, _, 0, 1, E0, rfl, rfl, rfl, R3.out, A3.out, K0.out, K1.out, by omega, Nat.le_refl _, SF3.out, HB3.out⟩
  case round =>
    obtain ⟨o1, o2, c1, c2, r, s, A, B, e, rfl, rfl, rfl, rr, rs, pr, ps, hE1, heE, sf, hb⟩ := hrel
    have R := Lib.hid rr
    have S := Lib.hid rs
    have SF := Lib.hid sf
    have HB := Lib.hid hb
    have PR := Lib.hid pr
    have PS := Lib.hid ps
    have HEE := Lib.hid hE1
    have lr := pow_len pr hfl
    have ls := pow_len ps hfl
    have SR := Lib.hid (row_seen rr (by omega))
    have SS := Lib.hid (row_seen rs (by omega))
    have QR := Lib.hid (pow_poly p97 pr hfl)
    have QS := Lib.hid (pow_poly p97 ps hfl)
    clear rr rs sf hb pr ps hE1 R3 A3 SF3 HB3 K0 K1 M1 MX HB0
    by_cases hz : e = 0
    · have HP := Lib.hid (HEQ.out r (by have h := PR.out; have h2 := HEE.out; rw [hz, Nat.mul_zero, Nat.add_zero] at h2; rw [← h2]; exact h))
      subst hz
      go_wp2_with fail
      go_ret
      rw [← HP.out]
      exact ⟨_, rfl, R.out, HB.out⟩
    · have hz' : (0 : Int) < (e : Int) := by omega
      have hh : (e : Int) / 2 = ((e / 2 : Nat) : Int) := by omega
      have hhb : e / 2 ≤ E0 := by omega
      have hlt : e / 2 < e := by omega
      have lss := prodL_le p s s
      have lrs := prodL_le p r s
      by_cases ho : e % 2 = 1
      · have HOD := Lib.hid (half_odd HEE.out ho)
        have hbit : ((e : Int) % 2 == 1) = true := by simp; omega
        obtain ⟨e2, he2⟩ : ∃ e2, e / 2 = e2 := ⟨_, rfl⟩
        rw [he2] at HOD hh hhb hlt
        clear he2 ho
        go_wp2_with fail
        refine (HMUL.out _ _ _ _ _ _ _ _ _ SR.out SS.out QR.out QS.out).mono ?_
        rintro ee W4 ⟨v4, rfl, hr4, hb4⟩
        obtain ⟨o4, c4, rfl⟩ := row_slice hr4
        have S4 := Lib.hid (row_seen hr4 (by omega))
        have SF4 := Lib.hid (seen_below SF.out hb4)
        have SS4 := Lib.hid (seen_below SS.out hb4)
        have RS4 := Lib.hid (row_below S.out hb4 (Nat.le_refl _))
        have HB4 := Lib.hid (HB.out.trans (hb4.mono HB.out.size))
        clear hr4 hb4 SR SS SF S R HB
        go_wp2_with fail
        refine (HREST.out _ _ _ _ _ S4.out SF4.out (HMOD.out r s) (by omega)).mono ?_
        rintro ee W5 ⟨v5, rfl, hr5, hb5⟩
        obtain ⟨o5, c5, rfl⟩ := row_slice hr5
        have SF5 := Lib.hid (seen_below SF4.out hb5)
        have SS5 := Lib.hid (seen_below SS4.out hb5)
        have HB5 := Lib.hid (HB4.out.trans (hb5.mono HB4.out.size))
        have R5 := Lib.hid (intRow_lower hr5 HB4.out.size)
        clear hr5 hb5 S4 SF4 SS4 RS4 HB4
        go_wp2_with fail
        refine (HMUL.out _ _ _ _ _ _ _ _ _ SS5.out SS5.out QS.out QS.out).mono ?_
        rintro ee W6 ⟨v6, rfl, hr6, hb6⟩
        obtain ⟨o6, c6, rfl⟩ := row_slice hr6
        have S6 := Lib.hid (row_seen hr6 (by omega))
        have SF6 := Lib.hid (seen_below SF5.out hb6)
        have R6 := Lib.hid (row_below R5.out hb6 (Nat.le_refl _))
        have HB6 := Lib.hid (HB5.out.trans (hb6.mono HB5.out.size))
        clear hr6 hb6 SF5 SS5 R5 HB5
        go_wp2_with fail
        refine (HREST.out _ _ _ _ _ S6.out SF6.out (HMOD.out s s) (by omega)).mono ?_
        rintro ee W7 ⟨v7, rfl, hr7, hb7⟩
        obtain ⟨o7, c7, rfl⟩ := row_slice hr7
        have SF7 := Lib.hid (seen_below SF6.out hb7)
        have R7 := Lib.hid (row_below R6.out hb7 (Nat.le_refl _))
        have A7 := Lib.hid (intRow_lower hr7 HB6.out.size)
        have HB7 := Lib.hid (HB6.out.trans (hb7.mono HB6.out.size))
        clear hr7 hb7 S6 SF6 R6 HB6
        go_wp2_with fail
        exact ⟨⟨_, _, _, _, _, _, A + B, B + B, e2, rfl, by first | rfl | rw [hh], rfl, R7.out, A7.out, HJ.out _ _ _ _ PR.out PS.out, HJ.out _ _ _ _ PS.out PS.out, HOD.out, hhb, SF7.out, HB7.out⟩, by simp only [intOf]; omega⟩
      · have HOD := Lib.hid (half_even HEE.out (by omega))
        have hbit : ((e : Int) % 2 == 1) = false := by simp; omega
        obtain ⟨e2, he2⟩ : ∃ e2, e / 2 = e2 := ⟨_, rfl⟩
        rw [he2] at HOD hh hhb hlt
        clear he2 ho
        go_wp2_with fail
        refine (HMUL.out _ _ _ _ _ _ _ _ _ SS.out SS.out QS.out QS.out).mono ?_
        rintro ee W6 ⟨v6, rfl, hr6, hb6⟩
        obtain ⟨o6, c6, rfl⟩ := row_slice hr6
        have S6 := Lib.hid (row_seen hr6 (by omega))
        have SF6 := Lib.hid (seen_below SF.out hb6)
        have R6 := Lib.hid (row_below R.out hb6 (Nat.le_refl _))
        have HB6 := Lib.hid (HB.out.trans (hb6.mono HB.out.size))
        clear hr6 hb6 SF SS R S HB
        go_wp2_with fail
        refine (HREST.out _ _ _ _ _ S6.out SF6.out (HMOD.out s s) (by omega)).mono ?_
        rintro ee W7 ⟨v7, rfl, hr7, hb7⟩
        obtain ⟨o7, c7, rfl⟩ := row_slice hr7
        have SF7 := Lib.hid (seen_below SF6.out hb7)
        have R7 := Lib.hid (row_below R6.out hb7 (Nat.le_refl _))
        have A7 := Lib.hid (intRow_lower hr7 HB6.out.size)
        have HB7 := Lib.hid (HB6.out.trans (hb7.mono HB6.out.size))
        clear hr7 hb7 S6 SF6 R6 HB6
        go_wp2_with fail
        exact ⟨⟨_, _, _, _, _, _, A, B + B, e2, rfl, by first | rfl | rw [hh], rfl, R7.out, A7.out, PR.out, HJ.out _ _ _ _ PS.out PS.out, HOD.out, hhb, SF7.out, HB7.out⟩, by simp only [intOf]; omega⟩
def pxC (p e : Int) (f : List Int) : Int := if modB p f then (if inB e 0 1000000000000 then (if f.length = 0 then 5 else 0) else 2) else 1
def pxQ (p e : Int) (f : List Int) : List Int := if pxC p e f = 0 then powL p f e.toNat else []
theorem pxC_zero {p e : Int} {f : List Int} (h : pxC p e f = 0) : modB p f = true ∧ 0 ≤ e ∧ e ≤ 1000000000000 ∧ f.length ≠ 0 := by
  unfold pxC at h
  split at h
  · rename_i hm
    rcases inB_cases e 0 1000000000000 with ⟨h1, h2, h3⟩ | ⟨h1, _⟩
    · rw [h1] at h
      by_cases h0 : f.length = 0
      · simp [h0] at h
      · exact ⟨hm, h2, h3, h0⟩
    · rw [h1] at h; simp at h
  · omega
theorem evM_rng {p : Int} (hp : 0 < p) (f : List Int) (x : Int) : ∀ j, 0 ≤ evM p f x j ∧ evM p f x j < p
  | 0 => ⟨Int.le_refl _, hp⟩
  | j + 1 => ⟨Int.emod_nonneg _ (by omega), Int.emod_lt_of_pos _ hp⟩
def rtC (p : Int) (f : List Int) : Int := if modB p f then (if f.length = 0 then 4 else 0) else 1
def rtQ (p : Int) (f : List Int) : List Int := if rtC p f = 0 then rootsN p f p.toNat else []
theorem l08Der_any (p : Int) (p2 : 2 ≤ p) (p97 : p ≤ 97) {o : Option Addr} {n c : Nat} {f : List Int} {w : World} (h : Seen w o n c f) (hp : polyB f = true) :
    Calls Try.prog 77 #[.int .i64 p, .slice o n c] w (OwnPost (redL p (derL f)) w) := by
  have HS := Lib.hid h
  have hm : (derL f).length ≤ 9 := by have := (polyB_of hp).1; rw [derL, tabL_length]; omega
  clear h
  go_enter Try.func77, Try.ntmps77
  go_wp2_with fail
  refine (l06Der_any HS.out hp).mono ?_
  rintro e w2 ⟨v, rfl, hr, hb⟩
  obtain ⟨o2, c2, rfl, HS2⟩ := seen_row hr (by omega)
  have HB := Lib.hid hb
  clear hr hb
  go_wp2_with fail
  refine (l08Reduce_any p p2 p97 HS2 (by omega)).mono ?_
  rintro e w3 ⟨v, rfl, hr3, hb3⟩
  have HR := Lib.hid (intRow_lower hr3 HB.out.size)
  have HB2 := Lib.hid (HB.out.trans (hb3.mono HB.out.size))
  clear hr3 hb3
  go_wp2_with fail
  go_ret
  exact ⟨_, rfl, HR.out, HB2.out⟩
def drC (p : Int) (f : List Int) : Int := if modB p f then 0 else 1
def drQ (p : Int) (f : List Int) : List Int := if modB p f then redL p (derL f) else []
def frC (p : Int) (f : List Int) : Int := if modB p f then 0 else 1
def frQ (p : Int) (f : List Int) : Bool := modB p f && freeB p f
end Go.Proofs.Ytidcpmhbkldpeaa
