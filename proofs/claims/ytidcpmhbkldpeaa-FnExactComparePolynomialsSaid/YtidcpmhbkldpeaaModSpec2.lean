/- Contracts of the walk: chapter 8 in spec: quotients and remainders, common divisors, powers of x. -/
import Derived.Test.YtidcpmhbkldpeaaModDivS
namespace Go.Proofs.Ytidcpmhbkldpeaa
open Go.RowKit
set_option linter.unusedVariables false
set_option linter.unusedSimpArgs false
set_option maxRecDepth 20000
def twC (p : Int) (f g : List Int) : Int := if twoM p f g then (if g.length = 0 then 5 else 0) else 1
def dvQ (p : Int) (f g : List Int) : List Int := if twC p f g = 0 then quoP p f g else []
def dvR (p : Int) (f g : List Int) : List Int := if twC p f g = 0 then remP p f g else []
theorem twC_zero {p : Int} {f g : List Int} (h : twC p f g = 0) : modB p f = true ∧ modB p g = true ∧ g.length ≠ 0 := by
  unfold twC at h
  split at h
  · rename_i ht
    split at h
    · omega
    · rename_i h0; exact ⟨(twoM_of ht).1, (twoM_of ht).2, h0⟩
  · omega
/-- two lists and a code -/
def Int2P (l m : List Int) (c : Int) (w : World) (e : Ending) (w' : World) : Prop :=
  ∃ v u, e = .returned (.tuple #[v, u, .int .i64 c]) ∧ IntRow w.heap.size w' v l ∧ IntRow w.heap.size w' u m ∧ Below w.heap.size w w' ∧ (v.ownBlock = none ∨ v.ownBlock ≠ u.ownBlock)
theorem l08Div_mod {p : Int} {o o' : Option Addr} {n n' c c' : Nat} {f g : List Int} {w : World} (hf : modB p f = true) (hg : modB p g = true) (h0 : g.length ≠ 0) (h : Seen w o n c f) (h' : Seen w o' n' c' g) :
    Calls Try.prog 78 #[.int .i64 p, .slice o n c, .slice o' n' c'] w (Own2Post (quoP p f g) (remP p f g) w) := by
  have F := modB_of hf
  have G := modB_of hg
  exact l08Div_any p (modB_small hf) h h' F.mod G.mod h0 (by have := h.1; have := F.len; omega) (by have := h'.1; have := G.len; omega)
theorem seen_one (w : World) (x : Int) (T : TypeId) : Seen (w.alloc (.cells #[.int .i64 x] T)) (some ⟨w.heap.size, 0, none⟩) 1 1 [x] := by
  refine ⟨rfl, by omega, fun h => (by cases h), Nat.le_refl _, w.heap.size, fun _ => ⟨rfl, by simp⟩, fun k hk => ?_⟩
  have e : k = 0 := by omega
  subst e
  rw [World.cell?_alloc_new]; rfl
theorem seen_two (w : World) (x y : Int) (T : TypeId) : Seen (w.alloc (.cells #[.int .i64 x, .int .i64 y] T)) (some ⟨w.heap.size, 0, none⟩) 2 2 [x, y] := by
  refine ⟨rfl, by omega, fun h => (by cases h), Nat.le_refl _, w.heap.size, fun _ => ⟨rfl, by simp⟩, fun k hk => ?_⟩
  have e : k = 0 ∨ k = 1 := by omega
  rcases e with e | e
  · subst e; rw [World.cell?_alloc_new]; rfl
  · subst e; rw [World.cell?_alloc_new]; rfl
theorem inv_poly {p : Int} {f : List Int} (p2 : 2 ≤ p) (p97 : p ≤ 97) (pp : PrimeP p) (hf : ModP p f) (h0 : f.length ≠ 0) : polyB [invP p f] = true := by
  have hi := invP_dvd p2 p97 pp hf (fun e => h0 (by rw [e]; rfl))
  have hn := prime_inv pp hi
  have hb := invP_lt (p := p) (g := f) p2
  generalize invP p f = x at *
  refine polyB_mk (by simp) (fun i hi => ?_) ?_
  · cases i with
    | zero => simp; omega
    | succ i => simp
  · have : ¬ x = 0 := fun e => hn (by rw [e]; exact Int.dvd_zero _)
    simpa [lastB] using this
set_option maxHeartbeats 1000000 in
theorem l08Monic_any (p : Int) (hs : smallB p = true) {o : Option Addr} {n c : Nat} {f : List Int} {w : World} (h : Seen w o n c f) (hf : ModP p f) (hn9 : n ≤ 9) :
    Calls Try.prog 59 #[.int .i64 p, .slice o n c] w (OwnPost (monP p f) w) := by
  obtain ⟨p2, p97, pp⟩ := small_prime hs
  have HS := Lib.hid h
  obtain ⟨hl, hn, hno, hnc, g, h1, h2⟩ := h
  by_cases h0 : n = 0
  · have HE := Lib.hid (show monP p f = [] by unfold monP; rw [if_pos (by omega)])
    have HR := Lib.hid (intRow_made w)
    have HB := Lib.hid ((Below.refl w.heap.size w).alloc (Nat.le_refl _) (.cells #[] 2))
    clear hno h1 h2 hl hs
    subst h0
    go_enter Try.func59, Try.ntmps59
    go_wp2_with fail
    go_ret
    rw [HE.out]
    exact ⟨_, rfl, HR.out, HB.out⟩
  · obtain ⟨rfl, hag⟩ := h1 (by omega)
    have b1 := h2 (n - 1) (by omega)
    have hn1 : (n : Int) - 1 = ((n - 1 : Nat) : Int) := by omega
    have h0' : ((n : Int) == 0) = false := by simp; omega
    have hlast := hf.rng (n - 1)
    have HV := Lib.hid (show invP p f = bezX (f.getD (n - 1) 0) p % p by unfold invP; rw [← hl])
    have hip := inv_poly p2 p97 pp hf (by omega)
    have hfp := mod_poly p97 (by omega) hf
    have HE := Lib.hid (show prodL p f [invP p f] = monP p f by unfold monP prodL; rw [if_neg (by omega)])
    generalize hla : f.getD (n - 1) 0 = la at *
    obtain ⟨la0, la1⟩ := hlast
    obtain ⟨iv, hiv⟩ : ∃ x, invP p f = x := ⟨_, rfl⟩
    rw [hiv] at HV HE hip
    have HM := Lib.hid fun (wx : World) (o' : Option Addr) (h : Seen wx (some ⟨g, 0, none⟩) n c f) (h' : Seen wx o' 1 1 [iv]) => l08Mul_any p p2 p97 h h' hfp hip
    have HS1 := Lib.hid (seen_below HS.out ((Below.refl w.heap.size w).alloc (Nat.le_refl _) (.cells #[.int .i64 iv] 2)))
    have HO1 := Lib.hid (seen_one w iv 2)
    have HB1 := Lib.hid ((Below.refl w.heap.size w).alloc (Nat.le_refl _) (.cells #[.int .i64 iv] 2))
    clear hno h1 h2 hl hn hs hf hip hfp hla hiv pp HS
    go_enter Try.func59, Try.ntmps59
    go_wp2_with fail
    refine (l02Inv8_any la p w la0 la1 p2 (by omega)).mono ?_
    rw [← HV.out]
    rintro e w2 ⟨rfl, rfl⟩
    go_wp2_with fail
    refine (HM.out _ _ HS1.out HO1.out).mono ?_
    rintro e w3 ⟨v, rfl, hr, hb⟩
    have HR := Lib.hid (intRow_lower hr HB1.out.size)
    have HB := Lib.hid (HB1.out.trans (hb.mono HB1.out.size))
    clear hr hb
    go_wp2_with fail
    go_ret
    rw [← HE.out]
    exact ⟨_, rfl, HR.out, HB.out⟩
def lenV : Value → Nat
  | .slice _ n _ => n
  | _ => 0
set_option maxHeartbeats 1600000 in
theorem l08Common_any (p : Int) (hs : smallB p = true) {o o' : Option Addr} {n n' c c' : Nat} {f g : List Int} {w : World} (h : Seen w o n c f) (h' : Seen w o' n' c' g) (hf : ModP p f) (hg : ModP p g) (hn : n ≤ 9) (hn' : n' ≤ 9) :
    Calls Try.prog 79 #[.int .i64 p, .slice o n c, .slice o' n' c'] w (OwnPost (gcdL p f g) w) := by
  obtain ⟨p2, p97, pp⟩ := small_prime hs
  have H0 := Lib.hid (And.intro h (And.intro h' (And.intro hf hg)))
  clear h h' hf hg
  go_enter Try.func79, Try.ntmps79
  go_wp2_with fail
  go_loopw [1, 2] (fun vf vg wr => ∃ (o1 : Option Addr) (n1 c1 : Nat) (F : List Int) (o2 : Option Addr) (n2 c2 : Nat) (G : List Int), vf = .slice o1 n1 c1 ∧ vg = .slice o2 n2 c2 ∧ Seen wr o1 n1 c1 F ∧ Seen wr o2 n2 c2 G ∧ ModP p F ∧ ModP p G ∧ n1 ≤ 9 ∧ n2 ≤ 9 ∧ gcdL p F G = gcdL p f g ∧ Below w.heap.size w wr) (fun _ vg _ => lenV vg)
  case atStart => exact ⟨o, n, c, f, o', n', c', g, rfl, rfl, H0.out.1, H0.out.2.1, H0.out.2.2.1, H0.out.2.2.2, hn, hn', rfl, Below.refl _ _⟩
  case round =>
    obtain ⟨o1, n1, c1, F, o2, n2, c2, G, rfl, rfl, s1, s2, m1, m2, l1, l2, hgc, hb⟩ := hrel
    have S1 := Lib.hid s1
    have S2 := Lib.hid s2
    have HB := Lib.hid hb
    have HG := Lib.hid hgc
    have HL2 := Lib.hid s2.1
    clear s1 s2 hb hgc H0
    by_cases h0 : n2 = 0
    · have HE := Lib.hid (show monP p F = gcdL p f g by rw [← HG.out]; exact (gcdL_end (by have := HL2.out; omega)).symm)
      have HM := Lib.hid (l08Monic_any p hs S1.out m1 l1)
      clear m1 m2
      subst h0
      go_wp2_with fail
      refine HM.out.mono ?_
      rintro e w3 ⟨v, rfl, hr, hb⟩
      have HR := Lib.hid (intRow_lower hr HB.out.size)
      have HB2 := Lib.hid (HB.out.trans (hb.mono HB.out.size))
      clear hr hb
      go_wp2_with fail
      go_ret
      rw [← HE.out]
      exact ⟨_, rfl, HR.out, HB2.out⟩
    · have h0' : (0 : Int) < (n2 : Int) := by omega
      have hG0 : G.length ≠ 0 := by have := HL2.out; omega
      have HD := Lib.hid (l08Div_any p hs S1.out S2.out m1 m2 hG0 (by omega) (by omega))
      have HST := Lib.hid (gcdL_step p2 p97 pp m1 m2 hG0)
      have hd := divP_is p2 p97 pp m1 m2 (fun e => hG0 (by rw [e]; rfl))
      have HDD := Lib.hid (And.intro hd.mr hd.deg)
      have HM2 := Lib.hid m2
      clear m1 m2 hd hG0
      go_wp2_with fail
      refine HD.out.mono ?_
      rintro e w3 ⟨v, u, rfl, hq, hr, hb, hap⟩
      obtain ⟨o3, c3, rfl⟩ := row_slice hq
      obtain ⟨o4, c4, rfl⟩ := row_slice hr
      have HR := Lib.hid (row_seen hr (by have := HDD.out.2; have := HL2.out; omega))
      have S3 := Lib.hid (seen_below S2.out hb)
      have HB2 := Lib.hid (HB.out.trans (hb.mono HB.out.size))
      clear hq hr hb hap HD S1 S2
      go_wp2_with fail
      exact ⟨⟨o2, n2, c2, G, o4, (remP p F G).length, c4, remP p F G, rfl, rfl, S3.out, HR.out, HM2.out, HDD.out.1, l2, by have := HDD.out.2; have := HL2.out; omega, by rw [← HST.out]; exact HG.out, HB2.out⟩, by simp only [lenV]; have := HDD.out.2; have := HL2.out; omega⟩
def cmC (p : Int) (f g : List Int) : Int := if twoM p f g then 0 else 1
def cmQ (p : Int) (f g : List Int) : List Int := if twoM p f g then gcdL p f g else []
end Go.Proofs.Ytidcpmhbkldpeaa
