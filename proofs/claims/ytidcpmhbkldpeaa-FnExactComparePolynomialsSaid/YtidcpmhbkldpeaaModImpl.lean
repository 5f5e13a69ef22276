/- Contracts of the walk: chapter 8 in impl: checks, remainders of coefficients, products, derivatives. -/
import Derived.Test.YtidcpmhbkldpeaaModSpec3
namespace Go.Proofs.Ytidcpmhbkldpeaa
open Go.RowKit
set_option linter.unusedVariables false
set_option linter.unusedSimpArgs false
set_option maxRecDepth 20000
theorem box8 {w w1 : World} {o : Obj} (hb : Below (w.alloc o).heap.size (w.alloc o) w1) : Below w.heap.size w w1 := ((Below.refl _ _).alloc (Nat.le_refl _) _).trans (hb.mono (by simp))
theorem box8_cells {w w1 : World} {a b : Value} {T : TypeId} (hb : Below (w.alloc (.cells #[a, b] T)).heap.size (w.alloc (.cells #[a, b] T)) w1) :
    w1.cell? ⟨w.heap.size, 0, none⟩ = some a ∧ w1.cell? ⟨w.heap.size, 1, none⟩ = some b := by
  constructor
  · rw [hb.cell (by simp)]; exact World.cell?_alloc_new _ _ _ _ ▸ rfl
  · rw [hb.cell (by simp)]; exact World.cell?_alloc_new _ _ _ _ ▸ rfl
theorem below_a8 (w : World) (o : Obj) : Below w.heap.size w (w.alloc o) := (Below.refl _ _).alloc (Nat.le_refl _) _
theorem row_len {b n c : Nat} {o : Option Addr} {w : World} {l : List Int} (h : IntRow b w (.slice o n c) l) : l.length = n := by
  rcases h.2 with ⟨e, h0⟩ | ⟨g, cap, cur, e, _⟩
  · injection e with e1 e2 e3; omega
  · injection e with e1 e2 e3; exact e2.symm
theorem trim_row {b n c : Nat} {o : Option Addr} {w : World} {l : List Int} (h : IntRow b w (.slice o n c) l) : IntRow b w (.slice o (trimN l l.length) c) (trimL l) :=
  row_cut h (by rw [← row_len h]; exact trimN_le _ _)
/-! checks -/
def chkC (p : Int) (l : List Int) : Int := if smallB p then (if resB p l then 0 else 2) else 1
set_option maxHeartbeats 1000000 in
theorem checkAll_any (p : Int) {o : Option Addr} {n c : Nat} {l : List Int} {w : World} (h : Seen w o n c l) :
    Calls Try.prog 64 #[R1 p, .slice o n c] w fun e w' => e = .returned (.int .i64 (chkC p l)) ∧ Below w.heap.size w w' := by
  obtain ⟨hl, hn, hno, hnc, g, h1, h2⟩ := h
  have HO := Lib.hid h1
  have HL := Lib.hid hl
  have HC := Lib.hid h2
  clear h1 h2 hl hno hnc
  cases hs : smallB p
  · have h0 := ringM_small (n := 1) hs
    have HP := Lib.hid (show chkC p l = 1 by simp [chkC, hs])
    have HM := Lib.hid fun w => implModulus_any p 1 w
    rw [h0] at HM
    clear h0
    go_enter Try.func64, Try.ntmps64
    go_wp2_with fail
    refine (HM.out _).mono ?_
    rintro e w1 ⟨rfl, hb⟩
    have HB := Lib.hid (box8 hb)
    clear hb HM
    go_wp2_with fail
    go_ret
    rw [HP.out]; exact ⟨rfl, HB.out⟩
  · obtain ⟨p2, p97⟩ := smallB_bd hs
    have hpz : (p == 0) = false := by simp; omega
    have HM := Lib.hid fun w => modulus8_any p hs w
    go_enter Try.func64, Try.ntmps64
    go_wp2_with fail
    refine (HM.out _).mono ?_
    rintro e w1 ⟨rfl, hb⟩
    have HB := Lib.hid (box8 hb)
    clear hb HM
    go_wp2_with fail
    go_loop [14] (fun i => ∃ k : Nat, k ≤ n ∧ i = .int .i64 k ∧ resB p (l.take k) = true) (fun i => n - (intOf i).toNat)
    case atStart => exact ⟨0, Nat.zero_le _, rfl, by simp [resB]⟩
    case round =>
      obtain ⟨k, hk, rfl, hall⟩ := hrel
      by_cases hlt : k < n
      · have hkl : k < l.length := by have := HL.out; omega
        obtain ⟨hog, hgl⟩ := HO.out (by omega)
        subst hog
        have a2 : w1.cell? ⟨g, k, none⟩ = some (.int .i64 (l.getD k 0)) := by rw [HB.out.cell (p := ⟨g, k, none⟩) hgl]; exact HC.out k hlt
        have HA := Lib.hid (all_take6 (f := fun x => inB x 0 (p - 1)) hkl)
        have HFA := Lib.hid (fun h : inB (l.getD k 0) 0 (p - 1) = false => (show chkC p l = 2 by
          rw [chkC, hs, show resB p l = false from all_false hkl h]; rfl))
        have HTR := Lib.hid (fun h : inB (l.getD k 0) 0 (p - 1) = true => (show resB p (l.take (k + 1)) = true by
          unfold resB at hall ⊢; rw [HA.out, hall]; simpa using h))
        have hkn : (k : Int) < (n : Int) := by omega
        generalize l.getD k 0 = x at *
        clear hkl hall hgl HA
        by_cases hx0 : x < 0
        · have HP := Lib.hid (HFA.out (inB_f (.inl hx0)))
          go_wp2_with fail
          go_ret
          rw [HP.out]; exact ⟨rfl, HB.out⟩
        · by_cases hx1 : p ≤ x
          · have HP := Lib.hid (HFA.out (inB_f (.inr (by omega))))
            go_wp2_with fail
            go_ret
            rw [HP.out]; exact ⟨rfl, HB.out⟩
          · have HP := Lib.hid (HTR.out (inB_t (by omega) (by omega)))
            go_wp2_with fail
            exact ⟨⟨k + 1, by omega, by go_num, HP.out⟩, by simp [intOf]; omega⟩
      · have hkn : k = n := by omega
        rw [hkn, HL.out, List.take_of_length_le (Nat.le_refl _)] at hall
        have HP := Lib.hid (show chkC p l = 0 by simp [chkC, hs, hall])
        clear hlt hall
        subst hkn
        go_wp2_with fail
        go_ret
        rw [HP.out]; exact ⟨rfl, HB.out⟩
theorem modB_can (p : Int) (f : List Int) : modB p f = (canB f && (chkC p f == 0)) := by
  rw [modB_eq]
  unfold canB chkC
  cases smallB p <;> cases resB p f <;> cases lastB f <;> cases decide (f.length ≤ 9) <;> rfl
theorem hasPoly_any (p : Int) {o : Option Addr} {n c : Nat} {f : List Int} {w : World} (h : Seen w o n c f) :
    Calls Try.prog 65 #[R1 p, .slice o n c] w fun e w' => e = .returned (.bool (modB p f)) ∧ Below w.heap.size w w' := by
  have HP := Lib.hid (modB_can p f)
  have hb1 := below_a8 w (.cells #[.int .i64 p, .int .i64 1] 47)
  have HB1 := Lib.hid hb1
  have HS := Lib.hid (seen_below h hb1)
  have HC := Lib.hid (checkAll_any p HS.out)
  clear h hb1
  cases hc : canB f
  · rw [hc] at HP
    go_enter Try.func65, Try.ntmps65
    go_wp2_with fail
    refine (canBe_any HS.out).mono ?_
    rw [hc]
    rintro e w2 ⟨rfl, rfl⟩
    go_wp2_with fail
    go_ret
    rw [HP.out]; exact ⟨rfl, HB1.out⟩
  · rw [hc] at HP
    go_enter Try.func65, Try.ntmps65
    go_wp2_with fail
    refine (canBe_any HS.out).mono ?_
    rw [hc]
    rintro e w2 ⟨rfl, rfl⟩
    go_wp2_with fail
    refine HC.out.mono ?_
    rintro e w3 ⟨rfl, hb⟩
    have HB := Lib.hid (box8 hb)
    clear hb HC
    generalize chkC p f = x at *
    go_wp2_with fail
    go_ret
    rw [HP.out]; exact ⟨by first | rfl | simp, HB.out⟩
def okC (p : Int) (f : List Int) : Int := if modB p f then 0 else 1
def okC2 (p : Int) (f g : List Int) : Int := if twoM p f g then 0 else 1
set_option maxHeartbeats 1000000 in
theorem checkPoly1 (p : Int) {b : Nat} {of : Option Addr} {nf cf : Nat} {f : List Int} {w : World} (hf : Seen w of nf cf f) (df : w.cell? ⟨b, 0, none⟩ = some (.slice of nf cf)) (hlt : b < w.heap.size) :
    Calls Try.prog 54 #[R1 p, .slice (some ⟨b, 0, none⟩) 1 1] w fun e w' => e = .returned (.int .i64 (okC p f)) ∧ Below w.heap.size w w' := by
  have hb1 := below_a8 w (.cells #[.int .i64 p, .int .i64 1] 47)
  have HH := Lib.hid (hasPoly_any p (seen_below hf hb1))
  have d1 : (w.alloc (.cells #[.int .i64 p, .int .i64 1] 47)).cell? ⟨b, 0, none⟩ = some (.slice of nf cf) := by rw [hb1.cell (p := ⟨b, 0, none⟩) hlt]; exact df
  clear hf df hb1
  cases hm : modB p f
  · have HP := Lib.hid (show okC p f = 1 by simp [okC, hm])
    rw [hm] at HH
    go_enter Try.func54, Try.ntmps54
    go_wp2_with fail
    refine wp_loop_rounds 2 ?_
    rw [rounds_succ]
    go_wp2_with fail
    refine HH.out.mono ?_
    rintro e w2 ⟨rfl, hb⟩
    have HB := Lib.hid (box8 hb)
    clear hb HH
    go_wp2_with fail
    go_ret
    rw [HP.out]; exact ⟨rfl, HB.out⟩
  · have HP := Lib.hid (show okC p f = 0 by simp [okC, hm])
    rw [hm] at HH
    go_enter Try.func54, Try.ntmps54
    go_wp2_with fail
    refine wp_loop_rounds 2 ?_
    rw [rounds_succ]
    go_wp2_with fail
    refine HH.out.mono ?_
    rintro e w2 ⟨rfl, hb⟩
    have HB := Lib.hid (box8 hb)
    clear hb HH
    go_wp2_with fail
    rw [rounds_succ]
    go_wp2_with fail
    go_ret
    rw [HP.out]; exact ⟨rfl, HB.out⟩
set_option maxHeartbeats 1000000 in
theorem checkPoly2 (p : Int) {b : Nat} {of : Option Addr} {nf cf : Nat} {f : List Int} {og : Option Addr} {ng cg : Nat} {g : List Int} {w : World} (hf : Seen w of nf cf f) (df : w.cell? ⟨b, 0, none⟩ = some (.slice of nf cf)) (hg : Seen w og ng cg g) (dg : w.cell? ⟨b, 1, none⟩ = some (.slice og ng cg)) (hlt : b < w.heap.size) :
    Calls Try.prog 54 #[R1 p, .slice (some ⟨b, 0, none⟩) 2 2] w fun e w' => e = .returned (.int .i64 (okC2 p f g)) ∧ Below w.heap.size w w' := by
  have hb1 := below_a8 w (.cells #[.int .i64 p, .int .i64 1] 47)
  have hs1 : b < (w.alloc (.cells #[.int .i64 p, .int .i64 1] 47)).heap.size := by simp; omega
  have HH := Lib.hid (hasPoly_any p (seen_below hf hb1))
  have SG := Lib.hid (seen_below hg hb1)
  have d1 : (w.alloc (.cells #[.int .i64 p, .int .i64 1] 47)).cell? ⟨b, 0, none⟩ = some (.slice of nf cf) := by rw [hb1.cell (p := ⟨b, 0, none⟩) hlt]; exact df
  have D2 := Lib.hid (show (w.alloc (.cells #[.int .i64 p, .int .i64 1] 47)).cell? ⟨b, 1, none⟩ = some (.slice og ng cg) by rw [hb1.cell (p := ⟨b, 1, none⟩) hlt]; exact dg)
  clear hf df hg dg hb1
  cases hm : modB p f
  · have HP := Lib.hid (show okC2 p f g = 1 by simp [okC2, twoM, hm])
    rw [hm] at HH
    go_enter Try.func54, Try.ntmps54
    go_wp2_with fail
    refine wp_loop_rounds 3 ?_
    rw [rounds_succ]
    go_wp2_with fail
    refine HH.out.mono ?_
    rintro e w2 ⟨rfl, hb⟩
    have HB := Lib.hid (box8 hb)
    clear hb HH
    go_wp2_with fail
    go_ret
    rw [HP.out]; exact ⟨rfl, HB.out⟩
  · have HP := Lib.hid (show okC2 p f g = if modB p g then 0 else 1 by simp [okC2, twoM, hm])
    rw [hm] at HH
    go_enter Try.func54, Try.ntmps54
    go_wp2_with fail
    refine wp_loop_rounds 3 ?_
    rw [rounds_succ]
    go_wp2_with fail
    refine HH.out.mono ?_
    rintro e w2 ⟨rfl, hb⟩
    have d2 : w2.cell? ⟨b, 1, none⟩ = some (.slice og ng cg) := by rw [hb.cell (p := ⟨b, 1, none⟩) hs1]; exact D2.out
    obtain ⟨c0, c1⟩ := box8_cells hb
    have HG := Lib.hid (hasPoly_any p (seen_below SG.out hb))
    have HB := Lib.hid (box8 hb)
    clear hb HH SG D2 d1
    go_wp2_with fail
    rw [rounds_succ]
    go_wp2_with fail
    refine HG.out.mono ?_
    rintro e w3 ⟨rfl, hb⟩
    have HB3 := Lib.hid (HB.out.trans (hb.mono HB.out.size))
    clear hb HG c0 c1 d2
    cases hg : modB p g
    · rw [hg] at HP
      go_wp2_with fail
      go_ret
      rw [HP.out]; exact ⟨rfl, HB3.out⟩
    · rw [hg] at HP
      go_wp2_with fail
      rw [rounds_succ]
      go_wp2_with fail
      go_ret
      rw [HP.out]; exact ⟨rfl, HB3.out⟩
/-! remainders of coefficients -/
theorem red_step {p : Int} {l : List Int} {n k : Nat} (hk : k < n) : (tabL n fun i => if i < k then l.getD i 0 % p else 0).set k (l.getD k 0 % p) = tabL n fun i => if i < k + 1 then l.getD i 0 % p else 0 := by
  rw [tab_set _ hk]
  refine tabL_ext fun i hi => ?_
  by_cases e : i = k
  · rw [if_pos e, if_pos (by omega), e]
  · rw [if_neg e]
    by_cases h2 : i < k
    · rw [if_pos h2, if_pos (by omega)]
    · rw [if_neg h2, if_neg (by omega)]
set_option maxHeartbeats 2000000 in
theorem reduced_any (p : Int) (hs : smallB p = true) {o : Option Addr} {n c : Nat} {l : List Int} {w : World} (h : Seen w o n c l) (hn9 : n ≤ 1000) :
    Calls Try.prog 94 #[R1 p, .slice o n c] w (OwnPost (redL p l) w) := by
  obtain ⟨p2, p97⟩ := smallB_bd hs
  obtain ⟨hl, hn, hno, hnc, g, h1, h2⟩ := h
  obtain ⟨i0, hi, hz0, hz1, hz2⟩ := info_parts Try.infoInt64
  have HI := Lib.hid hi
  have HZ0 := Lib.hid hz0
  have HZ1 := Lib.hid hz1
  have HZ2 := Lib.hid hz2
  have HO := Lib.hid h1
  have HL := Lib.hid hl
  have HC := Lib.hid h2
  have HM := Lib.hid fun w => modulus8_any p hs w
  clear hi hz0 hz1 hz2 h1 h2 hl hno hnc hs
  go_enter Try.func94, Try.ntmps94
  go_wp2_with fail
  refine (HM.out _).mono ?_
  rintro e w1 ⟨rfl, hb⟩
  have hb1 := box8 hb
  have HB1 := Lib.hid hb1
  have hbs := hb1.size
  clear hb HM hb1
  go_upto_region 2 with fail
  go_wp2_with (at_make; refine wpList_make_full _ rfl (.tmp 12) (.tmp 12) 22 rfl w1.heap.size 2 i0 (.int .i64 0) 1 Try.underlying22 HI.out HZ0.out HZ1.out .i64 .i64 _ _ n rfl rfl rfl rfl (by rw [HZ2.out]; omega) (by unfold maxLen; omega) (Nat.le_refl _) ?_; intro w2 hown hgrow)
  have HB2 := Lib.hid (HB1.out.grown hgrow hbs (fun k h => by cases h))
  have HR2 := Lib.hid (show IntRow w1.heap.size w2 (.slice (some ⟨w1.heap.size, 0, none⟩) n n) (tabL n fun i => if i < 0 then l.getD i 0 % p else 0) from int_made hown)
  generalize w1.heap.size = Q at *
  clear hown hgrow HB1
  go_wp2_with fail
  go_loopw [16] (fun s wr => ∃ k : Nat, k ≤ n ∧ s = .int .i64 k ∧ IntRow Q wr (.slice (some ⟨Q, 0, none⟩) n n) (tabL n fun i => if i < k then l.getD i 0 % p else 0) ∧ Below w.heap.size w wr) (fun s _ => n - (intOf s).toNat)
  case atStart => exact ⟨0, Nat.zero_le _, rfl, HR2.out, HB2.out⟩
  case round =>
    obtain ⟨k, hk, rfl, hr, hb⟩ := hrel
    have HR := Lib.hid hr
    have HB := Lib.hid hb
    clear hr hb HR2 HB2
    by_cases hlt : k < n
    · obtain ⟨hog, hgl⟩ := HO.out (by omega)
      subst hog
      have a2 : wr.cell? ⟨g, k, none⟩ = some (.int .i64 (l.getD k 0)) := by rw [HB.out.cell (p := ⟨g, k, none⟩) hgl]; exact HC.out k hlt
      have hrl : (tabL n fun i => if i < k then l.getD i 0 % p else 0).length = n := tabL_length _ _
      have c2 := int_at HR.out hrl hlt
      have f2 := int_frozen HR.out hrl k
      have HE := Lib.hid (red_step (p := p) (l := l) hlt)
      have HR3 := Lib.hid (int_stored HR.out hrl k (l.getD k 0 % p))
      have HB3 := Lib.hid (HB.out.setCell (p := ⟨Q, k, none⟩) hbs (.int .i64 (l.getD k 0 % p)))
      rw [HE.out] at HR3
      have hkn : (k : Int) < (n : Int) := by omega
      obtain ⟨y0, hy0⟩ : ∃ y, (tabL n fun i => if i < k then l.getD i 0 % p else 0).getD k 0 = y := ⟨_, rfl⟩
      rw [hy0] at c2
      clear hgl HE HR HB hy0 hrl
      generalize l.getD k 0 = z at *
      go_wp2_with fail
      refine (remainder8_any z p wr p2 (by omega)).mono ?_
      rintro e w3 ⟨rfl, rfl⟩
      go_wp2_with fail
      exact ⟨⟨k + 1, by omega, by go_num, HR3.out, HB3.out⟩, by simp only [intOf]; omega⟩
    · have hkn : k = n := by omega
      have HT := Lib.hid (show trimL (tabL n fun i => if i < k then l.getD i 0 % p else 0) = redL p l by
        unfold redL
        rw [← HL.out]
        congr 1
        exact tabL_ext fun i hi => by rw [if_pos (by omega)])
      have hrl : (tabL n fun i => if i < k then l.getD i 0 % p else 0).length = n := tabL_length _ _
      have SR := Lib.hid (show Seen wr (some ⟨Q, 0, none⟩) n n (tabL n fun i => if i < k then l.getD i 0 % p else 0) by
        have h := row_seen (o := some ⟨Q, 0, none⟩) (n := (tabL n fun i => if i < k then l.getD i 0 % p else 0).length) (c := n) (by rw [hrl]; exact HR.out) (by rw [hrl]; omega)
        rw [hrl] at h; exact h)
      have HR3 := Lib.hid (intRow_lower (trim_row HR.out) hbs)
      rw [HT.out] at HR3
      generalize (tabL n fun i => if i < k then l.getD i 0 % p else 0) = rl at *
      clear HT hrl HR
      go_wp2_with fail
      refine (trimmed_any SR.out).mono ?_
      rintro e w3 ⟨rfl, rfl⟩
      go_wp2_with fail
      go_ret
      exact ⟨_, rfl, HR3.out, HB.out⟩
/-! products -/
set_option maxHeartbeats 4000000 in
theorem product_any (p : Int) (hs : smallB p = true) {o o' : Option Addr} {n n' c c' : Nat} {f g : List Int} {w : World} (h : Seen w o n c f) (h' : Seen w o' n' c' g) (hf : ModP p f) (hg : ModP p g) (hn9 : n ≤ 20) (hn9' : n' ≤ 20) :
    Calls Try.prog 66 #[R1 p, .slice o n c, .slice o' n' c'] w (OwnPost (prodL p f g) w) := by
  obtain ⟨p2, p97⟩ := smallB_bd hs
  obtain ⟨hl, hn, hno, hnc, a, h1, h2⟩ := h
  obtain ⟨hl', hn', hno', hnc', a', h1', h2'⟩ := h'
  obtain ⟨i0, hi, hz0, hz1, hz2⟩ := info_parts Try.infoInt64
  have HI := Lib.hid hi
  have HZ0 := Lib.hid hz0
  have HZ1 := Lib.hid hz1
  have HZ2 := Lib.hid hz2
  have HO := Lib.hid h1
  have HO' := Lib.hid h1'
  have HL := Lib.hid (And.intro hl hl')
  have HC := Lib.hid h2
  have HC' := Lib.hid h2'
  have HF := Lib.hid hf
  have HG := Lib.hid hg
  have hpz : (p == 0) = false := by simp; omega
  have HM := Lib.hid fun w => modulus8_any p hs w
  obtain ⟨N, hN⟩ : ∃ N, n + n' = N := ⟨_, rfl⟩
  have hN1 : (n : Int) + (n' : Int) = (N : Int) := by omega
  have HN := Lib.hid hN
  have hN17 : N ≤ 40 := by omega
  clear hi hz0 hz1 hz2 h1 h2 hl hno hnc h1' h2' hl' hno' hnc' hf hg hs hN
  go_enter Try.func66, Try.ntmps66
  go_wp2_with fail
  refine (HM.out _).mono ?_
  rintro e w1 ⟨rfl, hb⟩
  have hb1 := box8 hb
  have HB1 := Lib.hid hb1
  have hbs := hb1.size
  clear hb HM hb1
  go_upto_region 2 with fail
  go_wp2_with (at_make; refine wpList_make_full _ rfl (.tmp 19) (.tmp 19) 22 rfl w1.heap.size 2 i0 (.int .i64 0) 1 Try.underlying22 HI.out HZ0.out HZ1.out .i64 .i64 _ _ N rfl rfl rfl rfl (by rw [HZ2.out]; omega) (by unfold maxLen; omega) (Nat.le_refl _) ?_; intro w2 hown hgrow)
  have HB2 := Lib.hid (HB1.out.grown hgrow hbs (fun k h => by cases h))
  have HR2 := Lib.hid (show IntRow w1.heap.size w2 (.slice (some ⟨w1.heap.size, 0, none⟩) N N) (mulY p f g N 0 0) by rw [mulY_start]; exact int_made hown)
  generalize w1.heap.size = Q at *
  clear hown hgrow HB1 hN1
  go_wp2_with fail
  go_loopw [23] (fun s wr => ∃ i : Nat, i ≤ n ∧ s = .int .i64 i ∧ IntRow Q wr (.slice (some ⟨Q, 0, none⟩) N N) (mulY p f g N i 0) ∧ Below w.heap.size w wr) (fun s _ => n - (intOf s).toNat)
  case atStart => exact ⟨0, Nat.zero_le _, rfl, HR2.out, HB2.out⟩
  case round =>
    obtain ⟨i, hi, rfl, hr, hb⟩ := hrel
    have HR := Lib.hid hr
    have HB := Lib.hid hb
    clear hr hb HR2 HB2
    by_cases hlt : i < n
    · obtain ⟨hog, hgl⟩ := HO.out (by omega)
      subst hog
      have a2 : wr.cell? ⟨a, i, none⟩ = some (.int .i64 (f.getD i 0)) := by rw [HB.out.cell (p := ⟨a, i, none⟩) hgl]; exact HC.out i hlt
      have HX := Lib.hid (HF.out.rng i)
      have hin : (i : Int) < (n : Int) := by omega
      obtain ⟨x, hx⟩ : ∃ x, f.getD i 0 = x := ⟨_, rfl⟩
      rw [hx] at a2 HX
      have HFX := Lib.hid hx
      clear hgl hx
      go_wp2_with fail
      go_loopw [30] (fun s wr => ∃ k : Nat, k ≤ n' ∧ s = .int .i64 k ∧ IntRow Q wr (.slice (some ⟨Q, 0, none⟩) N N) (mulY p f g N i k) ∧ Below w.heap.size w wr) (fun s _ => n' - (intOf s).toNat)
      case atStart => exact ⟨0, Nat.zero_le _, rfl, HR.out, HB.out⟩
      case round =>
        obtain ⟨k, hk, rfl, hr, hb⟩ := hrel
        have HR2 := Lib.hid hr
        have HB2 := Lib.hid hb
        clear hr hb HR HB a2
        by_cases hltk : k < n'
        · obtain ⟨m, hm⟩ : ∃ m, i + k = m := ⟨_, rfl⟩
          have hmN : m < N := by have := HN.out; omega
          have hik : (i : Int) + (k : Int) = (m : Int) := by omega
          have hwm : IntKind.i64.wrap (m : Int) = (m : Int) := IntWalk.i64_in _ (by omega)
          obtain ⟨hog', hgl'⟩ := HO'.out (by omega)
          subst hog'
          have b2 : wr.cell? ⟨a', k, none⟩ = some (.int .i64 (g.getD k 0)) := by rw [HB2.out.cell (p := ⟨a', k, none⟩) hgl']; exact HC'.out k hltk
          have hsl := mulY_length p f g N i k
          have c4 := int_at HR2.out hsl hmN
          rw [mulY_at hmN] at c4
          have f4 := int_frozen HR2.out hsl m
          have HE := Lib.hid (mulY_step (p := p) (f := f) (g := g) hmN hm)
          have hs0 : 0 ≤ mulW f g i k m % p ∧ mulW f g i k m % p < p := ⟨Int.emod_nonneg _ (by omega), Int.emod_lt_of_pos _ (by omega)⟩
          have hpb := prod_small p97 HX.out (HG.out.rng k)
          rw [HFX.out] at HE
          obtain ⟨z, hzz⟩ : ∃ z, g.getD k 0 = z := ⟨_, rfl⟩
          obtain ⟨s, hs⟩ : ∃ s, mulW f g i k m % p = s := ⟨_, rfl⟩
          rw [hzz] at b2 HE hpb
          rw [hs] at c4 HE hs0
          have w1 : IntKind.i64.wrap (x * z) = x * z := IntWalk.i64_in _ (by omega)
          have w2 : IntKind.i64.wrap (s + x * z) = s + x * z := IntWalk.i64_in _ (by omega)
          have hnn : 0 ≤ s + x * z := by omega
          obtain ⟨E, hEE⟩ : ∃ E, (s + x * z) % p = E := ⟨_, rfl⟩
          have ht : (s + x * z).tmod p = E := by rw [tmod_nonneg hnn, hEE]
          have hE0 : 0 ≤ E ∧ E < p := by rw [← hEE]; exact ⟨Int.emod_nonneg _ (by omega), Int.emod_lt_of_pos _ (by omega)⟩
          have w3 : IntKind.i64.wrap E = E := IntWalk.i64_in _ (by omega)
          rw [hEE] at HE
          have HR3 := Lib.hid (int_stored HR2.out hsl m E)
          rw [HE.out] at HR3
          have HB3 := Lib.hid (HB2.out.setCell (p := ⟨Q, m, none⟩) hbs (.int .i64 E))
          have hkn' : (k : Int) < (n' : Int) := by omega
          have hmN' : (m : Int) < (N : Int) := by omega
          clear hgl' hsl hzz hs hpb hs0 hm HE HR2 HB2
          go_wp2_with fail
          exact ⟨⟨k + 1, by omega, by go_num, HR3.out, HB3.out⟩, by simp only [intOf]; omega⟩
        · have hkn : g.length ≤ k := by have := HL.out.2; omega
          have HR3 := Lib.hid (show IntRow Q wr (.slice (some ⟨Q, 0, none⟩) N N) (mulY p f g N (i + 1) 0) by rw [← mulY_row hkn]; exact HR2.out)
          clear HR2
          go_wp2_with fail
          exact ⟨⟨i + 1, by omega, by go_num, HR3.out, HB2.out⟩, by simp only [intOf]; omega⟩
    · have hin : i = f.length := by have := HL.out.1; omega
      have HT := Lib.hid (show trimL (mulY p f g N i 0) = prodL p f g by rw [hin]; exact mulY_end (by have := HN.out; have := HL.out; omega))
      have hrl := mulY_length p f g N i 0
      have SR := Lib.hid (show Seen wr (some ⟨Q, 0, none⟩) N N (mulY p f g N i 0) by
        have h := row_seen (o := some ⟨Q, 0, none⟩) (n := (mulY p f g N i 0).length) (c := N) (by rw [hrl]; exact HR.out) (by rw [hrl]; omega)
        rw [hrl] at h; exact h)
      have HR3 := Lib.hid (intRow_lower (trim_row HR.out) hbs)
      rw [HT.out] at HR3
      generalize mulY p f g N i 0 = rl at *
      clear HT hrl HR hin
      go_wp2_with fail
      refine (trimmed_any SR.out).mono ?_
      rintro e w3 ⟨rfl, rfl⟩
      go_wp2_with fail
      go_ret
      exact ⟨_, rfl, HR3.out, HB.out⟩
/-! derivatives -/
theorem der_step {f : List Int} {n k : Nat} (hk : k < n) : (tabL n fun i => if i < k then ((i : Int) + 1) * f.getD (i + 1) 0 else 0).set k (((k : Int) + 1) * f.getD (k + 1) 0) = tabL n fun i => if i < k + 1 then ((i : Int) + 1) * f.getD (i + 1) 0 else 0 := by
  rw [tab_set _ hk]
  refine tabL_ext fun i hi => ?_
  by_cases e : i = k
  · rw [if_pos e, if_pos (by omega), e]
  · rw [if_neg e]
    by_cases h2 : i < k
    · rw [if_pos h2, if_pos (by omega)]
    · rw [if_neg h2, if_neg (by omega)]
end Go.Proofs.Ytidcpmhbkldpeaa
