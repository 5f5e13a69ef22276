/- Contracts of the walk: checks of polynomials in a ring, in impl. (joined of several texts) -/
import Derived.Test.YtbjkcoajabcibaaLfA
import Derived.RangeFuncNested
import Derived.RangeFuncBound
import Derived.RangeFuncCalls
import Derived.RangeFuncLeaves
import Derived.StillTailTactics
import Derived.OrdersIn
import Derived.TacticsIn
import Derived.KernelRfl
import Derived.RangeFuncBox
import Derived.WalkKit
import Derived.OwnWalkIn
import Derived.TacticsInMore
import Derived.LoopNIn
import Derived.LoopIn
import Derived.Shelf.Abstract
import Derived.Test.YtbjkcoajabcibaaRow
import Derived.Deep.RegionHeld3
namespace Go.Proofs.Ytbjkcoajabcibaa
open Go.RowKit
set_option linter.unusedVariables false
set_option linter.unusedSimpArgs false
set_option maxRecDepth 20000
theorem box8 {w w1 : World} {o : Obj} (hb : Below (w.alloc o).heap.size (w.alloc o) w1) : Below w.heap.size w w1 := ((Below.refl _ _).alloc (Nat.le_refl _) _).trans (hb.mono (by simp))
theorem box8_cells {w w1 : World} {a b : Value} {T : TypeId} (hb : Below (w.alloc (.cells #[a, b] T)).heap.size (w.alloc (.cells #[a, b] T)) w1) :
    w1.cell? ⟨w.heap.size, 0, none⟩ = some a ∧ w1.cell? ⟨w.heap.size, 1, none⟩ = some b := by
  constructor
  · rw [hb.cell (by simp)]; exact World.cell?_alloc_new _ _ _ _ ▸ rfl
  · rw [hb.cell (by simp)]; exact World.cell?_alloc_new _ _ _ _ ▸ rfl
theorem below_a8 (w : World) (o : Obj) : Below w.heap.size w (w.alloc o) := (Below.refl _ _).alloc (Nat.le_refl _) _
theorem row_len {b n c : Nat} {o : Option Addr} {w : World} {l : List Int} (h : IntRow b w (.slice o n c) l) : l.length = n := by
  rcases h.2 with ⟨e, h0⟩ | ⟨g, cap, cur, e, _⟩
  · injection e with e1 e2 e3; omega
  · injection e with e1 e2 e3; exact e2.symm
theorem trim_row {b n c : Nat} {o : Option Addr} {w : World} {l : List Int} (h : IntRow b w (.slice o n c) l) : IntRow b w (.slice o (trimN l l.length) c) (trimL l) :=
  row_cut h (by rw [← row_len h]; exact trimN_le _ _)
/-! checks -/
def chkC (p : Int) (l : List Int) : Int := if smallB p then (if resB p l then 0 else 2) else 1
set_option maxHeartbeats 1000000 in
theorem checkAll_any (p : Int) {o : Option Addr} {n c : Nat} {l : List Int} {w : World} (h : Seen w o n c l) :
    Calls Try.prog 78 #[R1 p, .slice o n c] w fun e w' => e = .returned (.int .i64 (chkC p l)) ∧ Below w.heap.size w w' := by
  obtain ⟨hl, hn, hno, hnc, g, h1, h2⟩ := h
  have HO := Lib.hid h1
  have HL := Lib.hid hl
  have HC := Lib.hid h2
  clear h1 h2 hl hno hnc
  cases hs : smallB p
  · have h0 := ringM_small (n := 1) hs
    have HP := Lib.hid (show chkC p l = 1 by simp [chkC, hs])
    have HM := Lib.hid fun w => implModulus_any p 1 w
    rw [h0] at HM
    clear h0
    go_enter Try.func78, Try.ntmps78
    go_wp2_with fail
    refine (HM.out _).mono ?_
    rintro e w1 ⟨rfl, hb⟩
    have HB := Lib.hid (box8 hb)
    clear hb HM
    go_wp2_with fail
    go_ret
    rw [HP.out]; exact ⟨rfl, HB.out⟩
  · obtain ⟨p2, p97⟩ := smallB_bd hs
    have hpz : (p == 0) = false := by simp; omega
    have HM := Lib.hid fun w => modulus8_any p hs w
    go_enter Try.func78, Try.ntmps78
    go_wp2_with fail
    refine (HM.out _).mono ?_
    rintro e w1 ⟨rfl, hb⟩
    have HB := Lib.hid (box8 hb)
    clear hb HM
    go_wp2_with fail
    go_loop [14] (fun i => ∃ k : Nat, k ≤ n ∧ i = .int .i64 k ∧ resB p (l.take k) = true) (fun i => n - (intOf i).toNat)
    case atStart => exact ⟨0, Nat.zero_le _, rfl, by simp [resB]⟩
    case round =>
      obtain ⟨k, hk, rfl, hall⟩ := hrel
      by_cases hlt : k < n
      · have hkl : k < l.length := by have := HL.out; omega
        obtain ⟨hog, hgl⟩ := HO.out (by omega)
        subst hog
        have a2 : w1.cell? ⟨g, k, none⟩ = some (.int .i64 (l.getD k 0)) := by rw [HB.out.cell (p := ⟨g, k, none⟩) hgl]; exact HC.out k hlt
        have HA := Lib.hid (all_take6 (f := fun x => inB x 0 (p - 1)) hkl)
        have HFA := Lib.hid (fun h : inB (l.getD k 0) 0 (p - 1) = false => (show chkC p l = 2 by
          rw [chkC, hs, show resB p l = false from all_false hkl h]; rfl))
        have HTR := Lib.hid (fun h : inB (l.getD k 0) 0 (p - 1) = true => (show resB p (l.take (k + 1)) = true by
          unfold resB at hall ⊢; rw [HA.out, hall]; simpa using h))
        have hkn : (k : Int) < (n : Int) := by omega
        generalize l.getD k 0 = x at *
        clear hkl hall hgl HA
        by_cases hx0 : x < 0
        · have HP := Lib.hid (HFA.out (inB_f (.inl hx0)))
          go_wp2_with fail
          go_ret
          rw [HP.out]; exact ⟨rfl, HB.out⟩
        · by_cases hx1 : p ≤ x
          · have HP := Lib.hid (HFA.out (inB_f (.inr (by omega))))
            go_wp2_with fail
            go_ret
            rw [HP.out]; exact ⟨rfl, HB.out⟩
          · have HP := Lib.hid (HTR.out (inB_t (by omega) (by omega)))
            go_wp2_with fail
            exact ⟨⟨k + 1, by omega, by go_num, HP.out⟩, by simp [intOf]; omega⟩
      · have hkn : k = n := by omega
        rw [hkn, HL.out, List.take_of_length_le (Nat.le_refl _)] at hall
        have HP := Lib.hid (show chkC p l = 0 by simp [chkC, hs, hall])
        clear hlt hall
        subst hkn
        go_wp2_with fail
        go_ret
        rw [HP.out]; exact ⟨rfl, HB.out⟩
theorem modB_can (p : Int) (f : List Int) : modB p f = (canB f && (chkC p f == 0)) := by
  rw [modB_eq]
  unfold canB chkC
  cases smallB p <;> cases resB p f <;> cases lastB f <;> cases decide (f.length ≤ 9) <;> rfl
theorem hasPoly_any (p : Int) {o : Option Addr} {n c : Nat} {f : List Int} {w : World} (h : Seen w o n c f) :
    Calls Try.prog 101 #[R1 p, .slice o n c] w fun e w' => e = .returned (.bool (modB p f)) ∧ Below w.heap.size w w' := by
  have HP := Lib.hid (modB_can p f)
  have hb1 := below_a8 w (.cells #[.int .i64 p, .int .i64 1] 25)
  have HB1 := Lib.hid hb1
  have HS := Lib.hid (seen_below h hb1)
  have HC := Lib.hid (checkAll_any p HS.out)
  clear h hb1
  cases hc : canB f
  · rw [hc] at HP
    go_enter Try.func101, Try.ntmps101
    go_wp2_with fail
    refine (canBe_any HS.out).mono ?_
    rw [hc]
    rintro e w2 ⟨rfl, rfl⟩
    go_wp2_with fail
    go_ret
    rw [HP.out]; exact ⟨rfl, HB1.out⟩
  · rw [hc] at HP
    go_enter Try.func101, Try.ntmps101
    go_wp2_with fail
    refine (canBe_any HS.out).mono ?_
    rw [hc]
    rintro e w2 ⟨rfl, rfl⟩
    go_wp2_with fail
    refine HC.out.mono ?_
    rintro e w3 ⟨rfl, hb⟩
    have HB := Lib.hid (box8 hb)
    clear hb HC
    generalize chkC p f = x at *
    go_wp2_with fail
    go_ret
    rw [HP.out]; exact ⟨by first | rfl | simp, HB.out⟩
def okC (p : Int) (f : List Int) : Int := if modB p f then 0 else 1
def okC2 (p : Int) (f g : List Int) : Int := if twoM p f g then 0 else 1
set_option maxHeartbeats 1000000 in
theorem checkPoly1 (p : Int) {b : Nat} {of : Option Addr} {nf cf : Nat} {f : List Int} {w : World} (hf : Seen w of nf cf f) (df : w.cell? ⟨b, 0, none⟩ = some (.slice of nf cf)) (hlt : b < w.heap.size) :
    Calls Try.prog 86 #[R1 p, .slice (some ⟨b, 0, none⟩) 1 1] w fun e w' => e = .returned (.int .i64 (okC p f)) ∧ Below w.heap.size w w' := by
  have hb1 := below_a8 w (.cells #[.int .i64 p, .int .i64 1] 25)
  have HH := Lib.hid (hasPoly_any p (seen_below hf hb1))
  have d1 : (w.alloc (.cells #[.int .i64 p, .int .i64 1] 25)).cell? ⟨b, 0, none⟩ = some (.slice of nf cf) := by rw [hb1.cell (p := ⟨b, 0, none⟩) hlt]; exact df
  clear hf df hb1
  cases hm : modB p f
  · have HP := Lib.hid (show okC p f = 1 by simp [okC, hm])
    rw [hm] at HH
    go_enter Try.func86, Try.ntmps86
    go_wp2_with fail
    refine wp_loop_rounds 2 ?_
    rw [rounds_succ]
    go_wp2_with fail
    refine HH.out.mono ?_
    rintro e w2 ⟨rfl, hb⟩
    have HB := Lib.hid (box8 hb)
    clear hb HH
    go_wp2_with fail
    go_ret
    rw [HP.out]; exact ⟨rfl, HB.out⟩
  · have HP := Lib.hid (show okC p f = 0 by simp [okC, hm])
    rw [hm] at HH
    go_enter Try.func86, Try.ntmps86
    go_wp2_with fail
    refine wp_loop_rounds 2 ?_
    rw [rounds_succ]
    go_wp2_with fail
    refine HH.out.mono ?_
    rintro e w2 ⟨rfl, hb⟩
    have HB := Lib.hid (box8 hb)
    clear hb HH
    go_wp2_with fail
    rw [rounds_succ]
    go_wp2_with fail
    go_ret
    rw [HP.out]; exact ⟨rfl, HB.out⟩
set_option maxHeartbeats 1000000 in
theorem checkPoly2 (p : Int) {b : Nat} {of : Option Addr} {nf cf : Nat} {f : List Int} {og : Option Addr} {ng cg : Nat} {g : List Int} {w : World} (hf : Seen w of nf cf f) (df : w.cell? ⟨b, 0, none⟩ = some (.slice of nf cf)) (hg : Seen w og ng cg g) (dg : w.cell? ⟨b, 1, none⟩ = some (.slice og ng cg)) (hlt : b < w.heap.size) :
    Calls Try.prog 86 #[R1 p, .slice (some ⟨b, 0, none⟩) 2 2] w fun e w' => e = .returned (.int .i64 (okC2 p f g)) ∧ Below w.heap.size w w' := by
  have hb1 := below_a8 w (.cells #[.int .i64 p, .int .i64 1] 25)
  have hs1 : b < (w.alloc (.cells #[.int .i64 p, .int .i64 1] 25)).heap.size := by simp; omega
  have HH := Lib.hid (hasPoly_any p (seen_below hf hb1))
  have SG := Lib.hid (seen_below hg hb1)
  have d1 : (w.alloc (.cells #[.int .i64 p, .int .i64 1] 25)).cell? ⟨b, 0, none⟩ = some (.slice of nf cf) := by rw [hb1.cell (p := ⟨b, 0, none⟩) hlt]; exact df
  have D2 := Lib.hid (show (w.alloc (.cells #[.int .i64 p, .int .i64 1] 25)).cell? ⟨b, 1, none⟩ = some (.slice og ng cg) by rw [hb1.cell (p := ⟨b, 1, none⟩) hlt]; exact dg)
  clear hf df hg dg hb1
  cases hm : modB p f
  · have HP := Lib.hid (show okC2 p f g = 1 by simp [okC2, twoM, hm])
    rw [hm] at HH
    go_enter Try.func86, Try.ntmps86
    go_wp2_with fail
    refine wp_loop_rounds 3 ?_
    rw [rounds_succ]
    go_wp2_with fail
    refine HH.out.mono ?_
    rintro e w2 ⟨rfl, hb⟩
    have HB := Lib.hid (box8 hb)
    clear hb HH
    go_wp2_with fail
    go_ret
    rw [HP.out]; exact ⟨rfl, HB.out⟩
  · have HP := Lib.hid (show okC2 p f g = if modB p g then 0 else 1 by simp [okC2, twoM, hm])
    rw [hm] at HH
    go_enter Try.func86, Try.ntmps86
    go_wp2_with fail
    refine wp_loop_rounds 3 ?_
    rw [rounds_succ]
    go_wp2_with fail
    refine HH.out.mono ?_
    rintro e w2 ⟨rfl, hb⟩
    have d2 : w2.cell? ⟨b, 1, none⟩ = some (.slice og ng cg) := by rw [hb.cell (p := ⟨b, 1, none⟩) hs1]; exact D2.out
    obtain ⟨c0, c1⟩ := box8_cells hb
    have HG := Lib.hid (hasPoly_any p (seen_below SG.out hb))
    have HB := Lib.hid (box8 hb)
    clear hb HH SG D2 d1
    go_wp2_with fail
    rw [rounds_succ]
    go_wp2_with fail
    refine HG.out.mono ?_
    rintro e w3 ⟨rfl, hb⟩
    have HB3 := Lib.hid (HB.out.trans (hb.mono HB.out.size))
    clear hb HG c0 c1 d2
    cases hg : modB p g
    · rw [hg] at HP
      go_wp2_with fail
      go_ret
      rw [HP.out]; exact ⟨rfl, HB3.out⟩
    · rw [hg] at HP
      go_wp2_with fail
      rw [rounds_succ]
      go_wp2_with fail
      go_ret
      rw [HP.out]; exact ⟨rfl, HB3.out⟩
/-! remainders of coefficients -/
theorem red_step {p : Int} {l : List Int} {n k : Nat} (hk : k < n) : (tabL n fun i => if i < k then l.getD i 0 % p else 0).set k (l.getD k 0 % p) = tabL n fun i => if i < k + 1 then l.getD i 0 % p else 0 := by
  rw [tab_set _ hk]
  refine tabL_ext fun i hi => ?_
  by_cases e : i = k
  · rw [if_pos e, if_pos (by omega), e]
  · rw [if_neg e]
    by_cases h2 : i < k
    · rw [if_pos h2, if_pos (by omega)]
    · rw [if_neg h2, if_neg (by omega)]
set_option maxHeartbeats 2000000 in
theorem reduced_any (p : Int) (hs : smallB p = true) {o : Option Addr} {n c : Nat} {l : List Int} {w : World} (h : Seen w o n c l) (hn9 : n ≤ 1000) :
    Calls Try.prog 96 #[R1 p, .slice o n c] w (OwnPost (redL p l) w) := by
  obtain ⟨p2, p97⟩ := smallB_bd hs
  obtain ⟨hl, hn, hno, hnc, g, h1, h2⟩ := h
  obtain ⟨i0, hi, hz0, hz1, hz2⟩ := info_parts Try.infoInt64
  have HI := Lib.hid hi
  have HZ0 := Lib.hid hz0
  have HZ1 := Lib.hid hz1
  have HZ2 := Lib.hid hz2
  have HO := Lib.hid h1
  have HL := Lib.hid hl
  have HC := Lib.hid h2
  have HM := Lib.hid fun w => modulus8_any p hs w
  clear hi hz0 hz1 hz2 h1 h2 hl hno hnc hs
  go_enter Try.func96, Try.ntmps96
  go_wp2_with fail
  refine (HM.out _).mono ?_
  rintro e w1 ⟨rfl, hb⟩
  have hb1 := box8 hb
  have HB1 := Lib.hid hb1
  have hbs := hb1.size
  clear hb HM hb1
  go_upto_region 2 with fail
  go_wp2_with (at_make; refine wpList_make_full _ rfl (.tmp 12) (.tmp 12) 26 rfl w1.heap.size 2 i0 (.int .i64 0) 1 Try.underlying26 HI.out HZ0.out HZ1.out .i64 .i64 _ _ n rfl rfl rfl rfl (by rw [HZ2.out]; omega) (by unfold maxLen; omega) (Nat.le_refl _) ?_; intro w2 hown hgrow)
  have HB2 := Lib.hid (HB1.out.grown hgrow hbs (fun k h => by cases h))
  have HR2 := Lib.hid (show IntRow w1.heap.size w2 (.slice (some ⟨w1.heap.size, 0, none⟩) n n) (tabL n fun i => if i < 0 then l.getD i 0 % p else 0) from int_made hown)
  generalize w1.heap.size = Q at *
  clear hown hgrow HB1
  go_wp2_with fail
  go_loopw [16] (fun s wr => ∃ k : Nat, k ≤ n ∧ s = .int .i64 k ∧ IntRow Q wr (.slice (some ⟨Q, 0, none⟩) n n) (tabL n fun i => if i < k then l.getD i 0 % p else 0) ∧ Below w.heap.size w wr) (fun s _ => n - (intOf s).toNat)
  case atStart => exact ⟨0, Nat.zero_le _, rfl, HR2.out, HB2.out⟩
  case round =>
    obtain ⟨k, hk, rfl, hr, hb⟩ := hrel
    have HR := Lib.hid hr
    have HB := Lib.hid hb
    clear hr hb HR2 HB2
    by_cases hlt : k < n
    · obtain ⟨hog, hgl⟩ := HO.out (by omega)
      subst hog
      have a2 : wr.cell? ⟨g, k, none⟩ = some (.int .i64 (l.getD k 0)) := by rw [HB.out.cell (p := ⟨g, k, none⟩) hgl]; exact HC.out k hlt
      have hrl : (tabL n fun i => if i < k then l.getD i 0 % p else 0).length = n := tabL_length _ _
      have c2 := int_at HR.out hrl hlt
      have f2 := int_frozen HR.out hrl k
      have HE := Lib.hid (red_step (p := p) (l := l) hlt)
      have HR3 := Lib.hid (int_stored HR.out hrl k (l.getD k 0 % p))
      have HB3 := Lib.hid (HB.out.setCell (p := ⟨Q, k, none⟩) hbs (.int .i64 (l.getD k 0 % p)))
      rw [HE.out] at HR3
      have hkn : (k : Int) < (n : Int) := by omega
      obtain ⟨y0, hy0⟩ : ∃ y, (tabL n fun i => if i < k then l.getD i 0 % p else 0).getD k 0 = y := ⟨_, rfl⟩
      rw [hy0] at c2
      clear hgl HE HR HB hy0 hrl
      generalize l.getD k 0 = z at *
      go_wp2_with fail
      refine (remainder8_any z p wr p2 (by omega)).mono ?_
      rintro e w3 ⟨rfl, rfl⟩
      go_wp2_with fail
      exact ⟨⟨k + 1, by omega, by go_num, HR3.out, HB3.out⟩, by simp only [intOf]; omega⟩
    · have hkn : k = n := by omega
      have HT := Lib.hid (show trimL (tabL n fun i => if i < k then l.getD i 0 % p else 0) = redL p l by
        unfold redL
        rw [← HL.out]
        congr 1
        exact tabL_ext fun i hi => by rw [if_pos (by omega)])
      have hrl : (tabL n fun i => if i < k then l.getD i 0 % p else 0).length = n := tabL_length _ _
      have SR := Lib.hid (show Seen wr (some ⟨Q, 0, none⟩) n n (tabL n fun i => if i < k then l.getD i 0 % p else 0) by
        have h := row_seen (o := some ⟨Q, 0, none⟩) (n := (tabL n fun i => if i < k then l.getD i 0 % p else 0).length) (c := n) (by rw [hrl]; exact HR.out) (by rw [hrl]; omega)
        rw [hrl] at h; exact h)
      have HR3 := Lib.hid (intRow_lower (trim_row HR.out) hbs)
      rw [HT.out] at HR3
      generalize (tabL n fun i => if i < k then l.getD i 0 % p else 0) = rl at *
      clear HT hrl HR
      go_wp2_with fail
      refine (trimmed_any SR.out).mono ?_
      rintro e w3 ⟨rfl, rfl⟩
      go_wp2_with fail
      go_ret
      exact ⟨_, rfl, HR3.out, HB.out⟩
/-! products -/
set_option maxHeartbeats 4000000 in
theorem product_any (p : Int) (hs : smallB p = true) {o o' : Option Addr} {n n' c c' : Nat} {f g : List Int} {w : World} (h : Seen w o n c f) (h' : Seen w o' n' c' g) (hf : ModP p f) (hg : ModP p g) (hn9 : n ≤ 20) (hn9' : n' ≤ 20) :
    Calls Try.prog 93 #[R1 p, .slice o n c, .slice o' n' c'] w (OwnPost (prodL p f g) w) := by
  obtain ⟨p2, p97⟩ := smallB_bd hs
  obtain ⟨hl, hn, hno, hnc, a, h1, h2⟩ := h
  obtain ⟨hl', hn', hno', hnc', a', h1', h2'⟩ := h'
  obtain ⟨i0, hi, hz0, hz1, hz2⟩ := info_parts Try.infoInt64
  have HI := Lib.hid hi
  have HZ0 := Lib.hid hz0
  have HZ1 := Lib.hid hz1
  have HZ2 := Lib.hid hz2
  have HO := Lib.hid h1
  have HO' := Lib.hid h1'
  have HL := Lib.hid (And.intro hl hl')
  have HC := Lib.hid h2
  have HC' := Lib.hid h2'
  have HF := Lib.hid hf
  have HG := Lib.hid hg
  have hpz : (p == 0) = false := by simp; omega
  have HM := Lib.hid fun w => modulus8_any p hs w
  obtain ⟨N, hN⟩ : ∃ N, n + n' = N := ⟨_, rfl⟩
  have hN1 : (n : Int) + (n' : Int) = (N : Int) := by omega
  have HN := Lib.hid hN
  have hN17 : N ≤ 40 := by omega
  clear hi hz0 hz1 hz2 h1 h2 hl hno hnc h1' h2' hl' hno' hnc' hf hg hs hN
  go_enter Try.func93, Try.ntmps93
  go_wp2_with fail
  refine (HM.out _).mono ?_
  rintro e w1 ⟨rfl, hb⟩
  have hb1 := box8 hb
  have HB1 := Lib.hid hb1
  have hbs := hb1.size
  clear hb HM hb1
  go_upto_region 2 with fail
  go_wp2_with (at_make; refine wpList_make_full _ rfl (.tmp 19) (.tmp 19) 26 rfl w1.heap.size 2 i0 (.int .i64 0) 1 Try.underlying26 HI.out HZ0.out HZ1.out .i64 .i64 _ _ N rfl rfl rfl rfl (by rw [HZ2.out]; omega) (by unfold maxLen; omega) (Nat.le_refl _) ?_; intro w2 hown hgrow)
  have HB2 := Lib.hid (HB1.out.grown hgrow hbs (fun k h => by cases h))
  have HR2 := Lib.hid (show IntRow w1.heap.size w2 (.slice (some ⟨w1.heap.size, 0, none⟩) N N) (mulY p f g N 0 0) by rw [mulY_start]; exact int_made hown)
  generalize w1.heap.size = Q at *
  clear hown hgrow HB1 hN1
  go_wp2_with fail
  go_loopw [23] (fun s wr => ∃ i : Nat, i ≤ n ∧ s = .int .i64 i ∧ IntRow Q wr (.slice (some ⟨Q, 0, none⟩) N N) (mulY p f g N i 0) ∧ Below w.heap.size w wr) (fun s _ => n - (intOf s).toNat)
  case atStart => exact ⟨0, Nat.zero_le _, rfl, HR2.out, HB2.out⟩
  case round =>
    obtain ⟨i, hi, rfl, hr, hb⟩ := hrel
    have HR := Lib.hid hr
    have HB := Lib.hid hb
    clear hr hb HR2 HB2
    by_cases hlt : i < n
    · obtain ⟨hog, hgl⟩ := HO.out (by omega)
      subst hog
      have a2 : wr.cell? ⟨a, i, none⟩ = some (.int .i64 (f.getD i 0)) := by rw [HB.out.cell (p := ⟨a, i, none⟩) hgl]; exact HC.out i hlt
      have HX := Lib.hid (HF.out.rng i)
      have hin : (i : Int) < (n : Int) := by omega
      obtain ⟨x, hx⟩ : ∃ x, f.getD i 0 = x := ⟨_, rfl⟩
      rw [hx] at a2 HX
      have HFX := Lib.hid hx
      clear hgl hx
      go_wp2_with fail
      go_loopw [30] (fun s wr => ∃ k : Nat, k ≤ n' ∧ s = .int .i64 k ∧ IntRow Q wr (.slice (some ⟨Q, 0, none⟩) N N) (mulY p f g N i k) ∧ Below w.heap.size w wr) (fun s _ => n' - (intOf s).toNat)
      case atStart => exact ⟨0, Nat.zero_le _, rfl, HR.out, HB.out⟩
      case round =>
        obtain ⟨k, hk, rfl, hr, hb⟩ := hrel
        have HR2 := Lib.hid hr
        have HB2 := Lib.hid hb
        clear hr hb HR HB a2
        by_cases hltk : k < n'
        · obtain ⟨m, hm⟩ : ∃ m, i + k = m := ⟨_, rfl⟩
          have hmN : m < N := by have := HN.out; omega
          have hik : (i : Int) + (k : Int) = (m : Int) := by omega
          have hwm : IntKind.i64.wrap (m : Int) = (m : Int) := IntWalk.i64_in _ (by omega)
          obtain ⟨hog', hgl'⟩ := HO'.out (by omega)
          subst hog'
          have b2 : wr.cell? ⟨a', k, none⟩ = some (.int .i64 (g.getD k 0)) := by rw [HB2.out.cell (p := ⟨a', k, none⟩) hgl']; exact HC'.out k hltk
          have hsl := mulY_length p f g N i k
          have c4 := int_at HR2.out hsl hmN
          rw [mulY_at hmN] at c4
          have f4 := int_frozen HR2.out hsl m
          have HE := Lib.hid (mulY_step (p := p) (f := f) (g := g) hmN hm)
          have hs0 : 0 ≤ mulW f g i k m % p ∧ mulW f g i k m % p < p := ⟨Int.emod_nonneg _ (by omega), Int.emod_lt_of_pos _ (by omega)⟩
          have hpb := prod_small p97 HX.out (HG.out.rng k)
          rw [HFX.out] at HE
          obtain ⟨z, hzz⟩ : ∃ z, g.getD k 0 = z := ⟨_, rfl⟩
          obtain ⟨s, hs⟩ : ∃ s, mulW f g i k m % p = s := ⟨_, rfl⟩
          rw [hzz] at b2 HE hpb
          rw [hs] at c4 HE hs0
          have w1 : IntKind.i64.wrap (x * z) = x * z := IntWalk.i64_in _ (by omega)
          have w2 : IntKind.i64.wrap (s + x * z) = s + x * z := IntWalk.i64_in _ (by omega)
          have hnn : 0 ≤ s + x * z := by omega
          obtain ⟨E, hEE⟩ : ∃ E, (s + x * z) % p = E := ⟨_, rfl⟩
          have ht : (s + x * z).tmod p = E := by rw [tmod_nonneg hnn, hEE]
          have hE0 : 0 ≤ E ∧ E < p := by rw [← hEE]; exact ⟨Int.emod_nonneg _ (by omega), Int.emod_lt_of_pos _ (by omega)⟩
          have w3 : IntKind.i64.wrap E = E := IntWalk.i64_in _ (by omega)
          rw [hEE] at HE
          have HR3 := Lib.hid (int_stored HR2.out hsl m E)
          rw [HE.out] at HR3
          have HB3 := Lib.hid (HB2.out.setCell (p := ⟨Q, m, none⟩) hbs (.int .i64 E))
          have hkn' : (k : Int) < (n' : Int) := by omega
          have hmN' : (m : Int) < (N : Int) := by omega
          clear hgl' hsl hzz hs hpb hs0 hm HE HR2 HB2
          go_wp2_with fail
          exact ⟨⟨k + 1, by omega, by go_num, HR3.out, HB3.out⟩, by simp only [intOf]; omega⟩
        · have hkn : g.length ≤ k := by have := HL.out.2; omega
          have HR3 := Lib.hid (show IntRow Q wr (.slice (some ⟨Q, 0, none⟩) N N) (mulY p f g N (i + 1) 0) by rw [← mulY_row hkn]; exact HR2.out)
          clear HR2
          go_wp2_with fail
          exact ⟨⟨i + 1, by omega, by go_num, HR3.out, HB2.out⟩, by simp only [intOf]; omega⟩
    · have hin : i = f.length := by have := HL.out.1; omega
      have HT := Lib.hid (show trimL (mulY p f g N i 0) = prodL p f g by rw [hin]; exact mulY_end (by have := HN.out; have := HL.out; omega))
      have hrl := mulY_length p f g N i 0
      have SR := Lib.hid (show Seen wr (some ⟨Q, 0, none⟩) N N (mulY p f g N i 0) by
        have h := row_seen (o := some ⟨Q, 0, none⟩) (n := (mulY p f g N i 0).length) (c := N) (by rw [hrl]; exact HR.out) (by rw [hrl]; omega)
        rw [hrl] at h; exact h)
      have HR3 := Lib.hid (intRow_lower (trim_row HR.out) hbs)
      rw [HT.out] at HR3
      generalize mulY p f g N i 0 = rl at *
      clear HT hrl HR hin
      go_wp2_with fail
      refine (trimmed_any SR.out).mono ?_
      rintro e w3 ⟨rfl, rfl⟩
      go_wp2_with fail
      go_ret
      exact ⟨_, rfl, HR3.out, HB.out⟩
/-! derivatives -/
theorem der_step {f : List Int} {n k : Nat} (hk : k < n) : (tabL n fun i => if i < k then ((i : Int) + 1) * f.getD (i + 1) 0 else 0).set k (((k : Int) + 1) * f.getD (k + 1) 0) = tabL n fun i => if i < k + 1 then ((i : Int) + 1) * f.getD (i + 1) 0 else 0 := by
  rw [tab_set _ hk]
  refine tabL_ext fun i hi => ?_
  by_cases e : i = k
  · rw [if_pos e, if_pos (by omega), e]
  · rw [if_neg e]
    by_cases h2 : i < k
    · rw [if_pos h2, if_pos (by omega)]
    · rw [if_neg h2, if_neg (by omega)]
set_option maxHeartbeats 2000000 in
theorem derivative_any (p : Int) (hs : smallB p = true) {o : Option Addr} {n c : Nat} {f : List Int} {w : World} (h : Seen w o n c f) (hf : ModP p f) (hn9 : n ≤ 9) :
    Calls Try.prog 130 #[R1 p, .slice o n c] w (OwnPost (redL p (derL f)) w) := by
  obtain ⟨p2, p97⟩ := smallB_bd hs
  obtain ⟨hl, hn, hno, hnc, g, h1, h2⟩ := h
  obtain ⟨i0, hi, hz0, hz1, hz2⟩ := info_parts Try.infoInt64
  have HI := Lib.hid hi
  have HZ0 := Lib.hid hz0
  have HZ1 := Lib.hid hz1
  have HZ2 := Lib.hid hz2
  have HO := Lib.hid h1
  have HL := Lib.hid hl
  have HC := Lib.hid h2
  have HF := Lib.hid hf
  obtain ⟨d, hd⟩ : ∃ d, n - 1 = d := ⟨_, rfl⟩
  have hm0 : max ((n : Int) - 1) 0 = (d : Int) := by omega
  have HD := Lib.hid hd
  have hd8 : d ≤ 8 := by omega
  have HRED := Lib.hid fun (wx : World) (o' : Option Addr) (c' : Nat) (a : List Int) (hx : Seen wx o' d c' a) => reduced_any p hs hx (by omega)
  obtain ⟨W0, hW0⟩ : ∃ W0, w.alloc (.cells #[.int .i64 p, .int .i64 1] 25) = W0 := ⟨_, rfl⟩
  have HW0 := Lib.hid hW0
  have hb1 : Below w.heap.size w W0 := by rw [← hW0]; exact below_a8 _ _
  obtain ⟨Q, hQ⟩ : ∃ Q, W0.heap.size = Q := ⟨_, rfl⟩
  have hs0 : Q = w.heap.size + 1 := by rw [← hQ, ← hW0]; simp
  have HS0 := Lib.hid hs0
  have q0 : W0.cell? ⟨w.heap.size, 0, none⟩ = some (.int .i64 p) := by rw [← hW0]; exact World.cell?_alloc_new _ _ _ _ ▸ rfl
  have q1 : W0.cell? ⟨w.heap.size, 1, none⟩ = some (.int .i64 1) := by rw [← hW0]; exact World.cell?_alloc_new _ _ _ _ ▸ rfl
  have HQ := Lib.hid (And.intro q0 q1)
  have HB1 := Lib.hid hb1
  clear hi hz0 hz1 hz2 h1 h2 hl hno hnc hf hd hb1 q0 q1 hs0
  go_enter Try.func130, Try.ntmps130
  go_upto_region 1 with fail
  clear hW0
  go_wp2_with (at_make; refine wpList_make_full _ rfl (.tmp 10) (.tmp 10) 26 rfl W0.heap.size 2 i0 (.int .i64 0) 1 Try.underlying26 HI.out HZ0.out HZ1.out .i64 .i64 _ _ d rfl rfl rfl rfl (by rw [HZ2.out]; omega) (by unfold maxLen; omega) (Nat.le_refl _) ?_; intro w2 hown hgrow; rw [hQ] at hown)
  have HB2 := Lib.hid ((Below.refl W0.heap.size W0).grown hgrow (Nat.le_refl _) (fun k h => by cases h))
  have HR2 := Lib.hid (show IntRow Q w2 (.slice (some ⟨Q, 0, none⟩) d d) (tabL d fun i => if i < 0 then ((i : Int) + 1) * f.getD (i + 1) 0 else 0) by rw [← hQ] at hown ⊢; exact int_made hown)
  clear hown hgrow hm0
  rw [hQ] at HB2
  go_wp2_with fail
  go_loopw [14] (fun s wr => ∃ k : Nat, k ≤ d ∧ s = .int .i64 k ∧ IntRow Q wr (.slice (some ⟨Q, 0, none⟩) d d) (tabL d fun i => if i < k then ((i : Int) + 1) * f.getD (i + 1) 0 else 0) ∧ Below Q W0 wr) (fun s _ => d - (intOf s).toNat)
  case atStart => exact ⟨0, Nat.zero_le _, rfl, HR2.out, HB2.out⟩
  case round =>
    obtain ⟨k, hk, rfl, hr, hb⟩ := hrel
    have HR := Lib.hid hr
    have HB := Lib.hid hb
    clear hr hb HR2 HB2
    by_cases hlt : k < d
    · obtain ⟨m, hm⟩ : ∃ m, k + 1 = m := ⟨_, rfl⟩
      have hm1 : (k : Int) + 1 = (m : Int) := by omega
      have wm : IntKind.i64.wrap (m : Int) = (m : Int) := IntWalk.i64_in _ (by omega)
      have hmn : m < n := by have := HD.out; omega
      obtain ⟨hog, hgl⟩ := HO.out (by omega)
      subst hog
      have a2 : wr.cell? ⟨g, m, none⟩ = some (.int .i64 (f.getD m 0)) := by
        rw [HB.out.cell (p := ⟨g, m, none⟩) (by show g < Q; have := HS0.out; omega), HB1.out.cell (p := ⟨g, m, none⟩) hgl]; exact HC.out m hmn
      have hrl : (tabL d fun i => if i < k then ((i : Int) + 1) * f.getD (i + 1) 0 else 0).length = d := tabL_length _ _
      have c2 := int_at HR.out hrl hlt
      have f2 := int_frozen HR.out hrl k
      have HE := Lib.hid (der_step (f := f) hlt)
      rw [hm1, hm] at HE
      have hz := HF.out.rng m
      obtain ⟨z, hzz⟩ : ∃ z, f.getD m 0 = z := ⟨_, rfl⟩
      rw [hzz] at a2 HE hz
      have m1 : 0 ≤ (m : Int) * z ∧ (m : Int) * z ≤ 9409 := by
        have e1 := Int.mul_nonneg (show 0 ≤ (m : Int) by omega) hz.1
        have e2 := Int.mul_le_mul (show (m : Int) ≤ 97 by omega) (show z ≤ 97 by omega) hz.1 (by omega)
        omega
      have w1 : IntKind.i64.wrap ((m : Int) * z) = (m : Int) * z := IntWalk.i64_in _ (by omega)
      have HR3 := Lib.hid (int_stored HR.out hrl k ((m : Int) * z))
      rw [HE.out] at HR3
      have HB3 := Lib.hid (HB.out.setCell (p := ⟨Q, k, none⟩) (Nat.le_refl _) (.int .i64 ((m : Int) * z)))
      have hkd : (k : Int) < (d : Int) := by omega
      have hmn' : (m : Int) < (n : Int) := by omega
      obtain ⟨y0, hy0⟩ : ∃ y, (tabL d fun i => if i < k then ((i : Int) + 1) * f.getD (i + 1) 0 else 0).getD k 0 = y := ⟨_, rfl⟩
      rw [hy0] at c2
      have hmd : m ≤ d := by omega
      clear hgl HE HR HB hy0 hrl hzz hz m1 hm
      go_wp2_with fail
      exact ⟨⟨m, hmd, by first | rfl | go_num | (congr 1; omega), HR3.out, HB3.out⟩, by simp only [intOf]; omega⟩
    · have hkd : k = d := by omega
      have HT := Lib.hid (show (tabL d fun i => if i < k then ((i : Int) + 1) * f.getD (i + 1) 0 else 0) = derL f by
        unfold derL
        rw [← HL.out, show n - 1 = d from HD.out]
        exact tabL_ext fun i hi => by rw [if_pos (by omega)])
      have hrl : (derL f).length = d := by rw [derL, tabL_length, ← HL.out]; exact HD.out
      have HR3 := HR.out
      rw [HT.out] at HR3
      have SR := Lib.hid (show Seen wr (some ⟨Q, 0, none⟩) d d (derL f) by
        have h := row_seen (o := some ⟨Q, 0, none⟩) (n := (derL f).length) (c := d) (by rw [hrl]; exact HR3) (by rw [hrl]; omega)
        rw [hrl] at h; exact h)
      have c0 : wr.cell? ⟨w.heap.size, 0, none⟩ = some (.int .i64 p) := by rw [HB.out.cell (p := ⟨w.heap.size, 0, none⟩) (by show w.heap.size < Q; have := HS0.out; omega)]; exact HQ.out.1
      have c1 : wr.cell? ⟨w.heap.size, 1, none⟩ = some (.int .i64 1) := by rw [HB.out.cell (p := ⟨w.heap.size, 1, none⟩) (by show w.heap.size < Q; have := HS0.out; omega)]; exact HQ.out.2
      have HB4 := Lib.hid (HB1.out.trans (HB.out.mono (by have := HS0.out; omega)))
      clear HT hrl HR HR3 hkd
      generalize derL f = dl at *
      go_wp2_with fail
      refine (HRED.out _ _ _ _ SR.out).mono ?_
      rintro e w3 ⟨v, rfl, hr3, hb3⟩
      have HR5 := Lib.hid (intRow_lower hr3 HB4.out.size)
      have HB5 := Lib.hid (HB4.out.trans (hb3.mono HB4.out.size))
      clear hr3 hb3 HRED
      go_wp2_with fail
      go_ret
      exact ⟨_, rfl, HR5.out, HB5.out⟩
end Go.Proofs.Ytbjkcoajabcibaa
namespace Go.Proofs.Ytbjkcoajabcibaa
open Go.RowKit
set_option linter.unusedVariables false
variable {F : Fence} {n : Nat} {P : Program} {α : Type}
/-- the call of an iterator value, at the yield of any loop l, for any two invariants that abide the iterator's own steps -/
def SeqBb (F : Fence) (n : Nat) (P : Program) (g : Nat) (ba lb : Array Value) (encs : α → Array Value) (St Fr : World → World → Prop) (S Sp : List α → Prop) (Start : World → Prop) : Prop :=
  ∀ (l : Nat) (J Jx : List α → World → Prop) (W : World), Start W →
    (∀ s A B, J s A → St A B → J s B) → (∀ s A B, Jx s A → St A B → Jx s B) → J [] W →
    (∀ pre x A, Sp (pre ++ [x]) → J pre A → YieldAt F (n - 1) P l (encs x) A fun e B => (e = .returned (.bool true) ∧ J (pre ++ [x]) B ∧ Fr A B) ∨ (e = .returned (.bool false) ∧ Jx (pre ++ [x]) B)) →
    CallsIn F n P g (ba ++ #[.func (.yield l) #[] #[]] ++ lb) W fun e B => ∃ v, e = .returned v ∧ ((∃ xs, S xs ∧ J xs B) ∨ ∃ pre, Sp pre ∧ Jx pre B)
/-- how a body may be left -/
def LeftBb (Fr : World → World → Prop) (I Ix : List α → World → Prop) (xs : List α) (W : World) : Exit → Act → World → Prop
  | .normal, _, B => KeepsOthers W B ∧ Fr W B ∧ I xs B
  | .ret, _, B => KeepsOthers W B ∧ Ix xs B
  | _, _, _ => False
/-- the loop's record and the block for deferred calls stand in W -/
def StandsB (K : Nat) (r : Loop) (W : World) : Prop := W.heap[K + 1]? = some (.loop r) ∧ W.heap[K]? = some (.deferred (some []))
theorem StandsB.put {K : Nat} {r r' : Loop} {W : World} (h : StandsB K r W) : StandsB K r' (W.putObj (K + 1) (.loop r')) :=
  ⟨World.putObj_heap_same (Array.getElem?_eq_some_iff.1 h.1).1, (World.putObj_heap_other (by omega)).trans h.2⟩
theorem StandsB.keeps {K : Nat} {r : Loop} {W B : World} (h : StandsB K r W) (hk : KeepsOthers W B) : StandsB K r B := ⟨hk.same _ _ h.1 rfl, hk.same _ _ h.2 rfl⟩
theorem wpIn_rangeBb {g : Operand} {ps : Array Tmp} {assign body : Code} {Q : Exit → Act → World → Prop} {a : Act} {w : World}
    (hro : F.round = none) (h1 : 1 ≤ n) {gf : Nat} {ba lb : Array Value} (hg : a.eval g = .func (.func gf) ba lb) (hFg : F.fn gf) (eg : ∀ args w, (callFunc gf args).run P w = .ok (.enter gf args) w)
    {encs : α → Array Value} {St Fr : World → World → Prop} {S Sp : List α → Prop} {Start : World → Prop} (hseq : SeqBb F (n - 1) P gf ba lb encs St Fr S Sp Start) (hps : ∀ x, (encs x).size = ps.size)
    (I Ix : List α → World → Prop) (a₁ : α → Act)
    (hIp : ∀ s W k o o', I s W → w.heap.size ≤ k → W.heap[k]? = some o → o.isCells = false → I s (W.putObj k o'))
    (hXp : ∀ s W k o o', Ix s W → w.heap.size ≤ k → W.heap[k]? = some o → o.isCells = false → Ix s (W.putObj k o'))
    (hFp : ∀ A W k o o', Fr A W → w.heap.size ≤ k → W.heap[k]? = some o → o.isCells = false → Fr A (W.putObj k o'))
    (hFq : ∀ W k o o', w.heap.size ≤ k → W.heap[k]? = some o → o.isCells = false → Fr W (W.putObj k o')) (hFt : ∀ {A B C : World}, Fr A B → Fr B C → Fr A C)
    (hIs : ∀ s A B, I s A → St A B → I s B) (hXs : ∀ s A B, Ix s A → St A B → Ix s B) (hSk : ∀ A B k o, St A B → w.heap.size ≤ k → A.heap[k]? = some o → o.isCells = false → B.heap[k]? = some o)
    (h0 : ∀ o o', I [] ((w.alloc o).alloc o')) (hS0 : ∀ o o', Start ((w.alloc o).alloc o'))
    (hassign : ∀ (l : Nat) (x : α) (W : World) (K : Act → World → Prop), K (a₁ x) W →
      assign.wpIn (F.inRound l) (n - 1 - 1) P (Exit.then K (fun _ _ _ => False)) { tmps := (ps.zip (encs x)).foldl (fun t (p, v) => t.setIfInBounds p v) a.tmps, defers := [] } W)
    (hbody : ∀ (l : Nat) (pre : List α) (x : α) (W : World), Sp (pre ++ [x]) → I pre W → body.wpIn (F.inRound l) (n - 1 - 1) P (LeftBb Fr I Ix (pre ++ [x]) W) (a₁ x) W)
    (hdone : ∀ (D : Nat) (xs : List α) (W : World), w.heap.size ≤ D → S xs → I xs W → W.heap[D]? = some (.deferred (some [])) → Q .normal { a with defers := { target := .collected D, args := #[] } :: a.defers } W)
    (hstop : ∀ (D : Nat) (pre : List α) (W : World), w.heap.size ≤ D → Sp pre → Ix pre W → W.heap[D]? = some (.deferred (some [])) → Code.ret.wpIn F n P Q { a with defers := { target := .collected D, args := #[] } :: a.defers } W) :
    (Code.rangeFunc g ps assign body).wpIn F n P Q a w := by
  refine wpIn_rangeFunc fun fn hfn => ?_
  rw [hro]
  let mk : LoopState → Option Code → Loop := fun st pe => { state := st, pending := pe, fn, tmps := a.tmps, params := ps, assign, body, defers := w.heap.size }
  refine ⟨w.heap.size + 1, [{ target := .collected w.heap.size, args := #[] }], (w.alloc (.deferred (some []))).alloc (.loop (mk .ready none)), { target := .fn (.func gf) lb, args := ba ++ #[.func (.yield (w.heap.size + 1)) #[] #[]] },
    (w.alloc (.deferred (some []))).alloc (.loop (mk .ready none)), gf, ba ++ #[.func (.yield (w.heap.size + 1)) #[] #[]] ++ lb, (w.alloc (.deferred (some []))).alloc (.loop (mk .ready none)),
    run_enterLoop_outer _ _ _ _ _, ?_, ?_, ?_, fun _ => h1, ?_⟩
  · simp only [resolve, hg]
    simp [go_sem]
  · intro f' hf'; simp [Target.leads] at hf'; subst hf'; exact hFg
  · simp [invoke, go_sem, eg]
  have st0 : StandsB w.heap.size (mk .ready none) ((w.alloc (.deferred (some []))).alloc (.loop (mk .ready none))) := by
    refine ⟨?_, ?_⟩
    · have := World.alloc_heap_new (w.alloc (.deferred (some []))) (.loop (mk .ready none)); rwa [World.size_alloc] at this
    · exact (Below.heap_alloc _ _ _ (by simp)).trans (World.alloc_heap_new w _)
  have stS : ∀ r A B, StandsB w.heap.size r A → St A B → StandsB w.heap.size r B := fun r A B h hs => ⟨hSk A B _ _ hs (by omega) h.1 rfl, hSk A B _ _ hs (by omega) h.2 rfl⟩
  refine (hseq (w.heap.size + 1) (fun s W => I s W ∧ StandsB w.heap.size (mk .ready none) W) (fun s W => Ix s W ∧ StandsB w.heap.size (mk .done (some .ret)) W) _ (hS0 _ _)
    (fun s A B h hs => ⟨hIs s A B h.1 hs, stS _ A B h.2 hs⟩) (fun s A B h hs => ⟨hXs s A B h.1 hs, stS _ A B h.2 hs⟩) ⟨h0 _ _, st0⟩ ?_).mono ?_
  · rintro pre x W hsp ⟨hi, hst⟩
    refine ⟨fn, _, assign, body, run_yield (P := P) (args := encs x) hst.1 (hps x), roundIn_of_wpIn hfn (hassign _ x W _ ⟨_, run_beginRound hst.1 rfl, ?_⟩)⟩
    have hb2 : StandsB w.heap.size (mk .busy none) (W.putObj (w.heap.size + 1) (.loop (mk .busy none))) := hst.put
    refine wpIn_mono (hbody _ pre x _ hsp (hIp _ _ _ _ _ hi (by omega) hst.1 rfl)) ?_
    rintro e a3 W3 hp
    cases e with
    | normal =>
      obtain ⟨hk, hf, hi3⟩ := hp
      have hs3 := hb2.keeps hk
      exact ⟨_, _, run_endRound (P := P) none hs3.1, .inl ⟨rfl, ⟨hIp _ _ _ _ _ hi3 (by omega) hs3.1 rfl, hs3.put⟩, hFp _ _ _ _ _ (hFt (hFq _ _ _ _ (by omega) hst.1 rfl) hf) (by omega) hs3.1 rfl⟩⟩
    | ret =>
      obtain ⟨hk, hi3⟩ := hp
      have hs3 := hb2.keeps hk
      exact ⟨_, _, run_endRound (P := P) (some .ret) hs3.1, .inr ⟨rfl, hXp _ _ _ _ _ hi3 (by omega) hs3.1 rfl, hs3.put⟩⟩
    | exit id => exact hp.elim
    | goto t => exact hp.elim
    | panic ch => exact hp.elim
    | outgrown => exact hp.elim
  · rintro e W2 ⟨v, rfl, (⟨xs, hS, hi, hst⟩ | ⟨pre, hSp, hi, hst⟩)⟩
    · exact ⟨none, _, run_endLoop (P := P) hst.1 (by simp [mk]), hdone _ xs _ (Nat.le_refl _) hS (hIp _ _ _ _ _ hi (by omega) hst.1 rfl) ((World.putObj_heap_other (by omega)).trans hst.2)⟩
    · exact ⟨some .ret, _, run_endLoop (P := P) hst.1 (by simp [mk]), hstop _ pre _ (Nat.le_refl _) hSp (hXp _ _ _ _ _ hi (by omega) hst.1 rfl) ((World.putObj_heap_other (by omega)).trans hst.2)⟩
end Go.Proofs.Ytbjkcoajabcibaa
namespace Go.Proofs.Ytbjkcoajabcibaa
open Go
set_option linter.unusedVariables false
section
variable {P : Program} {ops : Array Oper} {md : Region.Mode} {w : World} {l n : Nat}
theorem still_wpIn {o : Oper} {a : Act} {K : Act → Prop} {K' : Act → World → Prop} {Q' : Exit → Act → World → Prop} (hd : ∀ c, o.op ≠ .defer c) (h : ∀ a, K a → K' a w) (hh : o.still P a w K) : o.wpIn (Fence.wide.inRound l) n P a w K' Q' := by
  refine ⟨fun f _ => trivial, ?_⟩
  rw [Oper.semAt_eq _ _ _ hd]
  unfold Oper.still at hh
  generalize (execOp a.eval o).run P w = r at *
  cases r with
  | ok x w' =>
    cases x <;> simp only [Oper.stillUpon] at hh <;> simp only [Oper.uponIn]
    case enter f args =>
      obtain ⟨rfl, v, hc, hn⟩ := hh
      refine ⟨fun h => absurd h (by simp [Fence.wide, Fence.inRound]), ?_⟩
      exact (CallsIn.inRound l (callsIn_wide.2 hc)).mono fun e w'' ⟨he, hw⟩ => by subst he; subst hw; exact h _ hn
    all_goals (obtain ⟨rfl, h2⟩ := hh; exact h _ h2)
  | halt x w' => simp only [Oper.stillUpon] at hh
theorem stOp_wpIn {i : Nat} {a : Act} {K : Act → Prop} {K' : Act → World → Prop} {Q' : Exit → Act → World → Prop} (hd : ∀ (i : Nat) o, ops[i]? = some o → ∀ c, o.op ≠ .defer c) (h : ∀ a, K a → K' a w) (hh : stOp P ops w i K a) : wpOpIn (Fence.wide.inRound l) n P ops Q' i K' a w := by
  unfold stOp at hh
  unfold wpOpIn
  split
  · rename_i ho; simp only [ho] at hh; exact h _ hh
  · rename_i o ho
    simp only [ho] at hh
    split
    · rename_i hw; simp only [hw, if_true] at hh; exact still_wpIn (hd i o ho) h hh
    · rename_i hw; simp only [hw] at hh; exact ⟨fun f _ => trivial, h _ hh⟩
theorem wpAnyIn_of_head {m g : Nat} {L : Array Bool → Act → Prop} {Q' : Exit → Act → World → Prop} (hd : ∀ (i : Nat) o, ops[i]? = some o → ∀ c, o.op ≠ .defer c) (hL : ∀ listed a, L listed a → wpAnyIn (Fence.wide.inRound l) n P md ops Q' g listed a w) :
    ∀ (f : Nat) (listed : Array Bool) (a : Act), wpAnyL P md ops w m L f listed a → wpAnyIn (Fence.wide.inRound l) n P md ops Q' (f + g) listed a w
  | 0, listed, a, h => by rw [Nat.zero_add]; exact hL _ _ h
  | f + 1, listed, a, h => by
    rw [show f + 1 + g = (f + g) + 1 by omega]
    exact ⟨fun h0 => absurd h0 h.1, fun i hi => stOp_wpIn hd (fun a' h' => wpAnyIn_of_head hd hL f _ a' h') (h.2 i hi).2⟩
theorem wpAnyIn_of_seq {F : Fence} {Q' : Exit → Act → World → Prop} : ∀ (xs : List Oper) (k : Nat) (listed : Array Bool) (a : Act) (w : World), (∀ j, xs[j]? = ops[k + j]?) →
    Region.seqB md ops xs.length k listed = true → wpListIn F n P ops Q' xs a w → wpAnyIn F n P md ops Q' xs.length listed a w
  | [], _, _, _, _, _, hB, h => ⟨by simpa [Region.seqB] using hB, h⟩
  | o :: xs, k, listed, a, w, hl, hB, h => by
    have h0 : ops[k]? = some o := by simpa using (hl 0).symm
    simp only [List.length_cons, Region.seqB, Bool.and_eq_true, decide_eq_true_eq] at hB
    refine ⟨fun h1 => (by rw [hB.1] at h1; cases h1), fun i hi => ?_⟩
    rw [hB.1] at hi
    have hik : i = k := by simpa using hi
    subst hik
    have hw : wpOpIn F n P ops Q' i (wpListIn F n P ops Q' xs) a w := by unfold wpOpIn; simp only [h0]; exact h
    exact wpOpIn_mono (fun a' w' h' => wpAnyIn_of_seq xs (i + 1) _ a' w' (fun j => by have := hl (j + 1); simpa [Nat.add_assoc, Nat.add_comm 1 j] using this) hB.2 h') hw
def noDefer (ops : Array Oper) : Bool := ops.all fun o => match o.op with | .defer _ => false | _ => true
theorem noDefer_spec (h : noDefer ops = true) (i : Nat) (o : Oper) (ho : ops[i]? = some o) (c : _) : o.op ≠ .defer c := by
  intro e
  have h1 := Array.all_eq_true'.1 h o (Array.mem_of_getElem? ho)
  rw [e] at h1
  cases h1
theorem wpIn_region_still_tail {id : Nat} {Q : Exit → Act → World → Prop} {a : Act} {xs : List Oper} (m : Nat) (hm : P.follows .mixedOrders = true) (hB : Region.lexTailB .any xs.toArray m = true) (hd : noDefer xs.toArray = true)
    (h : wpStill P xs.toArray { w with drawn := w.drawn + 1 } (fun a' => wpListIn (Fence.wide.inRound l) n P xs.toArray Q (xs.drop m) a' { w with drawn := w.drawn + 1 }) (xs.take m) a) : (Code.region id xs.toArray true).wpIn (Fence.wide.inRound l) n P Q a w := by
  simp only [Region.lexTailB, Bool.and_eq_true, decide_eq_true_eq] at hB
  obtain ⟨⟨⟨⟨hsel, hn⟩, hs⟩, hc⟩, hlex⟩ := hB
  have hn' : m < xs.length := by simpa using hn
  have htl : (xs.take m).length = m := by simp; omega
  have hdl : (xs.drop m).length = xs.toArray.size - m := by simp
  have inv0 : HeadInv .any xs.toArray m (Array.replicate xs.toArray.size false) :=
    ⟨by simp, fun j oj _ hl => (by rw [getD_replicate_false] at hl; cases hl), fun t _ ht => getD_in (by simpa using ht) (getD_replicate_false _ _)⟩
  have H := wpAnyL_lex (md := .any) (g := xs.toArray.size - m) hsel hs hc hn (xs.take m) 0 _ a (fun j hj => by
    have hj' : j < m := by rw [htl] at hj; exact hj
    simp [hj']) (by simpa using htl) inv0 (by rw [htl]; exact hlex) h
  refine wpIn_region_any hm ?_
  have := wpAnyIn_of_head (l := l) (n := n) (Q' := Q) (g := xs.toArray.size - m) (noDefer_spec hd) (fun listed a' hL => by
    have := wpAnyIn_of_seq (F := Fence.wide.inRound l) (n := n) (md := .any) (Q' := Q) (xs.drop m) m listed a' { w with drawn := w.drawn + 1 } (fun j => by simp [List.getElem?_drop]) (by rw [hdl]; exact hL.1) hL.2
    rwa [hdl] at this) _ _ _ H
  rw [htl, show m + (xs.toArray.size - m) = xs.toArray.size by omega] at this
  exact this
end
end Go.Proofs.Ytbjkcoajabcibaa
namespace Go.Proofs.Ytbjkcoajabcibaa
open Go.RowKit Go.Shelf
attribute [local go_sem] Oper.semAt_some
set_option linter.unusedVariables false
set_option maxRecDepth 20000
set_option linter.unusedSimpArgs false
theorem boxed_put8 {W : World} {j k : Nat} {t : TypeId} {v : Value} {o o' : Obj} (h : Boxed W j t v) (hk : W.heap[k]? = some o) (ho : o.isCells = false) : Boxed (W.putObj k o') j t v := by
  have hne : j ≠ k := by
    rintro rfl
    have h' : W.heap[j]? = some (Obj.cells #[v] t (0, 0)) := h
    rw [h'] at hk; cases hk; cases ho
  exact (World.putObj_heap_other hne).trans h
theorem below_put8 {b k : Nat} {w W : World} {o' : Obj} (h : Below b w W) (hk : b ≤ k) : Below b w (W.putObj k o') :=
  ⟨h.os, h.tape, h.output, by have := h.size; simp [World.putObj]; omega, fun j hj => (World.putObj_heap_other (by omega)).trans (h.block j hj)⟩
theorem boxed_below8 {W w2 : World} {j : Nat} {t : TypeId} {v : Value} (h : Boxed W j t v) (hb : Below W.heap.size W w2) : Boxed w2 j t v := (hb.block j h.lt).trans h
theorem keeps_below8 {W w2 : World} (hb : Below W.heap.size W w2) : KeepsOthers W w2 :=
  ⟨hb.size, fun k o hk _ => (hb.block k (Array.getElem?_eq_some_iff.1 hk).1).trans hk⟩
theorem boxed_set8 {W : World} {j : Nat} {t : TypeId} {v : Value} (h : Boxed W j t v) {a : Addr} (ha : j ≠ a.block) (u : Value) : Boxed (W.setCell a u) j t v := by
  have e : (W.setCell a u).heap[j]? = W.heap[j]? := Below.heap_setCell _ _ _ _ ha
  exact e.trans h
/-- an iterator's own steps only add memory -/
abbrev StU8 (A B : World) : Prop := Below A.heap.size A B
theorem backward8_made (o : Option Addr) (n c : Nat) (w : World) :
    Calls Try.prog 131 #[.slice o n c] w fun e w' => e = .returned (.func (.func 159) #[] #[.pointer (some ⟨w.heap.size, 0, none⟩)]) ∧ w' = w.alloc (.cells #[.slice o n c] 26) := by
  go_enter Try.func131, Try.ntmps131
  go_wp2
  go_ret
  exact ⟨rfl, rfl⟩
/-- the indices from the end on -/
def bkI (n j : Nat) : List Nat := (List.range j).map fun i => n - 1 - i
theorem bkI_succ (n j : Nat) : bkI n (j + 1) = bkI n j ++ [n - 1 - j] := by
  unfold bkI; rw [List.range_succ, List.map_append]; rfl
theorem bkI_length (n j : Nat) : (bkI n j).length = j := by simp [bkI]
def Ints8 (g n : Nat) (W : World) : Prop := ∀ k, k < n → ∃ y, W.cell? ⟨g, k, none⟩ = some (.int .i64 y)
def BackN (g b n c : Nat) (W : World) : Prop := Boxed W b 26 (.slice (some ⟨g, 0, none⟩) n c) ∧ Ints8 g n W
/-- what a round keeps: the box of the list, and that integers stand in it -/
def FrN (g b n : Nat) (A B : World) : Prop := B.heap[b]? = A.heap[b]? ∧ (Ints8 g n A → Ints8 g n B)
theorem frN_refl {g b n : Nat} (A : World) : FrN g b n A A := ⟨rfl, id⟩
theorem frN_trans {g b n : Nat} {A B C : World} (h : FrN g b n A B) (k : FrN g b n B C) : FrN g b n A C := ⟨k.1.trans h.1, fun x => k.2 (h.2 x)⟩
theorem ints8_put {g n k : Nat} {W : World} {o o' : Obj} (h : Ints8 g n W) (hk : W.heap[k]? = some o) (ho : o.isCells = false) : Ints8 g n (W.putObj k o') := fun i hi => by
  obtain ⟨y, hy⟩ := h i hi
  refine ⟨y, ?_⟩
  have hne : g ≠ k := by
    rintro rfl
    unfold World.cell? at hy
    rw [show W.heap[(⟨g, i, none⟩ : Addr).block]? = some o from hk] at hy
    cases o <;> simp [Obj.isCells] at ho <;> simp at hy
  rw [World.cell?_of_block (w := W) (a := ⟨g, i, none⟩) (World.putObj_heap_other hne)]; exact hy
theorem frN_put {g b n k : Nat} {A W : World} {o o' : Obj} (h : FrN g b n A W) (hk : W.heap[k]? = some o) (ho : o.isCells = false) (hb : b ≠ k) : FrN g b n A (W.putObj k o') :=
  ⟨(World.putObj_heap_other hb).trans h.1, fun x => ints8_put (h.2 x) hk ho⟩
theorem frN_below {g b n : Nat} {A B : World} (h : Below A.heap.size A B) (hb : b < A.heap.size) (hg : g < A.heap.size) : FrN g b n A B :=
  ⟨h.block b hb, fun x i hi => by obtain ⟨y, hy⟩ := x i hi; exact ⟨y, by rw [h.cell (p := ⟨g, i, none⟩) hg]; exact hy⟩⟩
theorem frN_set {g b n : Nat} {A : World} {a : Addr} (x : Int) (ha : b ≠ a.block) : FrN g b n A (A.setCell a (.int .i64 x)) := by
  refine ⟨Below.heap_setCell _ _ _ _ ha, fun h i hi => ?_⟩
  obtain ⟨y, hy⟩ := h i hi
  by_cases e : a = ⟨g, i, none⟩
  · subst e; exact ⟨x, World.cell?_setCell_same _ _ _ hy⟩
  · exact ⟨y, by rw [World.cell?_setCell_other _ _ _ _ e]; exact hy⟩
theorem frN_drew {g b n : Nat} (A : World) : FrN g b n A A.drew := ⟨rfl, id⟩
theorem backN_kept {g b n c : Nat} {A B : World} (h : BackN g b n c A) (hf : FrN g b n A B) : BackN g b n c B := ⟨hf.1.trans h.1, hf.2 h.2⟩
set_option maxRecDepth 20000 in
set_option maxHeartbeats 1600000 in
theorem backIdx_by (n : Nat) (hn : 1 ≤ n) (g b N c : Nat) (hl : N ≤ 1100000) :
    SeqBb Fence.wide n Try.prog 159 #[] #[.pointer (some ⟨b, 0, none⟩)] (fun x : Nat × Int => #[.int .i64 x.1, .int .i64 x.2]) StU8 (FrN g b N) (fun xs => xs.map Prod.fst = bkI N N) (fun pre => ∃ j, j ≤ N ∧ pre.map Prod.fst = bkI N j) (BackN g b N c) := by
  intro lp J Jx W hW hJ hX h0 hY
  have HW := Lib.hid hW
  have H0 := Lib.hid h0
  have q0 := hW.1.cell
  clear hW h0
  show CallsIn Fence.wide n Try.prog 159 #[.func (.yield lp) #[] #[], .pointer (some ⟨b, 0, none⟩)] W _
  refine callsIn_of_wp Try.func159 rfl trivial ?_ rfl
  simp only [Try.ntmps159, List.size_toArray, List.length_cons, List.length_nil, Nat.reduceAdd, Nat.reduceSub, Array.replicate_succ, Array.replicate_zero, List.push_toArray, List.append_toArray, List.nil_append, List.cons_append]
  gi_wp2
  gi_loopw [3] (fun i wr => ∃ (j : Nat) (x : Int) (pre : List (Nat × Int)), j ≤ N ∧ i = .int .i64 x ∧ x = (N : Int) - 1 - j ∧ BackN g b N c wr ∧ pre.map Prod.fst = bkI N j ∧ J pre wr) (fun i wr => (intOf i + 1).toNat)
  case atStart => exact ⟨0, (N : Int) - 1, [], Nat.zero_le _, rfl, by omega, HW.out, rfl, H0.out⟩
  case round =>
    obtain ⟨j, x, pre, hj, rfl, hx, hb, hpre, hJj⟩ := hrel
    have q1 := hb.1.cell
    by_cases hlt : j < N
    · obtain ⟨m, hm⟩ : ∃ m : Nat, x = m := ⟨x.toNat, by omega⟩
      subst hm
      have hm2 : m = N - 1 - j := by omega
      have hml : m < N := by omega
      obtain ⟨y, q2⟩ := hb.2 m hml
      have hs : (pre ++ [(m, y)]).map Prod.fst = bkI N (j + 1) := by rw [bkI_succ, List.map_append, hpre, hm2]; rfl
      have HY := Lib.hid (hY pre (m, y) wr ⟨j + 1, by omega, hs⟩ hJj)
      have HS := Lib.hid hs
      have HB := Lib.hid hb
      have HXX := Lib.hid hx
      have hm0 : (m : Int) ≤ 1100000 := by omega
      have hge : (0 : Int) ≤ (m : Int) := by omega
      clear hs hb hJj hm2 hx hpre
      obtain ⟨fn, tmps, assign, body, hy, hR⟩ := HY.out
      clear HY
      simp only at hy
      gi_wp2
      refine hR.mono ?_
      rintro e W3 (⟨rfl, hJ3, hF3⟩ | ⟨rfl, hX3⟩)
      · have hb3 := backN_kept HB.out hF3
        have d0 := hb3.1.cell
        have HB3 := Lib.hid hb3
        clear hb3 q1 q2
        gi_wp2
        go_roundw
        case rel => exact ⟨j + 1, (m : Int) - 1, _, by omega, rfl, by have := HXX.out; omega, HB3.out, HS.out, hJ3⟩
        case measure => simp [intOf]
      · gi_wp2
        refine bodyPost_ret (results_none rfl _ _ _) rfl ?_
        exact ⟨_, rfl, .inr ⟨_, ⟨j + 1, by omega, HS.out⟩, hX3⟩⟩
    · have hjl : j = N := by omega
      have HK := Lib.hid hjl
      have HJ := Lib.hid hJj
      have HP := Lib.hid hpre
      have hx1 : x < 0 := by omega
      clear hjl hJj hb hpre
      gi_wp2
      go_end0
      have hPe := HP.out
      rw [HK.out] at hPe
      exact ⟨_, rfl, .inl ⟨_, hPe, HJ.out⟩⟩
/-! the list that stays -/
def bk8 (l : List Int) (j : Nat) : List (Nat × Int) := (List.range j).map fun (i : Nat) => (l.length - 1 - i, l.getD (l.length - 1 - i) 0)
theorem bk8_length (l : List Int) (j : Nat) : (bk8 l j).length = j := by simp [bk8]
theorem bk8_succ (l : List Int) (j : Nat) : bk8 l (j + 1) = bk8 l j ++ [(l.length - 1 - j, l.getD (l.length - 1 - j) 0)] := by
  unfold bk8; rw [List.range_succ, List.map_append]; rfl
theorem bk8_last {l : List Int} {pre : List (Nat × Int)} {x : Nat × Int} (h : ∃ j, j ≤ l.length ∧ pre ++ [x] = bk8 l j) : pre.length + 1 ≤ l.length ∧ x.2 = l.getD (l.length - 1 - pre.length) 0 := by
  obtain ⟨j, hj, e⟩ := h
  have hl := congrArg List.length e
  rw [bk8_length, List.length_append, List.length_singleton] at hl
  obtain ⟨k, rfl⟩ : ∃ k, j = k + 1 := ⟨j - 1, by omega⟩
  rw [bk8_succ] at e
  have e2 := List.append_inj_right' e rfl
  injection e2 with e3
  rw [e3, show k = pre.length by omega]
  exact ⟨by omega, rfl⟩
def Fr8 (g b : Nat) (A B : World) : Prop := ∀ k, k = g ∨ k = b → B.heap[k]? = A.heap[k]?
def BackAt8 (g b c : Nat) (l : List Int) (W : World) : Prop :=
  Boxed W b 26 (.slice (some ⟨g, 0, none⟩) l.length c) ∧ ∀ k, k < l.length → W.cell? ⟨g, k, none⟩ = some (.int .i64 (l.getD k 0))
theorem backAt8_kept {g b c : Nat} {l : List Int} {A B : World} (h : BackAt8 g b c l A) (hf : Fr8 g b A B) : BackAt8 g b c l B :=
  ⟨(hf b (.inr rfl)).trans h.1, fun k hk => by rw [World.cell?_of_block (w := A) (a := ⟨g, k, none⟩) (hf g (.inl rfl))]; exact h.2 k hk⟩
set_option maxRecDepth 20000 in
set_option maxHeartbeats 1600000 in
theorem backward8_by (n : Nat) (hn : 1 ≤ n) (g b c : Nat) (l : List Int) (hl : l.length ≤ 1100000) :
    SeqBb Fence.wide n Try.prog 159 #[] #[.pointer (some ⟨b, 0, none⟩)] (fun x : Nat × Int => #[.int .i64 x.1, .int .i64 x.2]) StU8 (Fr8 g b) (fun xs => xs = bk8 l l.length) (fun pre => ∃ j, j ≤ l.length ∧ pre = bk8 l j) (BackAt8 g b c l) := by
  intro lp J Jx W hW hJ hX h0 hY
  have HW := Lib.hid hW
  have H0 := Lib.hid h0
  have q0 := hW.1.cell
  clear hW h0
  show CallsIn Fence.wide n Try.prog 159 #[.func (.yield lp) #[] #[], .pointer (some ⟨b, 0, none⟩)] W _
  refine callsIn_of_wp Try.func159 rfl trivial ?_ rfl
  simp only [Try.ntmps159, List.size_toArray, List.length_cons, List.length_nil, Nat.reduceAdd, Nat.reduceSub, Array.replicate_succ, Array.replicate_zero, List.push_toArray, List.append_toArray, List.nil_append, List.cons_append]
  gi_wp2
  gi_loopw [3] (fun i wr => ∃ (j : Nat) (x : Int), j ≤ l.length ∧ i = .int .i64 x ∧ x = (l.length : Int) - 1 - j ∧ BackAt8 g b c l wr ∧ J (bk8 l j) wr) (fun i wr => (intOf i + 1).toNat)
  case atStart => exact ⟨0, (l.length : Int) - 1, Nat.zero_le _, rfl, by omega, HW.out, H0.out⟩
  case round =>
    obtain ⟨j, x, hj, rfl, hx, hb, hJj⟩ := hrel
    have q1 := hb.1.cell
    by_cases hlt : j < l.length
    · obtain ⟨m, hm⟩ : ∃ m : Nat, x = m := ⟨x.toNat, by omega⟩
      subst hm
      have hm2 : m = l.length - 1 - j := by omega
      have hml : m < l.length := by omega
      have q2 := hb.2 m hml
      obtain ⟨y, hy⟩ : ∃ y, l.getD m 0 = y := ⟨_, rfl⟩
      rw [hy] at q2
      have hs : bk8 l (j + 1) = bk8 l j ++ [(m, y)] := by rw [bk8_succ, ← hm2, hy]
      have HY := Lib.hid (hY (bk8 l j) (m, y) wr ⟨j + 1, by omega, hs.symm⟩ hJj)
      have HS := Lib.hid hs
      have HB := Lib.hid hb
      have HXX := Lib.hid hx
      have hm0 : (m : Int) ≤ 1100000 := by omega
      have hge : (0 : Int) ≤ (m : Int) := by omega
      clear hs hb hJj hy hm2 hx
      obtain ⟨fn, tmps, assign, body, hy, hR⟩ := HY.out
      clear HY
      simp only at hy
      gi_wp2
      refine hR.mono ?_
      rintro e W3 (⟨rfl, hJ3, hF3⟩ | ⟨rfl, hX3⟩)
      · have hb3 := backAt8_kept HB.out hF3
        have d0 := hb3.1.cell
        have HB3 := Lib.hid hb3
        clear hb3 q1 q2
        gi_wp2
        go_roundw
        case rel => exact ⟨j + 1, (m : Int) - 1, by omega, rfl, by have := HXX.out; omega, HB3.out, by rw [HS.out]; exact hJ3⟩
        case measure => simp [intOf]
      · gi_wp2
        refine bodyPost_ret (results_none rfl _ _ _) rfl ?_
        exact ⟨_, rfl, .inr ⟨_, ⟨j + 1, by omega, HS.out.symm⟩, hX3⟩⟩
    · have hjl : j = l.length := by omega
      have HK := Lib.hid hjl
      have HJ := Lib.hid hJj
      have hx1 : x < 0 := by omega
      clear hjl hJj hb
      gi_wp2
      go_end0
      have hJe := HJ.out
      rw [HK.out] at hJe
      exact ⟨_, rfl, .inl ⟨_, rfl, hJe⟩⟩
end Go.Proofs.Ytbjkcoajabcibaa
namespace Go.Proofs.Ytbjkcoajabcibaa
open Go.RowKit Go.Shelf
attribute [local go_sem] Oper.semAt_some
set_option linter.unusedVariables false
set_option linter.unusedSimpArgs false
set_option maxRecDepth 20000
/-- boxes of variables that lie -/
def Boxes (W : World) (L : List (Nat × TypeId × Value)) : Prop := ∀ x ∈ L, Boxed W x.1 x.2.1 x.2.2
theorem boxes_put {W : World} {L : List (Nat × TypeId × Value)} {k : Nat} {o o' : Obj} (h : Boxes W L) (hk : W.heap[k]? = some o) (ho : o.isCells = false) : Boxes (W.putObj k o') L := fun x hx => boxed_put8 (h x hx) hk ho
theorem boxes_below {W W' : World} {L : List (Nat × TypeId × Value)} (h : Boxes W L) (hb : Below W.heap.size W W') : Boxes W' L := fun x hx => boxed_below8 (h x hx) hb
theorem boxes_set {W : World} {L : List (Nat × TypeId × Value)} {a : Addr} (h : Boxes W L) (ha : ∀ x ∈ L, x.1 ≠ a.block) (u : Value) : Boxes (W.setCell a u) L := fun x hx => boxed_set8 (h x hx) (ha x hx) u
theorem boxes_drew {W : World} {L : List (Nat × TypeId × Value)} (h : Boxes W L) : Boxes W.drew L := h
theorem boxes_cons {W : World} {L : List (Nat × TypeId × Value)} {b : Nat} {T : TypeId} {v : Value} (h : Boxes W L) (hb : Boxed W b T v) : Boxes W ((b, T, v) :: L) := fun x hx => by
  rcases List.mem_cons.1 hx with rfl | hx
  · exact hb
  · exact h x hx
theorem boxes_grown {W W' : World} {L : List (Nat × TypeId × Value)} (h : Boxes W L) (hg : W.grownBy W' none) : Boxes W' L := fun x hx => (hg.block x.1 (h x hx).lt (by simp)).trans (h x hx)
theorem row_none8 {b n c : Nat} {o : Option Addr} {w w' : World} {l : List Int} (h : IntRow b w (.slice o n c) l) (hg : w.grownBy w' none) : IntRow b w' (.slice o n c) l :=
  World.ownsRow.kept h hg (by cases hv : (Value.slice o n c).ownBlock with | none => exact .inl rfl | some k => exact .inr (by simp))
theorem row_put8 {b : Nat} {w : World} {v : Value} {l : List Int} {k : Nat} {o o' : Obj} (h : IntRow b w v l) (hk : w.heap[k]? = some o) (ho : o.isCells = false) : IntRow b (w.putObj k o') v l := ownsRow_putObj h _ hk ho
/-- four cells stay where memory is added -/
theorem keep8_alloc {W3 W' : World} {x1 x2 x3 x4 : Addr} {v1 v2 v3 v4 : Value} (h : Below W3.heap.size W3 W' ∧ W'.cell? x1 = some v1 ∧ W'.cell? x2 = some v2 ∧ W'.cell? x3 = some v3 ∧ W'.cell? x4 = some v4) (o : Obj) :
    Below W3.heap.size W3 (W'.alloc o) ∧ (W'.alloc o).cell? x1 = some v1 ∧ (W'.alloc o).cell? x2 = some v2 ∧ (W'.alloc o).cell? x3 = some v3 ∧ (W'.alloc o).cell? x4 = some v4 := by
  obtain ⟨hb, h1, h2, h3, h4⟩ := h
  exact ⟨hb.alloc hb.size o, (World.cell?_alloc_lt _ _ _ (World.block_lt_of_cell? _ _ h1)).trans h1, (World.cell?_alloc_lt _ _ _ (World.block_lt_of_cell? _ _ h2)).trans h2, (World.cell?_alloc_lt _ _ _ (World.block_lt_of_cell? _ _ h3)).trans h3, (World.cell?_alloc_lt _ _ _ (World.block_lt_of_cell? _ _ h4)).trans h4⟩
theorem keep8_set {W3 W' : World} {q x1 x2 x3 x4 : Addr} {v1 v2 v3 v4 : Value} (h : Below W3.heap.size W3 W' ∧ W'.cell? x1 = some v1 ∧ W'.cell? x2 = some v2 ∧ W'.cell? x3 = some v3 ∧ W'.cell? x4 = some v4) (hq : W3.heap.size ≤ q.block) (l1 : x1.block < W3.heap.size) (l2 : x2.block < W3.heap.size) (l3 : x3.block < W3.heap.size) (l4 : x4.block < W3.heap.size) (u : Value) :
    Below W3.heap.size W3 (W'.setCell q u) ∧ (W'.setCell q u).cell? x1 = some v1 ∧ (W'.setCell q u).cell? x2 = some v2 ∧ (W'.setCell q u).cell? x3 = some v3 ∧ (W'.setCell q u).cell? x4 = some v4 := by
  obtain ⟨hb, h1, h2, h3, h4⟩ := h
  exact ⟨hb.setCell hq u, (World.cell?_setCell_other _ _ _ _ (by intro e; subst e; omega)).trans h1, (World.cell?_setCell_other _ _ _ _ (by intro e; subst e; omega)).trans h2, (World.cell?_setCell_other _ _ _ _ (by intro e; subst e; omega)).trans h3, (World.cell?_setCell_other _ _ _ _ (by intro e; subst e; omega)).trans h4⟩
theorem bkI_last {n : Nat} {pre : List (Nat × Int)} {x : Nat × Int} (h : ∃ j, j ≤ n ∧ (pre ++ [x]).map Prod.fst = bkI n j) : pre.length + 1 ≤ n ∧ x.1 + pre.length + 1 = n := by
  obtain ⟨j, hj, e⟩ := h
  have hl := congrArg List.length e
  rw [bkI_length, List.length_map, List.length_append, List.length_singleton] at hl
  obtain ⟨k, rfl⟩ : ∃ k, j = k + 1 := ⟨j - 1, by omega⟩
  rw [bkI_succ, List.map_append] at e
  have e2 := List.append_inj_right' e rfl
  injection e2 with e3
  have e4 : k = pre.length := by omega
  rw [← e4]
  exact ⟨by omega, by rw [e3]; omega⟩
/-- what holds at the head of each round of the division -/
def DvI (w : World) (L : List (Nat × TypeId × Value)) (b5 Q q : Nat) (p iv : Int) (f g : List Int) (o5 : Option Addr) (c5 : Nat) (pre : List (Nat × Int)) (W : World) : Prop :=
  Boxes W L ∧ IntRow b5 W (.slice o5 f.length c5) (tabL f.length (mdS p iv g (fun j => f.getD j 0) f.length pre.length)) ∧ IntRow Q W (.slice (some ⟨Q, 0, none⟩) q q) (qX p iv f g q pre.length) ∧ Below w.heap.size w W
theorem dvI_put {w W : World} {L : List (Nat × TypeId × Value)} {b5 Q q : Nat} {p iv : Int} {f g : List Int} {o5 : Option Addr} {c5 : Nat} {pre : List (Nat × Int)} {k : Nat} {o o' : Obj} (h : DvI w L b5 Q q p iv f g o5 c5 pre W) (hb : w.heap.size ≤ k) (hk : W.heap[k]? = some o) (ho : o.isCells = false) : DvI w L b5 Q q p iv f g o5 c5 pre (W.putObj k o') :=
  ⟨boxes_put h.1 hk ho, row_put8 h.2.1 hk ho, row_put8 h.2.2.1 hk ho, below_put8 h.2.2.2 hb⟩
theorem dvI_below {w A B : World} {L : List (Nat × TypeId × Value)} {b5 Q q : Nat} {p iv : Int} {f g : List Int} {o5 : Option Addr} {c5 : Nat} {pre : List (Nat × Int)} (h : DvI w L b5 Q q p iv f g o5 c5 pre A) (hs : StU8 A B) : DvI w L b5 Q q p iv f g o5 c5 pre B :=
  ⟨boxes_below h.1 hs, row_below h.2.1 hs (Nat.le_refl _), row_below h.2.2.1 hs (Nat.le_refl _), h.2.2.2.trans (hs.mono h.2.2.2.size)⟩
/-- all orders of a region come to the same -/
theorem wp_meet {P : Program} {c : Code} {Q : Exit → Act → World → Prop} {a : Act} {w : World} {T : Array Value} {W : World} (hr : c.wp P (fun e a' w' => e = .normal ∧ a' = { tmps := T, defers := [] } ∧ w' = W) a w) (hk : Q .normal { tmps := T, defers := [] } W) : c.wp P Q a w :=
  Code.wp_mono (fun e a' w' h => by obtain ⟨rfl, rfl, rfl⟩ := h; exact hk) hr
set_option maxHeartbeats 8000000 in
theorem divide_any (p : Int) (hs : smallB p = true) {o o' : Option Addr} {n n' c c' : Nat} {f g : List Int} {w : World} (h : Seen w o n c f) (h' : SeenD w o' n' c' g) (hf : ModP p f) (hg : ModP p g) (h0 : g.length ≠ 0) (hn20 : n ≤ 20) (hn9' : n' ≤ 20) :
    Calls Try.prog 88 #[R1 p, .slice o n c, .slice o' n' c'] w (Own2Post (quoP p f g) (remP p f g) w) := by
  obtain ⟨p2, p97, pp⟩ := small_prime hs
  have HS := Lib.hid h
  obtain ⟨hl', hn', hno', hnc', a', dd, h1', h2'⟩ := h'
  obtain ⟨rfl, hag'⟩ := h1' (by omega)
  have b1 := h2' (n' - 1) (by omega)
  have hn1 : (n' : Int) - 1 = ((n' - 1 : Nat) : Int) := by omega
  have HC' := Lib.hid h2'
  have HL' := Lib.hid hl'
  have HL := Lib.hid h.1
  obtain ⟨i0, hi, hz0, hz1, hz2⟩ := info_parts Try.infoInt64
  have HI := Lib.hid hi
  have HZ0 := Lib.hid hz0
  have HZ1 := Lib.hid hz1
  have HZ2 := Lib.hid hz2
  have HF := Lib.hid hf
  have HG := Lib.hid hg
  have hpz : (p == 0) = false := by simp; omega
  have hle1 : 1 ≤ n' := by omega
  have hlast := hg.rng (n' - 1)
  have HV := Lib.hid (show invP p g = bezX (g.getD (n' - 1) 0) p % p by unfold invP; rw [← hl'])
  have HIP := Lib.hid (invP_dvd p2 p97 pp hg (fun e => h0 (by rw [e]; rfl)))
  generalize hla : g.getD (n' - 1) 0 = la at *
  obtain ⟨iv, hiv⟩ : ∃ x, invP p g = x := ⟨_, rfl⟩
  have hivb := invP_lt (p := p) (g := g) p2
  rw [hiv] at HV hivb
  have HIV := Lib.hid hiv
  obtain ⟨la0, la1⟩ := hlast
  obtain ⟨iv0, iv1⟩ := hivb
  have HM := Lib.hid fun w => modulus8_any p hs w
  obtain ⟨d, hd⟩ : ∃ d, n' - 1 = d := ⟨_, rfl⟩
  rw [hd] at hn1 b1
  have HD := Lib.hid hd
  have HAG := Lib.hid hag'
  have HB1 := Lib.hid b1
  clear h h1' h2' hl' hn' hno' hnc' hi hz0 hz1 hz2 hf hg h0 hla hiv hd b1 hag'
  refine (callsIn_wide (n := 4)).1 ?_
  refine callsIn_of_wp_marks Try.func88 rfl trivial ?_ rfl
  simp only [Try.ntmps88, List.size_toArray, List.length_cons, List.length_nil, Nat.reduceAdd, Nat.reduceSub, Array.replicate_succ, Array.replicate_zero, List.push_toArray, List.append_toArray, List.nil_append, List.cons_append]
  refine wpIn_wide.2 ?_
  -- the boxes of the receiver and of g
  have hbw := (below_a8 w (.cells #[.int .i64 p, .int .i64 1] 25)).alloc (by simp) (.cells #[.slice (some ⟨a', dd, none⟩) n' c'] 26)
  have hbx := Boxed.new (w.alloc (.cells #[.int .i64 p, .int .i64 1] 25)) 26 (.slice (some ⟨a', dd, none⟩) n' c')
  rw [World.size_alloc] at hbx
  have HBW := Lib.hid hbw
  have HBX := Lib.hid hbx
  clear hbw hbx
  go_wp2_with fail
  refine (HM.out _).mono ?_
  rintro e w1 ⟨rfl, hb⟩
  have hb0 := HBW.out.trans (hb.mono HBW.out.size)
  have hx1 := boxed_below8 HBX.out hb
  obtain ⟨bg, hbg⟩ : ∃ bg, w.heap.size + 1 = bg := ⟨_, rfl⟩
  rw [hbg] at hx1
  have hgm : bg < w1.heap.size := hx1.lt
  obtain ⟨bm, hbm⟩ : ∃ bm, w1.heap.size = bm := ⟨_, rfl⟩
  have hbs := hb0.size
  have hb2 := (hb0.alloc hbs (.cells #[.int .i64 p] 2)).alloc (by simp; omega) (.cells #[.int .i64 (d : Int)] 3)
  have hx2 := (hx1.alloc (.cells #[.int .i64 p] 2)).alloc (.cells #[.int .i64 (d : Int)] 3)
  have hm2 := (Boxed.new w1 2 (.int .i64 p)).alloc (.cells #[.int .i64 (d : Int)] 3)
  have hd2 := Boxed.new (w1.alloc (.cells #[.int .i64 p] 2)) 3 (.int .i64 (d : Int))
  rw [World.size_alloc, hbm] at hd2
  rw [hbm] at hm2 hgm hbs
  have cg := (hx1.alloc (.cells #[.int .i64 p] 2)).cell
  have HB0 := Lib.hid hb2
  have HX := Lib.hid (boxes_cons (boxes_cons (boxes_cons (L := []) (by intro x hx; cases hx) hd2) hm2) hx2)
  have HSZ := Lib.hid (And.intro hgm hbs)
  rw [hbg]
  clear hb hb0 hx1 hb2 hx2 hm2 hd2 HM hbg hgm hbs
  go_upto_region 3 with fail
  generalize (w1.alloc (.cells #[.int .i64 p] 2)).alloc (.cells #[.int .i64 (d : Int)] 3) = W3 at *
  have hx3 := HX.out
  have e1 := (hx3 (bg, 26, .slice (some ⟨a', dd, none⟩) n' c') (by simp)).cell
  have e2 := (hx3 (bm, 2, .int .i64 p) (by simp)).cell
  have e3 := (hx3 (bm + 1, 3, .int .i64 (d : Int)) (by simp)).cell
  have e4 : W3.cell? ⟨a', dd + d, none⟩ = some (.int .i64 la) := by rw [HB0.out.cell (p := ⟨a', dd + d, none⟩) HAG.out]; exact HB1.out
  have l1 := (hx3 (bg, 26, .slice (some ⟨a', dd, none⟩) n' c') (by simp)).lt
  have l2 := (hx3 (bm, 2, .int .i64 p) (by simp)).lt
  have l3 := (hx3 (bm + 1, 3, .int .i64 (d : Int)) (by simp)).lt
  have l4 : a' < W3.heap.size := by have := HB0.out.size; have := HAG.out; omega
  have hdn : (d : Int) < (n' : Int) := by omega
  clear cg hx3
  apply wp_meet (W := (W3.alloc (.cells #[.int .i64 (bezX la p % p)] 2)).drew)
  case hr =>
    go_region_held3 (fun W' => Below W3.heap.size W3 W' ∧ W'.cell? ⟨bg, 0, none⟩ = some (.slice (some ⟨a', dd, none⟩) n' c') ∧ W'.cell? ⟨bm, 0, none⟩ = some (.int .i64 p) ∧ W'.cell? ⟨bm + 1, 0, none⟩ = some (.int .i64 (d : Int)) ∧ W'.cell? ⟨a', dd + d, none⟩ = some (.int .i64 la))
      (first | exact ⟨below_drewN (Below.refl _ _) 1, e1, e2, e3, e4⟩ | exact keep8_alloc ‹_› _ | exact keep8_alloc (W' := W3.drew) ⟨below_drewN (Below.refl _ _) 1, e1, e2, e3, e4⟩ (.cells #[.int .i64 0] 2) | exact keep8_alloc (W' := W3.drew) ⟨below_drewN (Below.refl _ _) 1, e1, e2, e3, e4⟩ (.cells #[.int .i64 (bezX la p % p)] 2) | assumption) (first | (go_at_call 134; refine (inverse8_any la p _ la0 la1 p2 (by omega)).mono ?_; rintro e wn ⟨rfl, rfl⟩))
    all_goals exact ⟨rfl, rfl, rfl⟩
  rw [← HV.out]
  -- the world behind the inverse
  have hx4 := boxes_below (boxes_drew HX.out) (below_a8 W3.drew (.cells #[.int .i64 iv] 2))
  have hi4 := Boxed.new W3.drew 2 (.int .i64 iv)
  have hb4 := (below_drewN HB0.out 1).alloc (by have := HB0.out.size; exact this) (.cells #[.int .i64 iv] 2)
  have HX4 := Lib.hid (boxes_cons hx4 hi4)
  have HB4 := Lib.hid hb4
  have HS4 := Lib.hid (seen_below HS.out hb4)
  clear hx4 hi4 hb4 e1 e2 e3 e4 l1 l2 l3 l4 HX HB0 hbm
  obtain ⟨bi, hbi⟩ : ∃ bi, W3.heap.size = bi := ⟨_, rfl⟩
  replace HX4 : Hid (Boxes (W3.alloc (.cells #[.int .i64 iv] 2)).drew [(bi, 2, .int .i64 iv), (bg, 26, .slice (some ⟨a', dd, none⟩) n' c'), (bm, 2, .int .i64 p), (bm + 1, 3, .int .i64 (d : Int))]) := by rw [← hbi]; exact HX4
  replace HB4 : Hid (Below w.heap.size w (W3.alloc (.cells #[.int .i64 iv] 2)).drew) := HB4
  replace HS4 : Hid (Seen (W3.alloc (.cells #[.int .i64 iv] 2)).drew o n c f) := HS4
  rw [hbi]
  generalize (W3.alloc (.cells #[.int .i64 iv] 2)).drew = W4 at *
  clear hbi
  have HBL4 := Lib.hid (fun y hy => (HX4.out y hy).lt)
  go_wp2_with fail
  refine (clone8_any HS4.out).mono ?_
  rintro e W5 ⟨v5, rfl, hr5, hb5⟩
  obtain ⟨o5, c5, rfl⟩ := row_slice hr5
  have hown5 := fun k hk => (World.ownsRow.lt hr5 k hk).2
  have hx5 := boxes_below HX4.out hb5
  have hb50 := HB4.out.trans (hb5.mono HB4.out.size)
  have hx6 := boxes_cons (boxes_below hx5 (below_a8 W5 (.cells #[.slice o5 f.length c5] 26))) (Boxed.new W5 26 (.slice o5 f.length c5))
  have hr6 := row_below hr5 (below_a8 W5 (.cells #[.slice o5 f.length c5] 26)) (Nat.le_refl _)
  have hb6 := hb50.alloc hb50.size (.cells #[.slice o5 f.length c5] 26)
  have hs6 : (W5.alloc (.cells #[.slice o5 f.length c5] 26)).heap.size = W5.heap.size + 1 := by simp
  obtain ⟨br, hbr⟩ : ∃ br, W5.heap.size = br := ⟨_, rfl⟩
  rw [hbr] at hx6 hs6 hown5
  have HOWN := Lib.hid hown5
  have cd := (hx6 (bm + 1, 3, .int .i64 (d : Int)) (by simp)).cell
  have HX6 := Lib.hid hx6
  have HR6 := Lib.hid hr6
  have HB6 := Lib.hid hb6
  have hlow : w.heap.size ≤ W4.heap.size ∧ W4.heap.size ≤ br := ⟨HB4.out.size, by rw [← hbr]; exact hb5.size⟩
  have HLOW := Lib.hid hlow
  obtain ⟨q, hq⟩ : ∃ q, n - d = q := ⟨_, rfl⟩
  have hmax : max ((n : Int) - (d : Int)) 0 = (q : Int) := by omega
  have hq20 : q ≤ 20 := by omega
  have HQD := Lib.hid hq
  clear hown5 hr5 hb5 hx5 hb50 hx6 hr6 hb6 hlow HX4 HB4 HS4 hq
  go_upto_region 5 with fail
  generalize W5.alloc (.cells #[.slice o5 f.length c5] 26) = W6 at *
  clear hbr
  obtain ⟨Q, hQ⟩ : ∃ Q, W6.heap.size = Q := ⟨_, rfl⟩
  have HSQ := Lib.hid (show Q = br + 1 by rw [← hQ]; exact hs6)
  have HWQ := Lib.hid hQ
  have hbl6 := fun y hy => (HX6.out y hy).lt
  rw [hQ] at hbl6
  have HBL6 := Lib.hid hbl6
  clear hbl6
  clear hs6
  go_wp2_with (at_make; refine wpList_make_full _ rfl (.tmp 33) (.tmp 33) 26 rfl W6.heap.size 2 i0 (.int .i64 0) 1 Try.underlying26 HI.out HZ0.out HZ1.out .i64 .i64 _ _ q rfl rfl rfl rfl (by rw [HZ2.out]; omega) (by unfold maxLen; omega) (Nat.le_refl _) ?_; intro W7 hown hgrow)
  rw [hQ] at hown
  have hb7 := HB6.out.grown hgrow HB6.out.size (fun k h => by cases h)
  have hx7 := boxes_grown HX6.out hgrow
  have hr7 := row_none8 HR6.out hgrow
  have hq7 : IntRow Q W7 (.slice (some ⟨Q, 0, none⟩) q q) (tabL q fun _ => 0) := by rw [← hQ] at hown ⊢; exact int_made hown
  have hQl : Q < W7.heap.size := (World.ownsRow.lt hq7 Q rfl).2
  obtain ⟨bq, hbq⟩ : ∃ bq, W7.heap.size = bq := ⟨_, rfl⟩
  have hx8 := boxes_cons (boxes_below hx7 (below_a8 W7 (.cells #[.slice (some ⟨Q, 0, none⟩) q q] 26))) (Boxed.new W7 26 (.slice (some ⟨Q, 0, none⟩) q q))
  have hs8 : (W7.alloc (.cells #[.slice (some ⟨Q, 0, none⟩) q q] 26)).heap.size = bq + 1 := by rw [← hbq]; simp
  have hbk := Boxed.new (W7.alloc (.cells #[.slice (some ⟨Q, 0, none⟩) q q] 26)) 26 (.slice (some ⟨Q, 0, none⟩) q q)
  have hx9 := boxes_below hx8 (below_a8 (W7.alloc (.cells #[.slice (some ⟨Q, 0, none⟩) q q] 26)) (.cells #[.slice (some ⟨Q, 0, none⟩) q q] 26))
  have hb9 := (hb7.alloc hb7.size (.cells #[.slice (some ⟨Q, 0, none⟩) q q] 26)).alloc (by rw [hs8, ← hbq]; have := hb7.size; omega) (.cells #[.slice (some ⟨Q, 0, none⟩) q q] 26)
  have hr9 := row_below (row_below hr7 (below_a8 W7 (.cells #[.slice (some ⟨Q, 0, none⟩) q q] 26)) (Nat.le_refl _)) (below_a8 (W7.alloc (.cells #[.slice (some ⟨Q, 0, none⟩) q q] 26)) (.cells #[.slice (some ⟨Q, 0, none⟩) q q] 26)) (Nat.le_refl _)
  have hq9 := row_below (row_below hq7 (below_a8 W7 (.cells #[.slice (some ⟨Q, 0, none⟩) q q] 26)) (Nat.le_refl _)) (below_a8 (W7.alloc (.cells #[.slice (some ⟨Q, 0, none⟩) q q] 26)) (.cells #[.slice (some ⟨Q, 0, none⟩) q q] 26)) (Nat.le_refl _)
  rw [hs8] at hbk
  rw [hbq] at hx9 hQl
  have HX9 := Lib.hid hx9
  have HK9 := Lib.hid hbk
  have HB9 := Lib.hid hb9
  have HR9 := Lib.hid hr9
  have HQ9 := Lib.hid hq9
  have HQL := Lib.hid hQl
  clear hown hgrow hb7 hx7 hr7 hq7 hx8 hbk hx9 hb9 hr9 hq9 hQl HX6 HR6 HB6 cd hmax
  refine (backward8_made _ _ _ _).mono ?_
  rintro e W8 ⟨rfl, rfl⟩
  rw [hs8]
  go_wp2_with fail
  generalize (W7.alloc (.cells #[.slice (some ⟨Q, 0, none⟩) q q] 26)).alloc (.cells #[.slice (some ⟨Q, 0, none⟩) q q] 26) = W9 at *
  clear hs8 hbq
  refine (wpIn_wide (n := 4)).1 ?_
  have hsz := HB9.out.size
  have hkl : bq + 1 < W9.heap.size := HK9.out.lt
  have hbQ : br < Q ∧ Q < bq := ⟨by have := HSQ.out; omega, HQL.out⟩
  refine wpIn_rangeBb (F := Fence.wide) (n := 4) (P := Try.prog) (w := W9) rfl (by omega) (gf := 159) (ba := #[]) (lb := #[.pointer (some ⟨bq + 1, 0, none⟩)]) rfl trivial (enters_of Try.func159 (by kernel_rfl) rfl)
    (backIdx_by 3 (by omega) Q (bq + 1) q q (by omega)) (fun _ => rfl)
    (DvI w [(bq, 26, .slice (some ⟨Q, 0, none⟩) q q), (br, 26, .slice o5 f.length c5), (bi, 2, .int .i64 iv), (bg, 26, .slice (some ⟨a', dd, none⟩) n' c'), (bm, 2, .int .i64 p), (bm + 1, 3, .int .i64 (d : Int))] W4.heap.size Q q p iv f g o5 c5) (fun _ _ => False)
    (fun x => { tmps := #[R1 p, .slice o n c, .slice (some ⟨a', dd, none⟩) n' c', .pointer (some ⟨w.heap.size, 0, none⟩), undef, .pointer (some ⟨bg, 0, none⟩), .slice none 0 0, .slice none 0 0, .pointer (some ⟨bm, 0, none⟩), .pointer (some ⟨bm + 1, 0, none⟩), .pointer (some ⟨bi, 0, none⟩), .pointer (some ⟨br, 0, none⟩), .pointer (some ⟨bq, 0, none⟩), .int .i64 x.1, undef, undef, .agg #[.int .i64 p, .int .i64 1], .int .i64 p, .slice (some ⟨a', dd, none⟩) n' c', .int .i64 n', .int .i64 d, .slice (some ⟨a', dd, none⟩) n' c', .int .i64 d, .pointer (some ⟨a', dd + d, none⟩), .int .i64 la, .int .i64 p, .int .i64 iv, .slice o n c, .slice o5 f.length c5, .slice o n c, .int .i64 n, .int .i64 d, .int .i64 ((n : Int) - (d : Int)), .int .i64 q, .slice (some ⟨Q, 0, none⟩) q q, .slice (some ⟨Q, 0, none⟩) q q, .func (.func 159) #[] #[.pointer (some ⟨bq + 1, 0, none⟩)], .int .i64 x.1, .int .i64 x.2, undef, undef, undef, undef, undef, undef, undef, undef, undef, undef, undef, undef, undef, undef, undef, undef, undef, undef, undef, undef, undef, undef, undef, undef, undef, undef, undef, undef, undef, undef, undef, undef, undef, undef, undef, undef, undef, undef, undef, undef, undef, undef, undef, undef], defers := [] })
    ?ip ?xp ?fp ?fq ?ft ?is ?xs ?sk ?h0 ?s0 ?assign ?body ?done ?stop
  case ip => intro pre W k o o' h hk ho hc; exact dvI_put h (by omega) ho hc
  case xp => intro _ _ _ _ _ h; exact h.elim
  case fp => intro A W k o o' hf hk ho hc; exact frN_put hf ho hc (by omega)
  case fq => intro W k o o' hk ho hc; exact frN_put (frN_refl W) ho hc (by omega)
  case ft => intro A B C h k; exact frN_trans h k
  case is => intro pre A B h hs; exact dvI_below h hs
  case xs => intro _ _ _ h; exact h.elim
  case sk => intro A B k o hs hk ho hc; exact (hs.block k (Array.getElem?_eq_some_iff.1 ho).1).trans ho
  case h0 =>
    intro oo oo'
    have hbb : Below W9.heap.size W9 ((W9.alloc oo).alloc oo') := (below_a8 W9 oo).alloc (by simp) oo'
    have hr0 : f = tabL f.length (mdS p iv g (fun j => f.getD j 0) f.length ([] : List (Nat × Int)).length) := by
      refine ext_getD (by rw [tabL_length]) fun i hi => ?_
      rw [tabL_getD hi]; rfl
    refine ⟨boxes_below HX9.out hbb, by rw [← hr0]; exact row_below HR9.out hbb (Nat.le_refl _), ?_, HB9.out.trans (hbb.mono HB9.out.size)⟩
    have hq0 : qX p iv f g q ([] : List (Nat × Int)).length = tabL q fun _ => 0 := by
      by_cases h0 : q = 0
      · rw [h0]; rfl
      · exact qX_zero (by have := HQD.out; have := HD.out; have := HL.out; have := HL'.out; omega)
    rw [hq0]; exact row_below HQ9.out hbb (Nat.le_refl _)
  case s0 =>
    intro oo oo'
    have hbb : Below W9.heap.size W9 ((W9.alloc oo).alloc oo') := (below_a8 W9 oo).alloc (by simp) oo'
    exact ⟨(HK9.out.alloc oo).alloc oo', fun k hk => ⟨_, int_at (row_below HQ9.out hbb (Nat.le_refl _)) (tabL_length _ _) hk⟩⟩
  case assign =>
    intro lp x W K hK
    gi_wp2
    exact hK
  case body =>
    rintro lp pre x W hsp ⟨hx, hr, hqr, hb⟩
    obtain ⟨hk1, hxk⟩ := bkI_last hsp
    obtain ⟨i, hi⟩ : ∃ i, x.1 = i := ⟨_, rfl⟩
    obtain ⟨y9, hy9⟩ : ∃ y, x.2 = y := ⟨_, rfl⟩
    obtain ⟨k, hk⟩ : ∃ k, pre.length = k := ⟨_, rfl⟩
    have hlen : (pre ++ [x]).length = k + 1 := by rw [List.length_append, hk]; rfl
    have HLEN := Lib.hid hlen
    rw [hi, hy9]
    rw [hk] at hr hqr hk1 hxk
    rw [hi] at hxk
    clear hsp hlen hi hy9 hk
    have hqn : q + g.length = f.length + 1 := by have := HQD.out; have := HD.out; have := HL.out; have := HL'.out; omega
    have HQN := Lib.hid hqn
    have hik : i + g.length + k = f.length := by omega
    have HIK := Lib.hid hik
    have hf1 : 1 ≤ f.length := by have := HL'.out; omega
    have hr' : W.ownsRow W4.heap.size 2 1 (.slice o5 f.length c5) f.length ((tabL f.length (mdS p iv g (fun j => f.getD j 0) f.length k)).map (Value.int .i64)) := by
      have h9 := hr
      unfold IntRow at h9
      rw [tabL_length] at h9; exact h9
    rcases row_shape hr' with ⟨hz, _⟩ | ⟨_, G, cap, he, hbg5, hgw⟩
    · omega
    injection he with he1 he2 he3
    subst he1 he3
    have hGr : G < br := HOWN.out G rfl
    have hGQ : G ≠ Q := by omega
    have HR := Lib.hid hr
    have HQ := Lib.hid hqr
    have HX := Lib.hid hx
    have HB := Lib.hid hb
    have HLW := Lib.hid (And.intro hbg5 HLOW.out.1)
    obtain ⟨m, hm⟩ : ∃ m, i + d = m := ⟨_, rfl⟩
    have him : (i : Int) + (d : Int) = (m : Int) := by omega
    have hmn : m < f.length := by have := HD.out; have := HL'.out; omega
    have hmn' : (m : Int) < (f.length : Int) := by omega
    have hiq : i < q := by omega
    have hiq' : (i : Int) < (q : Int) := by omega
    have wm : IntKind.i64.wrap (m : Int) = (m : Int) := IntWalk.i64_in _ (by have := HL.out; omega)
    have c1 := int_at hr (tabL_length _ _) hmn
    rw [tabL_getD hmn] at c1
    have hce : mdC p iv g (fun j => f.getD j 0) f.length k = mdS p iv g (fun j => f.getD j 0) f.length k m * iv % p := by unfold mdC; rw [show f.length - 1 - k = m by have := HD.out; have := HL'.out; omega]
    have HSUB := Lib.hid (subX_end (p := p) (inv := iv) (g := g) (r0 := fun j => f.getD j 0) hik)
    have HQS := Lib.hid (qX_step (p := p) (inv := iv) (f := f) (g := g) hqn hik)
    obtain ⟨y0, y1⟩ := mdS_lt (inv := iv) (g := g) (N := f.length) HF.out k m
    have hpb := prod_small p97 ⟨y0, y1⟩ ⟨iv0, iv1⟩
    have HBD := Lib.hid (fun j => mdS_lt (inv := iv) (g := g) (N := f.length) HF.out k j)
    obtain ⟨z, hz⟩ : ∃ z, mdS p iv g (fun j => f.getD j 0) f.length k m = z := ⟨_, rfl⟩
    rw [hz] at c1 hce hpb y0 y1
    obtain ⟨xv, hxv⟩ : ∃ x, mdC p iv g (fun j => f.getD j 0) f.length k = x := ⟨_, rfl⟩
    rw [hxv] at hce HSUB HQS
    have wz : IntKind.i64.wrap (z * iv) = z * iv := IntWalk.i64_in _ (by omega)
    have hz0 := hpb.1
    have tz : (z * iv).tmod p = xv := by rw [tmod_nonneg hpb.1, hce]
    have tz2 : z * iv % p = xv := hce.symm
    have hp0 : ¬ p = 0 := by omega
    have hx0 : 0 ≤ xv ∧ xv < p := by rw [hce]; exact ⟨Int.emod_nonneg _ (by omega), Int.emod_lt_of_pos _ (by omega)⟩
    have wx : IntKind.i64.wrap xv = xv := IntWalk.i64_in _ (by omega)
    have HX0 := Lib.hid hx0
    have HQV := Lib.hid (show (qX p iv f g q (k + 1)).getD i 0 = xv by
      rw [← HQS.out]
      have hlq : (qX p iv f g q k).length = q := qX_length _ _ _ _ _ _
      simp [List.getD, show i < (qX p iv f g q k).length by omega])
    have f2 := int_frozen hqr (qX_length p iv f g q k) i
    have c2 := int_at hqr (qX_length p iv f g q k) hiq
    obtain ⟨y2, hy2⟩ : ∃ y2, (qX p iv f g q k).getD i 0 = y2 := ⟨_, rfl⟩
    rw [hy2] at c2
    have xq := (hx (bq, 26, .slice (some ⟨Q, 0, none⟩) q q) (by simp)).cell
    have xr := (hx (br, 26, .slice (some ⟨G, 0, none⟩) f.length c5) (by simp)).cell
    have xi := (hx (bi, 2, .int .i64 iv) (by simp)).cell
    have xg := (hx (bg, 26, .slice (some ⟨a', dd, none⟩) n' c') (by simp)).cell
    have xm := (hx (bm, 2, .int .i64 p) (by simp)).cell
    have xd := (hx (bm + 1, 3, .int .i64 (d : Int)) (by simp)).cell
    clear hqr hx hb hr hr' hce hz hxv hpb hy2 hm hgw hx0 he2
    gi_wp2
    refine wpIn_region_still_tail 13 (by kernel_rfl) (by kernel_rfl) (by kernel_rfl) ?_
    simp only [List.take_succ_cons, List.take_zero, List.drop_succ_cons, List.drop_zero]
    iterate 13 still_step
    refine wpStill_nil ?_
    change wpListIn _ _ _ _ _ _ _ W.drew
    have HRd := Lib.hid (World.ownsRow.drew HR.out)
    have HQd := Lib.hid (World.ownsRow.drew HQ.out)
    have HBd := Lib.hid (below_drewN HB.out 1)
    have HXd := Lib.hid (boxes_drew HX.out)
    have HKd := Lib.hid (KeepsOthers.drew W)
    have HFd := Lib.hid (frN_drew (g := Q) (b := bq + 1) (n := q) W)
    replace f2 : W.drew.frozen? ⟨Q, i, none⟩ = false := f2
    replace c2 : W.drew.cell? ⟨Q, i, none⟩ = _ := c2
    replace HRd : Hid (IntRow W4.heap.size W.drew (.slice (some ⟨G, 0, none⟩) f.length c5) (tabL f.length (mdS p iv g (fun j => f.getD j 0) f.length k))) := HRd
    replace HQd : Hid (IntRow Q W.drew (.slice (some ⟨Q, 0, none⟩) q q) (qX p iv f g q k)) := HQd
    replace HBd : Hid (Below w.heap.size w W.drew) := HBd
    clear HR HQ HB HX c1 xq xr xi xg xm xd wz tz tz2
    generalize W.drew = Wd at *
    have HQ1 := Lib.hid (int_stored HQd.out (qX_length p iv f g q k) i xv)
    rw [HQS.out] at HQ1
    have hQw : w.heap.size ≤ Q := by have := HLW.out; omega
    have HR1 := Lib.hid (row_other8 HRd.out (a := ⟨Q, i, none⟩) (own_ne8 hGQ) (.int .i64 xv))
    have HB1 := Lib.hid (HBd.out.setCell (p := ⟨Q, i, none⟩) hQw (.int .i64 xv))
    have HX1 := Lib.hid (boxes_set HXd.out (a := ⟨Q, i, none⟩) (by
      intro y hy
      have h6 := HBL6.out
      show y.1 ≠ Q
      rcases List.mem_cons.1 hy with rfl | hy
      · show bq ≠ Q; omega
      · have := h6 y hy; omega) (.int .i64 xv))
    have HK1 := Lib.hid (HKd.out.trans (KeepsOthers.setCell Wd ⟨Q, i, none⟩ (.int .i64 xv)))
    have HF1 := Lib.hid (frN_trans HFd.out (frN_set (g := Q) (b := bq + 1) (n := q) (A := Wd) (a := ⟨Q, i, none⟩) xv (by show bq + 1 ≠ Q; omega)))
    have xg1 := (HX1.out (bg, 26, .slice (some ⟨a', dd, none⟩) n' c') (by simp)).cell
    clear HRd HQd HBd HXd HKd HFd HQS
    gi_wp2
    generalize Wd.setCell ⟨Q, i, none⟩ (.int .i64 xv) = Ws at *
    clear c2 f2 xg1
    gi_loopw [54] (fun s wr => ∃ j : Nat, j ≤ n' ∧ s = .int .i64 j ∧ KeepsOthers W wr ∧ FrN Q (bq + 1) q W wr ∧ Boxes wr [(bq, 26, .slice (some ⟨Q, 0, none⟩) q q), (br, 26, .slice (some ⟨G, 0, none⟩) f.length c5), (bi, 2, .int .i64 iv), (bg, 26, .slice (some ⟨a', dd, none⟩) n' c'), (bm, 2, .int .i64 p), (bm + 1, 3, .int .i64 (d : Int))] ∧ IntRow W4.heap.size wr (.slice (some ⟨G, 0, none⟩) f.length c5) (subX p (mdS p iv g (fun j => f.getD j 0) f.length k) g xv f.length i j) ∧ IntRow Q wr (.slice (some ⟨Q, 0, none⟩) q q) (qX p iv f g q (k + 1)) ∧ Below w.heap.size w wr) (fun s _ => n' - (intOf s).toNat)
    case atStart => exact ⟨0, Nat.zero_le _, rfl, HK1.out, HF1.out, HX1.out, by rw [subX_zero]; exact HR1.out, HQ1.out, HB1.out⟩
    case round =>
      obtain ⟨j, hj, rfl, hko, hfr, hx, hr, hqr, hb⟩ := hrel
      clear HK1 HF1 HX1 HR1 HQ1 HB1
      by_cases hltj : j < n'
      · obtain ⟨t, ht⟩ : ∃ t, i + j = t := ⟨_, rfl⟩
        have hijt : (i : Int) + (j : Int) = (t : Int) := by omega
        have htn : t < f.length := by have := HIK.out; have := HL'.out; omega
        have wt : IntKind.i64.wrap (t : Int) = (t : Int) := IntWalk.i64_in _ (by have := HL.out; omega)
        have b2 : wr.cell? ⟨a', dd + j, none⟩ = some (.int .i64 (g.getD j 0)) := by rw [hb.cell (p := ⟨a', dd + j, none⟩) HAG.out]; exact HC'.out j hltj
        have c4 := int_at hr (subX_length _ _ _ _ _ _ _) htn
        rw [subX_at ht htn] at c4
        have f4 := int_frozen hr (subX_length _ _ _ _ _ _ _) t
        have c5q := int_at hqr (qX_length p iv f g q (k + 1)) hiq
        rw [HQV.out] at c5q
        have HE := Lib.hid (subX_step (p := p) (r := mdS p iv g (fun j => f.getD j 0) f.length k) (g := g) (c := xv) ht htn)
        have hbd := HBD.out t
        have hmd := prod_small p97 HX0.out (HG.out.rng j)
        obtain ⟨z, hzz⟩ : ∃ x, g.getD j 0 = x := ⟨_, rfl⟩
        obtain ⟨r, hrr⟩ : ∃ x, mdS p iv g (fun j => f.getD j 0) f.length k t = x := ⟨_, rfl⟩
        rw [hzz] at b2 HE hmd
        rw [hrr] at c4 HE hbd
        have w1 : IntKind.i64.wrap (xv * z) = xv * z := IntWalk.i64_in _ (by omega)
        have w2 : IntKind.i64.wrap (r - xv * z) = r - xv * z := IntWalk.i64_in _ (by omega)
        have htn' : (t : Int) < (f.length : Int) := by omega
        have hltj' : (j : Int) < (n' : Int) := by omega
        have xq := (hx (bq, 26, .slice (some ⟨Q, 0, none⟩) q q) (by simp)).cell
        have xr := (hx (br, 26, .slice (some ⟨G, 0, none⟩) f.length c5) (by simp)).cell
        have xm := (hx (bm, 2, .int .i64 p) (by simp)).cell
        have HR := Lib.hid hr
        have HQ := Lib.hid hqr
        have HX := Lib.hid hx
        have HB := Lib.hid hb
        have HK := Lib.hid hko
        have HF9 := Lib.hid hfr
        clear hzz hrr ht hbd hmd hr hqr hx hb hko hfr
        gi_wp2
        refine wpIn_region_still_tail 20 (by kernel_rfl) (by kernel_rfl) (by kernel_rfl) ?_
        simp only [List.take_succ_cons, List.take_zero, List.drop_succ_cons, List.drop_zero]
        iterate 18 still_step
        still_call ((remainder8_any (r - xv * z) p _ p2 (by omega)).mono fun e w h => ⟨h.1, h.2.symm⟩)
        repeat still_step
        refine wpStill_nil ?_
        change wpListIn _ _ _ _ _ _ _ wr.drew
        have HRd := Lib.hid (World.ownsRow.drew HR.out)
        have HQd := Lib.hid (World.ownsRow.drew HQ.out)
        have HBd := Lib.hid (below_drewN HB.out 1)
        have HXd := Lib.hid (boxes_drew HX.out)
        have HKd := Lib.hid (HK.out.trans (KeepsOthers.drew wr))
        have HFd := Lib.hid (frN_trans HF9.out (frN_drew wr))
        replace f4 : wr.drew.frozen? ⟨G, t, none⟩ = false := f4
        replace c4 : wr.drew.cell? ⟨G, t, none⟩ = _ := c4
        replace HRd : Hid (IntRow W4.heap.size wr.drew (.slice (some ⟨G, 0, none⟩) f.length c5) (subX p (mdS p iv g (fun j => f.getD j 0) f.length k) g xv f.length i j)) := HRd
        replace HQd : Hid (IntRow Q wr.drew (.slice (some ⟨Q, 0, none⟩) q q) (qX p iv f g q (k + 1))) := HQd
        replace HBd : Hid (Below w.heap.size w wr.drew) := HBd
        clear HR HQ HB HX HK HF9 b2 c5q xq xr xm
        generalize wr.drew = Wd2 at *
        have HR3 := Lib.hid (int_stored HRd.out (subX_length _ _ _ _ _ _ _) t ((r - xv * z) % p))
        rw [HE.out] at HR3
        have HQ3 := Lib.hid (row_other8 HQd.out (a := ⟨G, t, none⟩) (own_ne8 (Ne.symm hGQ)) (.int .i64 ((r - xv * z) % p)))
        have hGw : w.heap.size ≤ G := by have := HLW.out; omega
        have HB3 := Lib.hid (HBd.out.setCell (p := ⟨G, t, none⟩) hGw (.int .i64 ((r - xv * z) % p)))
        have HX3 := Lib.hid (boxes_set HXd.out (a := ⟨G, t, none⟩) (by
          intro y hy
          have h4 := HBL4.out
          have h5 := HLW.out.1
          show y.1 ≠ G
          rcases List.mem_cons.1 hy with rfl | hy
          · show bq ≠ G; omega
          rcases List.mem_cons.1 hy with rfl | hy
          · show br ≠ G; omega
          · have := h4 y hy; omega) (.int .i64 ((r - xv * z) % p)))
        have HK3 := Lib.hid (HKd.out.trans (KeepsOthers.setCell Wd2 ⟨G, t, none⟩ (.int .i64 ((r - xv * z) % p))))
        have HF3 := Lib.hid (frN_trans HFd.out (frN_set (g := Q) (b := bq + 1) (n := q) (A := Wd2) (a := ⟨G, t, none⟩) ((r - xv * z) % p) (by show bq + 1 ≠ G; omega)))
        clear HRd HQd HBd HXd HKd HFd
        gi_wp2
        go_roundw
        case rel => exact ⟨j + 1, by omega, by go_num, HK3.out, HF3.out, HX3.out, HR3.out, HQ3.out, HB3.out⟩
        case measure => simp only [intOf]; omega
      · have hjn : j = g.length := by have := HL'.out; omega
        have HR2 := Lib.hid (show IntRow W4.heap.size wr (.slice (some ⟨G, 0, none⟩) f.length c5) (tabL f.length (mdS p iv g (fun j => f.getD j 0) f.length (k + 1))) by rw [← HSUB.out, ← hjn]; exact hr)
        have HQ := Lib.hid hqr
        have HX := Lib.hid hx
        have HB := Lib.hid hb
        have HK := Lib.hid hko
        have HF9 := Lib.hid hfr
        clear hr hqr hx hb hko hfr hjn
        gi_wp2
        exact ⟨HK.out, HF9.out, HX.out, by rw [HLEN.out]; exact HR2.out, by rw [HLEN.out]; exact HQ.out, HB.out⟩
  case done =>
    rintro D xs W hD hxs ⟨hx, hr, hqr, hb⟩ hK
    have hxl : xs.length = q := by have h := congrArg List.length hxs; rwa [List.length_map, bkI_length] at h
    rw [hxl] at hr hqr
    have xq := (hx (bq, 26, .slice (some ⟨Q, 0, none⟩) q q) (by simp)).cell
    have xr := (hx (br, 26, .slice o5 f.length c5) (by simp)).cell
    have hql : qX p iv f g q q = quoP p f g := by
      rw [← HIV.out]
      by_cases h0 : q = 0
      · rw [few_quo (by have := HQD.out; have := HD.out; have := HL.out; have := HL'.out; omega), h0]; rfl
      · exact qX_full pp HF.out HIP.out (by have := HQD.out; have := HD.out; have := HL.out; have := HL'.out; omega) (by omega) (by have := HL'.out; omega)
    have hrl : trimL (tabL f.length (mdS p iv g (fun j => f.getD j 0) f.length q)) = remP p f g := by
      rw [← HIV.out]; exact rX_end rfl (by have := HQD.out; have := HD.out; have := HL.out; have := HL'.out; omega)
    have lr : (tabL f.length (mdS p iv g (fun j => f.getD j 0) f.length q)).length = f.length := tabL_length _ _
    have hu := trim_row hr
    rw [hrl] at hu
    rw [hql] at hqr
    have SR := Lib.hid (show Seen W o5 f.length c5 (tabL f.length (mdS p iv g (fun j => f.getD j 0) f.length q)) by
      have h := row_seen (o := o5) (n := (tabL f.length (mdS p iv g (fun j => f.getD j 0) f.length q)).length) (c := c5) (w := W) (by rw [lr]; exact hr) (by rw [lr]; have := HL.out; omega)
      rw [lr] at h; exact h)
    generalize tabL f.length (mdS p iv g (fun j => f.getD j 0) f.length q) = rl at *
    have HU := Lib.hid (intRow_lower hu HLOW.out.1)
    have HV9 := Lib.hid (intRow_lower (b := w.heap.size) hqr (by have := HLOW.out; omega))
    have HB := Lib.hid hb
    have hKD : W.drew.heap[D]? = some (.deferred (some [])) := hK
    have HKD := Lib.hid hKD
    have hDw : w.heap.size ≤ D := by omega
    have HAP := Lib.hid (show (Value.slice (some ⟨Q, 0, none⟩) q q).ownBlock = none ∨ (Value.slice (some ⟨Q, 0, none⟩) q q).ownBlock ≠ (Value.slice o5 (trimN rl rl.length) c5).ownBlock from .inr (fun e => by
      have h1 : (Value.slice o5 f.length c5).ownBlock = some Q := by
        cases o5 with
        | none => exact absurd e.symm (by intro h; cases h)
        | some a => exact e.symm
      have := HOWN.out Q h1
      omega))
    clear hx hr hqr hb hK hql hrl lr hu hKD hxs hxl
    obtain ⟨tn, htn⟩ : ∃ tn, trimN rl rl.length = tn := ⟨_, rfl⟩
    rw [htn] at HU HAP
    have HTN := Lib.hid htn
    clear htn
    go_wp2_with fail
    refine wp_region_still_lit (by kernel_rfl) (by kernel_rfl) ?_
    iterate 2 still_step
    still_call ((trimmed_any (seen_below SR.out (below_drewN (Below.refl _ _) 1))).mono fun e w h => ⟨h.1, h.2.symm⟩)
    repeat still_step
    refine wpStill_nil ?_
    go_wp2_with fail
    rw [HTN.out]
    refine ⟨by simp, .inl ⟨_, _, rfl, run_takeDeferred HKD.out, ?_⟩⟩
    refine ⟨.tuple #[.slice (some ⟨Q, 0, none⟩) q q, .slice o5 tn c5], by simp [results, Try.results88, go_sem], ?_⟩
    exact ⟨_, _, rfl, row_put8 (w := W.drew) HV9.out HKD.out rfl, row_put8 (w := W.drew) HU.out HKD.out rfl, below_put8 (below_drewN HB.out 1) hDw, HAP.out⟩
  case stop => intro _ _ _ _ _ h; exact h.elim
end Go.Proofs.Ytbjkcoajabcibaa
namespace Go.Proofs.Ytbjkcoajabcibaa
open Go.RowKit
set_option linter.unusedVariables false
set_option linter.unusedSimpArgs false
set_option maxRecDepth 20000
theorem rest_any (p : Int) (hs : smallB p = true) {o o' : Option Addr} {n n' c c' : Nat} {f g : List Int} {w : World} (h : Seen w o n c f) (h' : Seen w o' n' c' g) (hf : ModP p f) (hg : ModP p g) (h0 : g.length ≠ 0) (hn20 : n ≤ 20) (hn9' : n' ≤ 20) :
    Calls Try.prog 168 #[R1 p, .slice o n c, .slice o' n' c'] w (OwnPost (remP p f g) w) := by
  have hb1 := below_a8 w (.cells #[.int .i64 p, .int .i64 1] 25)
  have HD := Lib.hid (divide_any p hs (seen_below h hb1) (seen_d (seen_below h' hb1)) hf hg h0 hn20 hn9')
  clear h h' hf hg h0 hb1
  go_enter Try.func168, Try.ntmps168
  go_wp2_with fail
  refine HD.out.mono ?_
  rintro e w3 ⟨v, u, rfl, hq, hr, hb, hap⟩
  have HR := Lib.hid (intRow_lower (b := w.heap.size) hr (by simp))
  have HB := Lib.hid (box8 hb)
  clear hq hr hb hap HD
  go_wp2_with fail
  go_ret
  exact ⟨_, rfl, HR.out, HB.out⟩
theorem keep8 {w0 W W' : World} {a b : Addr} {u v : Value} (h : Below w0.heap.size w0 W ∧ W.cell? a = some u ∧ W.cell? b = some v) (hb : Below W.heap.size W W') : Below w0.heap.size w0 W' ∧ W'.cell? a = some u ∧ W'.cell? b = some v :=
  ⟨h.1.trans (hb.mono h.1.size), by rw [hb.cell (World.block_lt_of_cell? _ _ h.2.1)]; exact h.2.1, by rw [hb.cell (World.block_lt_of_cell? _ _ h.2.2)]; exact h.2.2⟩
theorem start8 (w : World) (p : Int) : Below w.heap.size w (w.alloc (.cells #[.int .i64 p, .int .i64 1] 25)).drew ∧ (w.alloc (.cells #[.int .i64 p, .int .i64 1] 25)).drew.cell? ⟨w.heap.size, 0, none⟩ = some (.int .i64 p) ∧ (w.alloc (.cells #[.int .i64 p, .int .i64 1] 25)).drew.cell? ⟨w.heap.size, 1, none⟩ = some (.int .i64 1) :=
  ⟨below_drewN (below_a8 w _) 1, World.cell?_alloc_new _ _ _ _ ▸ rfl, World.cell?_alloc_new _ _ _ _ ▸ rfl⟩
set_option maxHeartbeats 2000000 in
theorem monic_any (p : Int) (hs : smallB p = true) {o : Option Addr} {n c : Nat} {f : List Int} {w : World} (h : Seen w o n c f) (hf : ModP p f) (hn20 : n ≤ 20) :
    Calls Try.prog 164 #[R1 p, .slice o n c] w (OwnPost (monP p f) w) := by
  obtain ⟨p2, p97, pp⟩ := small_prime hs
  have HS := Lib.hid h
  obtain ⟨hl, hn, hno, hnc, g, h1, h2⟩ := h
  by_cases h0 : n = 0
  · have HE := Lib.hid (show monP p f = [] by unfold monP; rw [if_pos (by omega)])
    have HB := Lib.hid (below_a8 w (.cells #[.int .i64 p, .int .i64 1] 25))
    clear hno h1 h2 hl hs
    subst h0
    go_enter Try.func164, Try.ntmps164
    go_wp2_with fail
    go_ret
    rw [HE.out]
    exact ⟨_, rfl, intRow_nil _ _, HB.out⟩
  · obtain ⟨rfl, hag⟩ := h1 (by omega)
    obtain ⟨m, hm⟩ : ∃ m, m + 1 = n := ⟨n - 1, by omega⟩
    have hn1 : (n : Int) - 1 = (m : Int) := by omega
    have h0' : ((n : Int) == 0) = false := by simp; omega
    have hmn : (m : Int) ≤ (n : Int) := by omega
    have hnm : n - m = 1 := by omega
    have hncI : (n : Int) ≤ (c : Int) := by omega
    have hmcI : (m : Int) ≤ (c : Int) := by omega
    have hm0I : (0 : Int) ≤ (m : Int) := by omega
    have hcm : ¬ c = m := by omega
    have hl0 : f.length ≠ 0 := by omega
    have hne : f ≠ [] := fun e => hl0 (by rw [e]; rfl)
    have hlast := hf.rng (f.length - 1)
    have hlm : f.length - 1 = m := by omega
    have hml := modP_last hf hne
    have hgm : ModP p [f.getD m 0] := by
      rw [hlm] at hml hlast
      refine ⟨fun i => ?_, ?_⟩
      · cases i with
        | zero => exact hlast
        | succ i => simp; omega
      · have : ¬ f.getD m 0 = 0 := fun e => hml (by rw [e]; exact Int.dvd_zero _)
        simpa [lastB] using this
    have HE := Lib.hid (show quoP p f [f.getD m 0] = monP p f by rw [← hlm]; exact mon_quo p2 p97 pp hf hl0)
    have hc2 := h2 m (by omega)
    have HG := Lib.hid (show SeenD w (some ⟨g, m, none⟩) 1 (c - m) [f.getD m 0] from ⟨rfl, by omega, fun h => (by cases h), by omega, g, m, fun _ => ⟨rfl, hag⟩, fun k hk => by
      obtain rfl : k = 0 := by omega
      exact hc2⟩)
    have HDV := Lib.hid fun (W : World) (hw : Below w.heap.size w W) => divide_any p hs (seen_below HS.out hw) (seenD_below HG.out hw) hf hgm (by simp) hn20 (by omega)
    have hst := start8 w p
    clear hno h1 h2 hl hn hs hf hgm hlast hlm hml hc2 hm hl0 hne pp
    go_enter Try.func164, Try.ntmps164
    go_wp2_with fail
    have hwn : IntKind.i64.wrap ((n : Int) - 1) = (n : Int) - 1 := IntWalk.i64_in _ (by omega)
    have hwm : IntKind.i64.wrap (m : Int) = (m : Int) := IntWalk.i64_in _ (by omega)
    go_region_held3 (fun W' => Below w.heap.size w W' ∧ W'.cell? ⟨w.heap.size, 0, none⟩ = some (.int .i64 p) ∧ W'.cell? ⟨w.heap.size, 1, none⟩ = some (.int .i64 1)) (first | exact hst | exact keep8 ‹_› hb | assumption)
      (first | (go_at_call 88; refine (HDV.out _ hst.1).mono ?_; rintro e wn ⟨v, u, rfl, hq, hr, hb, hap⟩))
    have HR := Lib.hid (intRow_lower (b := w.heap.size) hq hst.1.size)
    have HB := Lib.hid (hst.1.trans (hb.mono hst.1.size))
    clear hq hr hb hap HDV hst
    go_wp2_with fail
    go_ret
    rw [← HE.out]
    exact ⟨_, rfl, HR.out, HB.out⟩
/-- the last one of a chain of remainders: seen somewhere -/
def LastP (p : Int) (f g : List Int) (w : World) (e : Ending) (w' : World) : Prop :=
  ∃ o n c F, e = .returned (.slice o n c) ∧ Seen w' o n c F ∧ ModP p F ∧ n ≤ 9 ∧ monP p F = gcdL p f g ∧ Below w.heap.size w w'
set_option maxHeartbeats 2000000 in
theorem lastDivisor_any (p : Int) (hs : smallB p = true) {o o' : Option Addr} {n n' c c' : Nat} {f g : List Int} {w : World} (h : Seen w o n c f) (h' : Seen w o' n' c' g) (hf : ModP p f) (hg : ModP p g) (hn : n ≤ 9) (hn' : n' ≤ 9) :
    Calls Try.prog 165 #[.func (.func 88) #[R1 p] #[], .slice o n c, .slice o' n' c'] w (LastP p f g w) := by
  obtain ⟨p2, p97, pp⟩ := small_prime hs
  have H0 := Lib.hid (And.intro h (And.intro h' (And.intro hf hg)))
  clear h h' hf hg
  go_enter Try.func165, Try.ntmps165
  go_wp2_with fail
  go_loopw [1, 2] (fun vf vg wr => ∃ (o1 : Option Addr) (n1 c1 : Nat) (F : List Int) (o2 : Option Addr) (n2 c2 : Nat) (G : List Int), vf = .slice o1 n1 c1 ∧ vg = .slice o2 n2 c2 ∧ Seen wr o1 n1 c1 F ∧ Seen wr o2 n2 c2 G ∧ ModP p F ∧ ModP p G ∧ n1 ≤ 9 ∧ n2 ≤ 9 ∧ gcdL p F G = gcdL p f g ∧ Below w.heap.size w wr) (fun _ vg _ => lenV vg)
  case atStart => exact ⟨o, n, c, f, o', n', c', g, rfl, rfl, H0.out.1, H0.out.2.1, H0.out.2.2.1, H0.out.2.2.2, hn, hn', rfl, Below.refl _ _⟩
  case round =>
    obtain ⟨o1, n1, c1, F, o2, n2, c2, G, rfl, rfl, s1, s2, m1, m2, l1, l2, hgc, hb⟩ := hrel
    have S1 := Lib.hid s1
    have S2 := Lib.hid s2
    have HB := Lib.hid hb
    have HG := Lib.hid hgc
    have HL2 := Lib.hid s2.1
    clear s1 s2 hb hgc H0
    by_cases h0 : n2 = 0
    · have HE := Lib.hid (show monP p F = gcdL p f g by rw [← HG.out]; exact (gcdL_end (by have := HL2.out; omega)).symm)
      have HM1 := Lib.hid m1
      clear m1 m2
      subst h0
      go_wp2_with fail
      go_ret
      exact ⟨o1, n1, c1, F, rfl, S1.out, HM1.out, l1, HE.out, HB.out⟩
    · have h0' : (0 : Int) < (n2 : Int) := by omega
      have hG0 : G.length ≠ 0 := by have := HL2.out; omega
      have HD := Lib.hid (divide_any p hs S1.out (seen_d S2.out) m1 m2 hG0 (by omega) (by omega))
      have HST := Lib.hid (gcdL_step p2 p97 pp m1 m2 hG0)
      have hd := divP_is p2 p97 pp m1 m2 (fun e => hG0 (by rw [e]; rfl))
      have HDD := Lib.hid (And.intro hd.mr hd.deg)
      have HM2 := Lib.hid m2
      clear m1 m2 hd hG0
      go_wp2_with fail
      refine HD.out.mono ?_
      rintro e w3 ⟨v, u, rfl, hq, hr, hb, hap⟩
      obtain ⟨o3, c3, rfl⟩ := row_slice hq
      obtain ⟨o4, c4, rfl⟩ := row_slice hr
      have HR := Lib.hid (row_seen hr (by have := HDD.out.2; have := HL2.out; omega))
      have S3 := Lib.hid (seen_below S2.out hb)
      have HB2 := Lib.hid (HB.out.trans (hb.mono HB.out.size))
      clear hq hr hb hap HD S1 S2
      go_wp2_with fail
      exact ⟨⟨o2, n2, c2, G, o4, (remP p F G).length, c4, remP p F G, rfl, rfl, S3.out, HR.out, HM2.out, HDD.out.1, l2, by have := HDD.out.2; have := HL2.out; omega, by rw [← HST.out]; exact HG.out, HB2.out⟩, by simp only [lenV]; have := HDD.out.2; have := HL2.out; omega⟩
set_option maxHeartbeats 2000000 in
theorem common_any (p : Int) (hs : smallB p = true) {o o' : Option Addr} {n n' c c' : Nat} {f g : List Int} {w : World} (h : Seen w o n c f) (h' : Seen w o' n' c' g) (hf : ModP p f) (hg : ModP p g) (hn : n ≤ 9) (hn' : n' ≤ 9) :
    Calls Try.prog 145 #[R1 p, .slice o n c, .slice o' n' c'] w (OwnPost (gcdL p f g) w) := by
  have hst := start8 w p
  have HLD := Lib.hid fun (W : World) (hw : Below w.heap.size w W) => lastDivisor_any p hs (seen_below h hw) (seen_below h' hw) hf hg hn hn'
  have HMO := Lib.hid fun (W : World) (o1 : Option Addr) (n1 c1 : Nat) (F : List Int) (s1 : Seen W o1 n1 c1 F) (m1 : ModP p F) (l1 : n1 ≤ 9) => monic_any p hs s1 m1 (by omega)
  have hmf : ∀ (fn : Fn) (first cap : Array Value) (w : World), (Instr.makeFunc fn first cap).run Try.prog w = .ok (.func fn first cap) w := fun _ _ _ _ => rfl
  clear h h' hf hg hs
  go_enter Try.func145, Try.ntmps145
  go_wp2_with fail
  go_region_held3 (fun W' => Below w.heap.size w W' ∧ W'.cell? ⟨w.heap.size, 0, none⟩ = some (.int .i64 p) ∧ W'.cell? ⟨w.heap.size, 1, none⟩ = some (.int .i64 1)) (first | exact hst | exact keep8 ‹_› hb | exact keep8 ‹_› hb2 | assumption)
    (first | (go_at_call 165; refine (HLD.out _ hst.1).mono ?_; rintro e wn ⟨o1, n1, c1, F, rfl, s1, m1, l1, hE, hb⟩) | (go_at_call 164; refine (HMO.out _ _ _ _ _ s1 m1 l1).mono ?_; rintro e wm ⟨v, rfl, hr, hb2⟩))
  have hB := hst.1.trans (hb.mono hst.1.size)
  rw [hE] at hr
  have HR := Lib.hid (intRow_lower hr hB.size)
  have HB := Lib.hid (hB.trans (hb2.mono hB.size))
  clear hr hb hb2 hB hst HLD HMO s1 m1 hE
  go_wp2_with fail
  go_ret
  exact ⟨_, rfl, HR.out, HB.out⟩
theorem and8_odd {e : Nat} (h1 : e ≤ 4000000000000000000) (h : e % 2 = 1) : (bits BinOp.and IntKind.i64 (e : Int) 1 == 1) = true := by
  have := Go.Proofs.and_one e (by omega)
  rw [this]; simp; omega
theorem and8_even {e : Nat} (h1 : e ≤ 4000000000000000000) (h : ¬ e % 2 = 1) : (bits BinOp.and IntKind.i64 (e : Int) 1 == 1) = false := by
  have := Go.Proofs.and_one e (by omega)
  rw [this]; simp; omega
end Go.Proofs.Ytbjkcoajabcibaa
namespace Go.Proofs.Ytbjkcoajabcibaa
open Go.RowKit Go.Shelf
attribute [local go_sem] Oper.semAt_some
set_option linter.unusedVariables false
set_option linter.unusedSimpArgs false
set_option maxRecDepth 20000
/-- what holds at the head of each round of Horner's rule -/
def VaI (w : World) (L : List (Nat × TypeId × Value)) (bv : Nat) (p : Int) (f : List Int) (x : Int) (pre : List (Nat × Int)) (W : World) : Prop :=
  Boxes W L ∧ Boxed W bv 2 (.int .i64 (evM p f x pre.length)) ∧ Below w.heap.size w W
theorem vaI_put {w W : World} {L : List (Nat × TypeId × Value)} {bv k : Nat} {p x : Int} {f : List Int} {pre : List (Nat × Int)} {o o' : Obj} (h : VaI w L bv p f x pre W) (hb : w.heap.size ≤ k) (hk : W.heap[k]? = some o) (ho : o.isCells = false) : VaI w L bv p f x pre (W.putObj k o') :=
  ⟨boxes_put h.1 hk ho, boxed_put8 h.2.1 hk ho, below_put8 h.2.2 hb⟩
theorem vaI_below {w A B : World} {L : List (Nat × TypeId × Value)} {bv : Nat} {p x : Int} {f : List Int} {pre : List (Nat × Int)} (h : VaI w L bv p f x pre A) (hs : StU8 A B) : VaI w L bv p f x pre B :=
  ⟨boxes_below h.1 hs, boxed_below8 h.2.1 hs, h.2.2.trans (hs.mono h.2.2.size)⟩
theorem fr8_put {g b k : Nat} {A W : World} {o' : Obj} (h : Fr8 g b A W) (h1 : g < k) (h2 : b < k) : Fr8 g b A (W.putObj k o') := by
  intro j hj
  refine (World.putObj_heap_other ?_).trans (h j hj)
  rcases hj with rfl | rfl <;> omega
theorem fr8_trans {g b : Nat} {A B C : World} (h : Fr8 g b A B) (k : Fr8 g b B C) : Fr8 g b A C := fun j hj => (k j hj).trans (h j hj)
set_option maxHeartbeats 4000000 in
theorem valueAt_any (p x : Int) (hs : smallB p = true) (x0 : 0 ≤ x) (x1 : x < p) {o : Option Addr} {n c : Nat} {f : List Int} {w : World} (h : Seen w o n c f) (hf : ModP p f) (h0 : f.length ≠ 0) (hn9 : n ≤ 9) :
    Calls Try.prog 82 #[R1 p, .slice o n c, .int .i64 x] w fun e w' => e = .returned (.int .i64 (evM p f x f.length)) ∧ Below w.heap.size w w' := by
  obtain ⟨p2, p97, pp⟩ := small_prime hs
  obtain ⟨hl, hn, hno, hnc, g, h1, h2⟩ := h
  obtain ⟨rfl, hag⟩ := h1 (by omega)
  subst hl
  have HC := Lib.hid h2
  have HF := Lib.hid hf
  have HAG := Lib.hid hag
  have HM := Lib.hid fun w => modulus8_any p hs w
  have hn9' : (f.length : Int) ≤ 9 := by omega
  clear hno hnc h1 h2 hf hs hn hag
  refine (callsIn_wide (n := 4)).1 ?_
  refine callsIn_of_wp_marks Try.func82 rfl trivial ?_ rfl
  simp only [Try.ntmps82, List.size_toArray, List.length_cons, List.length_nil, Nat.reduceAdd, Nat.reduceSub, Array.replicate_succ, Array.replicate_zero, List.push_toArray, List.append_toArray, List.nil_append, List.cons_append]
  refine wpIn_wide.2 ?_
  have hbw := (below_a8 w (.cells #[.int .i64 p, .int .i64 1] 25)).alloc (by simp) (.cells #[.int .i64 x] 2)
  have hbx := Boxed.new (w.alloc (.cells #[.int .i64 p, .int .i64 1] 25)) 2 (.int .i64 x)
  rw [World.size_alloc] at hbx
  have HBW := Lib.hid hbw
  have HBX := Lib.hid hbx
  clear hbw hbx
  go_wp2_with fail
  refine (HM.out _).mono ?_
  rintro e w1 ⟨rfl, hb⟩
  have hb0 := HBW.out.trans (hb.mono HBW.out.size)
  have hx1 := boxed_below8 HBX.out hb
  obtain ⟨bx, hbx⟩ : ∃ bx, w.heap.size + 1 = bx := ⟨_, rfl⟩
  rw [hbx] at hx1
  have hxm : bx < w1.heap.size := hx1.lt
  obtain ⟨bm, hbm⟩ : ∃ bm, w1.heap.size = bm := ⟨_, rfl⟩
  have hbs := hb0.size
  have h2' := boxes_cons (boxes_cons (L := []) (by intro x hx; cases hx) (Boxed.new w1 2 (.int .i64 p))) (hx1.alloc (.cells #[.int .i64 p] 2))
  have h3 := boxes_below h2' (below_a8 (w1.alloc (.cells #[.int .i64 p] 2)) (.cells #[.int .i64 0] 2))
  have hv3 := Boxed.new (w1.alloc (.cells #[.int .i64 p] 2)) 2 (.int .i64 0)
  have h4 := boxes_below h3 (below_a8 ((w1.alloc (.cells #[.int .i64 p] 2)).alloc (.cells #[.int .i64 0] 2)) (.cells #[.slice (some ⟨g, 0, none⟩) f.length c] 26))
  have hv4 := hv3.alloc (.cells #[.slice (some ⟨g, 0, none⟩) f.length c] 26)
  have hk4 := Boxed.new ((w1.alloc (.cells #[.int .i64 p] 2)).alloc (.cells #[.int .i64 0] 2)) 26 (.slice (some ⟨g, 0, none⟩) f.length c)
  have hb4 := ((hb0.alloc hbs (.cells #[.int .i64 p] 2)).alloc (by simp; omega) (.cells #[.int .i64 0] 2)).alloc (by simp; omega) (.cells #[.slice (some ⟨g, 0, none⟩) f.length c] 26)
  rw [World.size_alloc, World.size_alloc, hbm] at hk4
  rw [World.size_alloc, hbm] at hv4
  rw [hbm] at h4 hxm hbs
  have HX := Lib.hid h4
  have HVB := Lib.hid hv4
  have HKB := Lib.hid hk4
  have HB := Lib.hid hb4
  have HSZ := Lib.hid (And.intro hxm hbs)
  rw [hbx]
  clear hb hb0 hx1 h2' h3 hv3 h4 hv4 hk4 hb4 HM hbx hxm hbs
  go_wp2_with fail
  refine (backward8_made _ _ _ _).mono ?_
  rintro e W8 ⟨rfl, rfl⟩
  go_wp2_with fail
  generalize ((w1.alloc (.cells #[.int .i64 p] 2)).alloc (.cells #[.int .i64 0] 2)).alloc (.cells #[.slice (some ⟨g, 0, none⟩) f.length c] 26) = W9 at *
  refine (wpIn_wide (n := 4)).1 ?_
  have hsz := HB.out.size
  have hkl : bm + 1 + 1 < W9.heap.size := HKB.out.lt
  have hgl := HAG.out
  have hzz := HSZ.out
  refine wpIn_rangeBb (F := Fence.wide) (n := 4) (P := Try.prog) (w := W9) rfl (by omega) (gf := 159) (ba := #[]) (lb := #[.pointer (some ⟨bm + 1 + 1, 0, none⟩)]) rfl trivial (enters_of Try.func159 (by kernel_rfl) rfl)
    (backward8_by 3 (by omega) g (bm + 1 + 1) c f (by omega)) (fun _ => rfl)
    (VaI w [(bx, 2, .int .i64 x), (bm, 2, .int .i64 p)] (bm + 1) p f x) (fun _ _ => False)
    (fun y => { tmps := #[R1 p, .slice (some ⟨g, 0, none⟩) f.length c, .int .i64 x, .pointer (some ⟨w.heap.size, 0, none⟩), undef, .pointer (some ⟨bx, 0, none⟩), .int .i64 0, .pointer (some ⟨bm, 0, none⟩), .pointer (some ⟨bm + 1, 0, none⟩), undef, .int .i64 y.2, .agg #[.int .i64 p, .int .i64 1], .int .i64 p, .slice (some ⟨g, 0, none⟩) f.length c, .func (.func 159) #[] #[.pointer (some ⟨bm + 1 + 1, 0, none⟩)], .int .i64 y.1, .int .i64 y.2, undef, undef, undef, undef, undef, undef, undef, undef], defers := [] })
    ?ip ?xp ?fp ?fq ?ft ?is ?xs ?sk ?h0 ?s0 ?assign ?body ?done ?stop
  case ip => intro pre W k o o' h hk ho hc; exact vaI_put h (by omega) ho hc
  case xp => intro _ _ _ _ _ h; exact h.elim
  case fp => intro A W k o o' hf hk ho hc; exact fr8_put hf (by omega) (by omega)
  case fq => intro W k o o' hk ho hc; exact fr8_put (fun _ _ => rfl) (by omega) (by omega)
  case ft => intro A B C h k; exact fr8_trans h k
  case is => intro pre A B h hs; exact vaI_below h hs
  case xs => intro _ _ _ h; exact h.elim
  case sk => intro A B k o hs hk ho hc; exact (hs.block k (Array.getElem?_eq_some_iff.1 ho).1).trans ho
  case h0 =>
    intro oo oo'
    have hbb : Below W9.heap.size W9 ((W9.alloc oo).alloc oo') := (below_a8 W9 oo).alloc (by simp) oo'
    exact ⟨boxes_below HX.out hbb, boxed_below8 HVB.out hbb, HB.out.trans (hbb.mono hsz)⟩
  case s0 =>
    intro oo oo'
    have hbb : Below W9.heap.size W9 ((W9.alloc oo).alloc oo') := (below_a8 W9 oo).alloc (by simp) oo'
    refine ⟨boxed_below8 HKB.out hbb, fun k hk => ?_⟩
    rw [hbb.cell (p := ⟨g, k, none⟩) (by show g < W9.heap.size; omega), HB.out.cell (p := ⟨g, k, none⟩) hgl]
    exact HC.out k hk
  case assign =>
    intro lp y W K hK
    gi_wp2
    exact hK
  case body =>
    rintro lp pre y W hsp ⟨hx, hv, hb⟩
    obtain ⟨hk, hy⟩ := bk8_last hsp
    have hh : evM p f x (pre ++ [y]).length = (evM p f x pre.length * x + y.2) % p := by rw [List.length_append, List.length_singleton, evM, hy]
    obtain ⟨a0, a1⟩ := evM_rng (p := p) (by omega) f x pre.length
    have hyr := HF.out.rng (f.length - 1 - pre.length)
    rw [← hy] at hyr
    have HH := Lib.hid hh
    have xx := (hx (bx, 2, .int .i64 x) (by simp)).cell
    have xm := (hx (bm, 2, .int .i64 p) (by simp)).cell
    have q2 := hv.cell
    have q2f := hv.frozen
    have hpb := prod_small p97 ⟨a0, a1⟩ ⟨x0, x1⟩
    obtain ⟨z, hz⟩ : ∃ z, y.2 = z := ⟨_, rfl⟩
    obtain ⟨h, hhe⟩ : ∃ h, evM p f x pre.length = h := ⟨_, rfl⟩
    rw [hz] at hyr ⊢
    rw [hhe] at q2 hpb a0 a1
    have HE := Lib.hid (show evM p f x (pre ++ [y]).length = (h * x + z) % p by rw [hh, hhe, hz])
    have hw1 : IntKind.i64.wrap (h * x) = h * x := IntWalk.i64_in _ (by omega)
    have hw2 : IntKind.i64.wrap (h * x + z) = h * x + z := IntWalk.i64_in _ (by omega)
    have hv2 := hv.set (.int .i64 ((h * x + z) % p))
    have hF : Fr8 g (bm + 1 + 1) W (W.setCell ⟨bm + 1, 0, none⟩ (.int .i64 ((h * x + z) % p))) := fun j hj => Below.heap_setCell _ _ _ _ (by show j ≠ bm + 1; rcases hj with rfl | rfl <;> omega)
    have hb2 := hb.setCell (p := ⟨bm + 1, 0, none⟩) (show w.heap.size ≤ bm + 1 by omega) (.int .i64 ((h * x + z) % p))
    have hx2 := boxes_set hx (a := ⟨bm + 1, 0, none⟩) (by
      intro u hu
      show u.1 ≠ bm + 1
      rcases List.mem_cons.1 hu with rfl | hu
      · show bx ≠ bm + 1; omega
      rcases List.mem_cons.1 hu with rfl | hu
      · show bm ≠ bm + 1; omega
      · cases hu) (.int .i64 ((h * x + z) % p))
    have HRES := Lib.hid (And.intro hv2 (And.intro hF (And.intro hb2 hx2)))
    clear hsp hh hy hz hhe hx hv hb hv2 hF hb2 hx2 hpb HH
    gi_wp2_with (refine ⟨trivial, ?_⟩; gi_at_call 132; refine (CallsIn.inRound lp (callsIn_wide.2 (remainder8_any _ p _ p2 (by omega)))).mono ?_; rintro e wn ⟨rfl, rfl⟩)
    obtain ⟨hv2, hF, hb2, hx2⟩ := HRES.out
    exact ⟨KeepsOthers.setCell _ _ _, hF, hx2, by rw [HE.out]; exact hv2, hb2⟩
  case done =>
    rintro D xs W hD rfl ⟨hx, hv, hb⟩ hK
    rw [bk8_length] at hv
    have q2 := hv.cell
    have HB9 := Lib.hid hb
    have HKD := Lib.hid hK
    have hDw : w.heap.size ≤ D := by omega
    obtain ⟨E, hE⟩ : ∃ E, evM p f x f.length = E := ⟨_, rfl⟩
    have HEE := Lib.hid hE
    rw [hE] at q2
    clear hx hv hb hK hE
    go_wp2_with fail
    refine ⟨by simp, .inl ⟨_, _, rfl, run_takeDeferred HKD.out, ?_⟩⟩
    refine ⟨.int .i64 E, by simp [results, Try.results82, go_sem], ?_⟩
    exact ⟨ret_int HEE.out.symm, below_put8 HB9.out hDw⟩
  case stop => intro _ _ _ _ _ h; exact h.elim
end Go.Proofs.Ytbjkcoajabcibaa
namespace Go.Proofs.Ytbjkcoajabcibaa
open Go.RowKit
set_option linter.unusedVariables false
set_option linter.unusedSimpArgs false
set_option maxRecDepth 20000
theorem cell8_second (w : World) (o : Obj) (cs : Array Value) (T : TypeId) (k : Nat) : ((w.alloc o).alloc (.cells cs T)).cell? ⟨w.heap.size + 1, k, none⟩ = cs[k]? := by
  have e : (w.alloc o).heap.size = w.heap.size + 1 := by simp
  rw [← e, World.cell?_alloc_new]
theorem top8 {w w1 w4 : World} {a b : Value} {T : TypeId} {o : Obj} (h1 : Below w.heap.size w w1) (hb : Below ((w1.alloc (.cells #[a, b] T)).alloc o).heap.size ((w1.alloc (.cells #[a, b] T)).alloc o) w4) :
    Below w.heap.size w w4 ∧ w4.cell? ⟨w1.heap.size, 0, none⟩ = some a ∧ w4.cell? ⟨w1.heap.size, 1, none⟩ = some b := by
  have hx := below_a8 (w1.alloc (.cells #[a, b] T)) o
  have h2 := below_a8 w1 (.cells #[a, b] T)
  exact keep8 (keep8 (W := w1.alloc (.cells #[a, b] T)) ⟨h1.trans (h2.mono h1.size), World.cell?_alloc_new _ _ _ _ ▸ rfl, World.cell?_alloc_new _ _ _ _ ▸ rfl⟩ hx) hb
theorem top8_below {w w1 : World} (h1 : Below w.heap.size w w1) (o o' : Obj) : Below w.heap.size w ((w1.alloc o).alloc o') := (h1.alloc h1.size o).alloc (by simp; have := h1.size; omega) o'
theorem okC_val {p : Int} {f : List Int} (b : Bool) (h : modB p f = b) : okC p f = if b then 0 else 1 := by rw [okC, h]
theorem okC2_val {p : Int} {f g : List Int} (b : Bool) (h : twoM p f g = b) : okC2 p f g = if b then 0 else 1 := by rw [okC2, h]
end Go.Proofs.Ytbjkcoajabcibaa
namespace Go.Proofs.Ytbjkcoajabcibaa
open Go.RowKit
set_option linter.unusedVariables false
set_option linter.unusedSimpArgs false
def BackAtO (o : Option Addr) (g b c : Nat) (l : List Int) (W : World) : Prop :=
  Boxed W b 26 (.slice o l.length c) ∧ ∀ k, k < l.length → W.cell? ⟨g, k, none⟩ = some (.int .i64 (l.getD k 0))
theorem backAtO_kept {o : Option Addr} {g b c : Nat} {l : List Int} {A B : World} (h : BackAtO o g b c l A) (hf : Fr8 g b A B) : BackAtO o g b c l B :=
  ⟨(hf b (.inr rfl)).trans h.1, fun k hk => by rw [World.cell?_of_block (w := A) (a := ⟨g, k, none⟩) (hf g (.inl rfl))]; exact h.2 k hk⟩
set_option maxRecDepth 20000 in
set_option maxHeartbeats 1600000 in
theorem backwardO_by (n : Nat) (hn : 1 ≤ n) (o : Option Addr) (g b c : Nat) (l : List Int) (ho : 0 < l.length → o = some ⟨g, 0, none⟩) (hl : l.length ≤ 1100000) :
    SeqBb Fence.wide n Try.prog 159 #[] #[.pointer (some ⟨b, 0, none⟩)] (fun x : Nat × Int => #[.int .i64 x.1, .int .i64 x.2]) StU8 (Fr8 g b) (fun xs => xs = bk8 l l.length) (fun pre => ∃ j, j ≤ l.length ∧ pre = bk8 l j) (BackAtO o g b c l) := by
  intro lp J Jx W hW hJ hX h0 hY
  have HW := Lib.hid hW
  have H0 := Lib.hid h0
  have q0 := hW.1.cell
  clear hW h0
  show CallsIn Fence.wide n Try.prog 159 #[.func (.yield lp) #[] #[], .pointer (some ⟨b, 0, none⟩)] W _
  refine callsIn_of_wp Try.func159 rfl trivial ?_ rfl
  simp only [Try.ntmps159, List.size_toArray, List.length_cons, List.length_nil, Nat.reduceAdd, Nat.reduceSub, Array.replicate_succ, Array.replicate_zero, List.push_toArray, List.append_toArray, List.nil_append, List.cons_append]
  gi_wp2
  gi_loopw [3] (fun i wr => ∃ (j : Nat) (x : Int), j ≤ l.length ∧ i = .int .i64 x ∧ x = (l.length : Int) - 1 - j ∧ BackAtO o g b c l wr ∧ J (bk8 l j) wr) (fun i wr => (intOf i + 1).toNat)
  case atStart => exact ⟨0, (l.length : Int) - 1, Nat.zero_le _, rfl, by omega, HW.out, H0.out⟩
  case round =>
    obtain ⟨j, x, hj, rfl, hx, hb, hJj⟩ := hrel
    have q1 := hb.1.cell
    by_cases hlt : j < l.length
    · have HO := Lib.hid (ho (by omega))
      rw [ho (by omega)] at q1
      obtain ⟨m, hm⟩ : ∃ m : Nat, x = m := ⟨x.toNat, by omega⟩
      subst hm
      have hm2 : m = l.length - 1 - j := by omega
      have hml : m < l.length := by omega
      have q2 := hb.2 m hml
      obtain ⟨y, hy⟩ : ∃ y, l.getD m 0 = y := ⟨_, rfl⟩
      rw [hy] at q2
      have hs : bk8 l (j + 1) = bk8 l j ++ [(m, y)] := by rw [bk8_succ, ← hm2, hy]
      have HY := Lib.hid (hY (bk8 l j) (m, y) wr ⟨j + 1, by omega, hs.symm⟩ hJj)
      have HS := Lib.hid hs
      have HB := Lib.hid hb
      have HXX := Lib.hid hx
      have hm0 : (m : Int) ≤ 1100000 := by omega
      have hge : (0 : Int) ≤ (m : Int) := by omega
      clear hs hb hJj hy hm2 hx
      obtain ⟨fn, tmps, assign, body, hy, hR⟩ := HY.out
      clear HY
      simp only at hy
      gi_wp2
      refine hR.mono ?_
      rintro e W3 (⟨rfl, hJ3, hF3⟩ | ⟨rfl, hX3⟩)
      · have hb3 := backAtO_kept HB.out hF3
        have d0 := hb3.1.cell
        rw [HO.out] at d0
        have HB3 := Lib.hid hb3
        clear hb3 q1 q2
        gi_wp2
        go_roundw
        case rel => exact ⟨j + 1, (m : Int) - 1, by omega, rfl, by have := HXX.out; omega, HB3.out, by rw [HS.out]; exact hJ3⟩
        case measure => simp [intOf]
      · gi_wp2
        refine bodyPost_ret (results_none rfl _ _ _) rfl ?_
        exact ⟨_, rfl, .inr ⟨_, ⟨j + 1, by omega, HS.out.symm⟩, hX3⟩⟩
    · have hjl : j = l.length := by omega
      have HK := Lib.hid hjl
      have HJ := Lib.hid hJj
      have hx1 : x < 0 := by omega
      clear hjl hJj hb
      gi_wp2
      go_end0
      have hJe := HJ.out
      rw [HK.out] at hJe
      exact ⟨_, rfl, .inl ⟨_, rfl, hJe⟩⟩
end Go.Proofs.Ytbjkcoajabcibaa
namespace Go.Proofs.Ytbjkcoajabcibaa
open Go.RowKit Go.Shelf
attribute [local go_sem] Oper.semAt_some
set_option linter.unusedVariables false
set_option linter.unusedSimpArgs false
set_option maxRecDepth 20000
theorem modulusR_any {p q M : Int} (hR : ringM p q = M) (w : World) :
    Calls Try.prog 72 #[.agg #[.int .i64 p, .int .i64 q]] w fun e w' => e = .returned (.int .i64 M) ∧ Below w.heap.size w w' := by
  rw [← hR]; exact implModulus_any p q w
set_option maxHeartbeats 4000000 in
theorem valueAtR_any {p q M : Int} (hR : ringM p q = M) (m2 : 2 ≤ M) (m9 : M ≤ 1000000000) {x : Int} (x0 : 0 ≤ x) (x1 : x < M) {o : Option Addr} {n c : Nat} {f : List Int} {w : World} (h : Seen w o n c f) (hf : Cof9 f) :
    Calls Try.prog 82 #[.agg #[.int .i64 p, .int .i64 q], .slice o n c, .int .i64 x] w fun e w' => e = .returned (.int .i64 (vM M f x)) ∧ Below w.heap.size w w' := by
  obtain ⟨hl, hn, hno, hnc, g, h1, h2⟩ := h
  subst hl
  obtain ⟨bf, hbl, hbo, hbc⟩ : ∃ b, b < w.heap.size + 1 ∧ (0 < f.length → o = some ⟨b, 0, none⟩) ∧ ∀ W, Below w.heap.size w W → ∀ k, k < f.length → W.cell? ⟨b, k, none⟩ = some (.int .i64 (f.getD k 0)) := by
    by_cases h0 : 0 < f.length
    · exact ⟨g, by have := (h1 h0).2; omega, fun _ => (h1 h0).1, fun W hb k hk => by rw [hb.cell (p := ⟨g, k, none⟩) (h1 h0).2]; exact h2 k hk⟩
    · exact ⟨w.heap.size, by omega, fun h => absurd h h0, fun _ _ k hk => absurd hk (by omega)⟩
  have HC := Lib.hid hbc
  have HO := Lib.hid hbo
  have HVM := Lib.hid (show vM M f x = evM M f x f.length from rfl)
  have HF := Lib.hid hf
  have HAG := Lib.hid hbl
  have HM := Lib.hid fun w => modulusR_any hR w
  have HN9 := Lib.hid hn
  clear hno hnc h1 h2 hf hn hbl hbo hbc g
  refine (callsIn_wide (n := 4)).1 ?_
  refine callsIn_of_wp_marks Try.func82 rfl trivial ?_ rfl
  simp only [Try.ntmps82, List.size_toArray, List.length_cons, List.length_nil, Nat.reduceAdd, Nat.reduceSub, Array.replicate_succ, Array.replicate_zero, List.push_toArray, List.append_toArray, List.nil_append, List.cons_append]
  refine wpIn_wide.2 ?_
  have hbw := (below_a8 w (.cells #[.int .i64 p, .int .i64 q] 25)).alloc (by simp) (.cells #[.int .i64 x] 2)
  have hbx := Boxed.new (w.alloc (.cells #[.int .i64 p, .int .i64 q] 25)) 2 (.int .i64 x)
  rw [World.size_alloc] at hbx
  have HBW := Lib.hid hbw
  have HBX := Lib.hid hbx
  clear hbw hbx
  go_wp2_with fail
  refine (HM.out _).mono ?_
  rintro e w1 ⟨rfl, hb⟩
  have hb0 := HBW.out.trans (hb.mono HBW.out.size)
  have hx1 := boxed_below8 HBX.out hb
  obtain ⟨bx, hbx⟩ : ∃ bx, w.heap.size + 1 = bx := ⟨_, rfl⟩
  rw [hbx] at hx1
  have hxm : bx < w1.heap.size := hx1.lt
  obtain ⟨bm, hbm⟩ : ∃ bm, w1.heap.size = bm := ⟨_, rfl⟩
  have hbs := hb0.size
  have h2' := boxes_cons (boxes_cons (L := []) (by intro x hx; cases hx) (Boxed.new w1 2 (.int .i64 M))) (hx1.alloc (.cells #[.int .i64 M] 2))
  have h3 := boxes_below h2' (below_a8 (w1.alloc (.cells #[.int .i64 M] 2)) (.cells #[.int .i64 0] 2))
  have hv3 := Boxed.new (w1.alloc (.cells #[.int .i64 M] 2)) 2 (.int .i64 0)
  have h4 := boxes_below h3 (below_a8 ((w1.alloc (.cells #[.int .i64 M] 2)).alloc (.cells #[.int .i64 0] 2)) (.cells #[.slice o f.length c] 26))
  have hv4 := hv3.alloc (.cells #[.slice o f.length c] 26)
  have hk4 := Boxed.new ((w1.alloc (.cells #[.int .i64 M] 2)).alloc (.cells #[.int .i64 0] 2)) 26 (.slice o f.length c)
  have hb4 := ((hb0.alloc hbs (.cells #[.int .i64 M] 2)).alloc (by simp; omega) (.cells #[.int .i64 0] 2)).alloc (by simp; omega) (.cells #[.slice o f.length c] 26)
  rw [World.size_alloc, World.size_alloc, hbm] at hk4
  rw [World.size_alloc, hbm] at hv4
  rw [hbm] at h4 hxm hbs
  have HX := Lib.hid h4
  have HVB := Lib.hid hv4
  have HKB := Lib.hid hk4
  have HB := Lib.hid hb4
  have HSZ := Lib.hid (And.intro hxm hbs)
  rw [hbx]
  clear hb hb0 hx1 h2' h3 hv3 h4 hv4 hk4 hb4 HM hbx hxm hbs
  go_wp2_with fail
  refine (backward8_made _ _ _ _).mono ?_
  rintro e W8 ⟨rfl, rfl⟩
  go_wp2_with fail
  generalize ((w1.alloc (.cells #[.int .i64 M] 2)).alloc (.cells #[.int .i64 0] 2)).alloc (.cells #[.slice o f.length c] 26) = W9 at *
  refine (wpIn_wide (n := 4)).1 ?_
  have hsz := HB.out.size
  have hkl : bm + 1 + 1 < W9.heap.size := HKB.out.lt
  have hgl := HAG.out
  have hzz := HSZ.out
  refine wpIn_rangeBb (F := Fence.wide) (n := 4) (P := Try.prog) (w := W9) rfl (by omega) (gf := 159) (ba := #[]) (lb := #[.pointer (some ⟨bm + 1 + 1, 0, none⟩)]) rfl trivial (enters_of Try.func159 (by kernel_rfl) rfl)
    (backwardO_by 3 (by omega) o bf (bm + 1 + 1) c f HO.out HN9.out) (fun _ => rfl)
    (VaI w [(bx, 2, .int .i64 x), (bm, 2, .int .i64 M)] (bm + 1) M f x) (fun _ _ => False)
    (fun y => { tmps := #[.agg #[.int .i64 p, .int .i64 q], .slice o f.length c, .int .i64 x, .pointer (some ⟨w.heap.size, 0, none⟩), undef, .pointer (some ⟨bx, 0, none⟩), .int .i64 0, .pointer (some ⟨bm, 0, none⟩), .pointer (some ⟨bm + 1, 0, none⟩), undef, .int .i64 y.2, .agg #[.int .i64 p, .int .i64 q], .int .i64 M, .slice o f.length c, .func (.func 159) #[] #[.pointer (some ⟨bm + 1 + 1, 0, none⟩)], .int .i64 y.1, .int .i64 y.2, undef, undef, undef, undef, undef, undef, undef, undef], defers := [] })
    ?ip ?xp ?fp ?fq ?ft ?is ?xs ?sk ?h0 ?s0 ?assign ?body ?done ?stop
  case ip => intro pre W k o o' h hk ho hc; exact vaI_put h (by omega) ho hc
  case xp => intro _ _ _ _ _ h; exact h.elim
  case fp => intro A W k o o' hf hk ho hc; exact fr8_put hf (by omega) (by omega)
  case fq => intro W k o o' hk ho hc; exact fr8_put (fun _ _ => rfl) (by omega) (by omega)
  case ft => intro A B C h k; exact fr8_trans h k
  case is => intro pre A B h hs; exact vaI_below h hs
  case xs => intro _ _ _ h; exact h.elim
  case sk => intro A B k o hs hk ho hc; exact (hs.block k (Array.getElem?_eq_some_iff.1 ho).1).trans ho
  case h0 =>
    intro oo oo'
    have hbb : Below W9.heap.size W9 ((W9.alloc oo).alloc oo') := (below_a8 W9 oo).alloc (by simp) oo'
    exact ⟨boxes_below HX.out hbb, boxed_below8 HVB.out hbb, HB.out.trans (hbb.mono hsz)⟩
  case s0 =>
    intro oo oo'
    have hbb : Below W9.heap.size W9 ((W9.alloc oo).alloc oo') := (below_a8 W9 oo).alloc (by simp) oo'
    refine ⟨boxed_below8 HKB.out hbb, fun k hk => ?_⟩
    exact HC.out _ (HB.out.trans (hbb.mono hsz)) k hk
  case assign =>
    intro lp y W K hK
    gi_wp2
    exact hK
  case body =>
    rintro lp pre y W hsp ⟨hx, hv, hb⟩
    obtain ⟨hk, hy⟩ := bk8_last hsp
    have hh : evM M f x (pre ++ [y]).length = (evM M f x pre.length * x + y.2) % M := by rw [List.length_append, List.length_singleton, evM, hy]
    obtain ⟨a0, a1⟩ := evM_rng (p := M) (by omega) f x pre.length
    have hyr := HF.out (f.length - 1 - pre.length)
    rw [← hy] at hyr
    have HH := Lib.hid hh
    have xx := (hx (bx, 2, .int .i64 x) (by simp)).cell
    have xm := (hx (bm, 2, .int .i64 M) (by simp)).cell
    have q2 := hv.cell
    have q2f := hv.frozen
    have hpb := prod_nine a0 (show evM M f x pre.length ≤ 1000000000 by omega) x0 (show x ≤ 1000000000 by omega)
    obtain ⟨z, hz⟩ : ∃ z, y.2 = z := ⟨_, rfl⟩
    obtain ⟨h, hhe⟩ : ∃ h, evM M f x pre.length = h := ⟨_, rfl⟩
    rw [hz] at hyr ⊢
    rw [hhe] at q2 hpb a0 a1
    have HE := Lib.hid (show evM M f x (pre ++ [y]).length = (h * x + z) % M by rw [hh, hhe, hz])
    have hw1 : IntKind.i64.wrap (h * x) = h * x := IntWalk.i64_in _ (by omega)
    have hw2 : IntKind.i64.wrap (h * x + z) = h * x + z := IntWalk.i64_in _ (by omega)
    have hv2 := hv.set (.int .i64 ((h * x + z) % M))
    have hF : Fr8 bf (bm + 1 + 1) W (W.setCell ⟨bm + 1, 0, none⟩ (.int .i64 ((h * x + z) % M))) := fun j hj => Below.heap_setCell _ _ _ _ (by show j ≠ bm + 1; rcases hj with rfl | rfl <;> omega)
    have hb2 := hb.setCell (p := ⟨bm + 1, 0, none⟩) (show w.heap.size ≤ bm + 1 by omega) (.int .i64 ((h * x + z) % M))
    have hx2 := boxes_set hx (a := ⟨bm + 1, 0, none⟩) (by
      intro u hu
      show u.1 ≠ bm + 1
      rcases List.mem_cons.1 hu with rfl | hu
      · show bx ≠ bm + 1; omega
      rcases List.mem_cons.1 hu with rfl | hu
      · show bm ≠ bm + 1; omega
      · cases hu) (.int .i64 ((h * x + z) % M))
    have HRES := Lib.hid (And.intro hv2 (And.intro hF (And.intro hb2 hx2)))
    clear hsp hh hy hz hhe hx hv hb hv2 hF hb2 hx2 hpb HH
    gi_wp2_with (refine ⟨trivial, ?_⟩; gi_at_call 132; refine (CallsIn.inRound lp (callsIn_wide.2 (remainder8_any _ M _ m2 m9))).mono ?_; rintro e wn ⟨rfl, rfl⟩)
    obtain ⟨hv2, hF, hb2, hx2⟩ := HRES.out
    exact ⟨KeepsOthers.setCell _ _ _, hF, hx2, by rw [HE.out]; exact hv2, hb2⟩
  case done =>
    rintro D xs W hD rfl ⟨hx, hv, hb⟩ hK
    rw [bk8_length] at hv
    have q2 := hv.cell
    have HB9 := Lib.hid hb
    have HKD := Lib.hid hK
    have hDw : w.heap.size ≤ D := by omega
    obtain ⟨E, hE⟩ : ∃ E, evM M f x f.length = E := ⟨_, rfl⟩
    have HEE := Lib.hid hE
    rw [hE] at q2
    clear hx hv hb hK hE
    go_wp2_with fail
    refine ⟨by simp, .inl ⟨_, _, rfl, run_takeDeferred HKD.out, ?_⟩⟩
    refine ⟨.int .i64 E, by simp [results, Try.results82, go_sem], ?_⟩
    exact ⟨ret_int (HVM.out.trans HEE.out).symm, below_put8 HB9.out hDw⟩
  case stop => intro _ _ _ _ _ h; exact h.elim
set_option maxHeartbeats 2000000 in
theorem reducedR_any {p q M : Int} (hR : ringM p q = M) (m2 : 2 ≤ M) (m9 : M ≤ 1000000000) {o : Option Addr} {n c : Nat} {l : List Int} {w : World} (h : Seen w o n c l) (hn9 : n ≤ 1000) :
    Calls Try.prog 96 #[.agg #[.int .i64 p, .int .i64 q], .slice o n c] w (OwnPost (redL M l) w) := by
  obtain ⟨hl, hn, hno, hnc, g, h1, h2⟩ := h
  obtain ⟨i0, hi, hz0, hz1, hz2⟩ := info_parts Try.infoInt64
  have HI := Lib.hid hi
  have HZ0 := Lib.hid hz0
  have HZ1 := Lib.hid hz1
  have HZ2 := Lib.hid hz2
  have HO := Lib.hid h1
  have HL := Lib.hid hl
  have HC := Lib.hid h2
  have HM := Lib.hid fun w => modulusR_any hR w
  clear hi hz0 hz1 hz2 h1 h2 hl hno hnc
  go_enter Try.func96, Try.ntmps96
  go_wp2_with fail
  refine (HM.out _).mono ?_
  rintro e w1 ⟨rfl, hb⟩
  have hb1 := box8 hb
  have HB1 := Lib.hid hb1
  have hbs := hb1.size
  clear hb HM hb1
  go_upto_region 2 with fail
  go_wp2_with (at_make; refine wpList_make_full _ rfl (.tmp 12) (.tmp 12) 26 rfl w1.heap.size 2 i0 (.int .i64 0) 1 Try.underlying26 HI.out HZ0.out HZ1.out .i64 .i64 _ _ n rfl rfl rfl rfl (by rw [HZ2.out]; omega) (by unfold maxLen; omega) (Nat.le_refl _) ?_; intro w2 hown hgrow)
  have HB2 := Lib.hid (HB1.out.grown hgrow hbs (fun k h => by cases h))
  have HR2 := Lib.hid (show IntRow w1.heap.size w2 (.slice (some ⟨w1.heap.size, 0, none⟩) n n) (tabL n fun i => if i < 0 then l.getD i 0 % M else 0) from int_made hown)
  generalize w1.heap.size = Q at *
  clear hown hgrow HB1
  go_wp2_with fail
  go_loopw [16] (fun s wr => ∃ k : Nat, k ≤ n ∧ s = .int .i64 k ∧ IntRow Q wr (.slice (some ⟨Q, 0, none⟩) n n) (tabL n fun i => if i < k then l.getD i 0 % M else 0) ∧ Below w.heap.size w wr) (fun s _ => n - (intOf s).toNat)
  case atStart => exact ⟨0, Nat.zero_le _, rfl, HR2.out, HB2.out⟩
  case round =>
    obtain ⟨k, hk, rfl, hr, hb⟩ := hrel
    have HR := Lib.hid hr
    have HB := Lib.hid hb
    clear hr hb HR2 HB2
    by_cases hlt : k < n
    · obtain ⟨hog, hgl⟩ := HO.out (by omega)
      subst hog
      have a2 : wr.cell? ⟨g, k, none⟩ = some (.int .i64 (l.getD k 0)) := by rw [HB.out.cell (p := ⟨g, k, none⟩) hgl]; exact HC.out k hlt
      have hrl : (tabL n fun i => if i < k then l.getD i 0 % M else 0).length = n := tabL_length _ _
      have c2 := int_at HR.out hrl hlt
      have f2 := int_frozen HR.out hrl k
      have HE := Lib.hid (red_step (p := M) (l := l) hlt)
      have HR3 := Lib.hid (int_stored HR.out hrl k (l.getD k 0 % M))
      have HB3 := Lib.hid (HB.out.setCell (p := ⟨Q, k, none⟩) hbs (.int .i64 (l.getD k 0 % M)))
      rw [HE.out] at HR3
      have hkn : (k : Int) < (n : Int) := by omega
      obtain ⟨y0, hy0⟩ : ∃ y, (tabL n fun i => if i < k then l.getD i 0 % M else 0).getD k 0 = y := ⟨_, rfl⟩
      rw [hy0] at c2
      clear hgl HE HR HB hy0 hrl
      generalize l.getD k 0 = z at *
      go_wp2_with fail
      refine (remainder8_any z M wr m2 m9).mono ?_
      rintro e w3 ⟨rfl, rfl⟩
      go_wp2_with fail
      exact ⟨⟨k + 1, by omega, by go_num, HR3.out, HB3.out⟩, by simp only [intOf]; omega⟩
    · have hkn : k = n := by omega
      have HT := Lib.hid (show trimL (tabL n fun i => if i < k then l.getD i 0 % M else 0) = redL M l by
        unfold redL
        rw [← HL.out]
        congr 1
        exact tabL_ext fun i hi => by rw [if_pos (by omega)])
      have hrl : (tabL n fun i => if i < k then l.getD i 0 % M else 0).length = n := tabL_length _ _
      have SR := Lib.hid (show Seen wr (some ⟨Q, 0, none⟩) n n (tabL n fun i => if i < k then l.getD i 0 % M else 0) by
        have h := row_seen (o := some ⟨Q, 0, none⟩) (n := (tabL n fun i => if i < k then l.getD i 0 % M else 0).length) (c := n) (by rw [hrl]; exact HR.out) (by rw [hrl]; omega)
        rw [hrl] at h; exact h)
      have HR3 := Lib.hid (intRow_lower (trim_row HR.out) hbs)
      rw [HT.out] at HR3
      generalize (tabL n fun i => if i < k then l.getD i 0 % M else 0) = rl at *
      clear HT hrl HR
      go_wp2_with fail
      refine (trimmed_any SR.out).mono ?_
      rintro e w3 ⟨rfl, rfl⟩
      go_wp2_with fail
      go_ret
      exact ⟨_, rfl, HR3.out, HB.out⟩
/-! products -/
set_option maxHeartbeats 2000000 in
theorem derivativeR_any {p q M : Int} (hR : ringM p q = M) (m2 : 2 ≤ M) (m9 : M ≤ 1000000000) {o : Option Addr} {n c : Nat} {f : List Int} {w : World} (h : Seen w o n c f) (hf : Cof9 f) (hn9 : n ≤ 9) :
    Calls Try.prog 130 #[.agg #[.int .i64 p, .int .i64 q], .slice o n c] w (OwnPost (redL M (derL f)) w) := by
  obtain ⟨hl, hn, hno, hnc, g, h1, h2⟩ := h
  obtain ⟨i0, hi, hz0, hz1, hz2⟩ := info_parts Try.infoInt64
  have HI := Lib.hid hi
  have HZ0 := Lib.hid hz0
  have HZ1 := Lib.hid hz1
  have HZ2 := Lib.hid hz2
  have HO := Lib.hid h1
  have HL := Lib.hid hl
  have HC := Lib.hid h2
  have HF := Lib.hid hf
  obtain ⟨d, hd⟩ : ∃ d, n - 1 = d := ⟨_, rfl⟩
  have hm0 : max ((n : Int) - 1) 0 = (d : Int) := by omega
  have HD := Lib.hid hd
  have hd8 : d ≤ 8 := by omega
  have HRED := Lib.hid fun (wx : World) (o' : Option Addr) (c' : Nat) (a : List Int) (hx : Seen wx o' d c' a) => reducedR_any hR m2 m9 hx (by omega)
  obtain ⟨W0, hW0⟩ : ∃ W0, w.alloc (.cells #[.int .i64 p, .int .i64 q] 25) = W0 := ⟨_, rfl⟩
  have HW0 := Lib.hid hW0
  have hb1 : Below w.heap.size w W0 := by rw [← hW0]; exact below_a8 _ _
  obtain ⟨Q, hQ⟩ : ∃ Q, W0.heap.size = Q := ⟨_, rfl⟩
  have hs0 : Q = w.heap.size + 1 := by rw [← hQ, ← hW0]; simp
  have HS0 := Lib.hid hs0
  have q0 : W0.cell? ⟨w.heap.size, 0, none⟩ = some (.int .i64 p) := by rw [← hW0]; exact World.cell?_alloc_new _ _ _ _ ▸ rfl
  have q1 : W0.cell? ⟨w.heap.size, 1, none⟩ = some (.int .i64 q) := by rw [← hW0]; exact World.cell?_alloc_new _ _ _ _ ▸ rfl
  have HQ := Lib.hid (And.intro q0 q1)
  have HB1 := Lib.hid hb1
  clear hi hz0 hz1 hz2 h1 h2 hl hno hnc hf hd hb1 q0 q1 hs0
  go_enter Try.func130, Try.ntmps130
  go_upto_region 1 with fail
  clear hW0
  go_wp2_with (at_make; refine wpList_make_full _ rfl (.tmp 10) (.tmp 10) 26 rfl W0.heap.size 2 i0 (.int .i64 0) 1 Try.underlying26 HI.out HZ0.out HZ1.out .i64 .i64 _ _ d rfl rfl rfl rfl (by rw [HZ2.out]; omega) (by unfold maxLen; omega) (Nat.le_refl _) ?_; intro w2 hown hgrow; rw [hQ] at hown)
  have HB2 := Lib.hid ((Below.refl W0.heap.size W0).grown hgrow (Nat.le_refl _) (fun k h => by cases h))
  have HR2 := Lib.hid (show IntRow Q w2 (.slice (some ⟨Q, 0, none⟩) d d) (tabL d fun i => if i < 0 then ((i : Int) + 1) * f.getD (i + 1) 0 else 0) by rw [← hQ] at hown ⊢; exact int_made hown)
  clear hown hgrow hm0
  rw [hQ] at HB2
  go_wp2_with fail
  go_loopw [14] (fun s wr => ∃ k : Nat, k ≤ d ∧ s = .int .i64 k ∧ IntRow Q wr (.slice (some ⟨Q, 0, none⟩) d d) (tabL d fun i => if i < k then ((i : Int) + 1) * f.getD (i + 1) 0 else 0) ∧ Below Q W0 wr) (fun s _ => d - (intOf s).toNat)
  case atStart => exact ⟨0, Nat.zero_le _, rfl, HR2.out, HB2.out⟩
  case round =>
    obtain ⟨k, hk, rfl, hr, hb⟩ := hrel
    have HR := Lib.hid hr
    have HB := Lib.hid hb
    clear hr hb HR2 HB2
    by_cases hlt : k < d
    · obtain ⟨m, hm⟩ : ∃ m, k + 1 = m := ⟨_, rfl⟩
      have hm1 : (k : Int) + 1 = (m : Int) := by omega
      have wm : IntKind.i64.wrap (m : Int) = (m : Int) := IntWalk.i64_in _ (by omega)
      have hmn : m < n := by have := HD.out; omega
      obtain ⟨hog, hgl⟩ := HO.out (by omega)
      subst hog
      have a2 : wr.cell? ⟨g, m, none⟩ = some (.int .i64 (f.getD m 0)) := by
        rw [HB.out.cell (p := ⟨g, m, none⟩) (by show g < Q; have := HS0.out; omega), HB1.out.cell (p := ⟨g, m, none⟩) hgl]; exact HC.out m hmn
      have hrl : (tabL d fun i => if i < k then ((i : Int) + 1) * f.getD (i + 1) 0 else 0).length = d := tabL_length _ _
      have c2 := int_at HR.out hrl hlt
      have f2 := int_frozen HR.out hrl k
      have HE := Lib.hid (der_step (f := f) hlt)
      rw [hm1, hm] at HE
      have hz := HF.out m
      obtain ⟨z, hzz⟩ : ∃ z, f.getD m 0 = z := ⟨_, rfl⟩
      rw [hzz] at a2 HE hz
      have m1 : -9000000000 ≤ (m : Int) * z ∧ (m : Int) * z ≤ 9000000000 := by
        have e1 := Int.mul_le_mul_of_nonneg_left hz.1 (show 0 ≤ (m : Int) by omega)
        have e2 := Int.mul_le_mul_of_nonneg_left hz.2 (show 0 ≤ (m : Int) by omega)
        omega
      have w1 : IntKind.i64.wrap ((m : Int) * z) = (m : Int) * z := IntWalk.i64_in _ (by omega)
      have HR3 := Lib.hid (int_stored HR.out hrl k ((m : Int) * z))
      rw [HE.out] at HR3
      have HB3 := Lib.hid (HB.out.setCell (p := ⟨Q, k, none⟩) (Nat.le_refl _) (.int .i64 ((m : Int) * z)))
      have hkd : (k : Int) < (d : Int) := by omega
      have hmn' : (m : Int) < (n : Int) := by omega
      obtain ⟨y0, hy0⟩ : ∃ y, (tabL d fun i => if i < k then ((i : Int) + 1) * f.getD (i + 1) 0 else 0).getD k 0 = y := ⟨_, rfl⟩
      rw [hy0] at c2
      have hmd : m ≤ d := by omega
      clear hgl HE HR HB hy0 hrl hzz hz m1 hm
      go_wp2_with fail
      exact ⟨⟨m, hmd, by first | rfl | go_num | (congr 1; omega), HR3.out, HB3.out⟩, by simp only [intOf]; omega⟩
    · have hkd : k = d := by omega
      have HT := Lib.hid (show (tabL d fun i => if i < k then ((i : Int) + 1) * f.getD (i + 1) 0 else 0) = derL f by
        unfold derL
        rw [← HL.out, show n - 1 = d from HD.out]
        exact tabL_ext fun i hi => by rw [if_pos (by omega)])
      have hrl : (derL f).length = d := by rw [derL, tabL_length, ← HL.out]; exact HD.out
      have HR3 := HR.out
      rw [HT.out] at HR3
      have SR := Lib.hid (show Seen wr (some ⟨Q, 0, none⟩) d d (derL f) by
        have h := row_seen (o := some ⟨Q, 0, none⟩) (n := (derL f).length) (c := d) (by rw [hrl]; exact HR3) (by rw [hrl]; omega)
        rw [hrl] at h; exact h)
      have c0 : wr.cell? ⟨w.heap.size, 0, none⟩ = some (.int .i64 p) := by rw [HB.out.cell (p := ⟨w.heap.size, 0, none⟩) (by show w.heap.size < Q; have := HS0.out; omega)]; exact HQ.out.1
      have c1 : wr.cell? ⟨w.heap.size, 1, none⟩ = some (.int .i64 q) := by rw [HB.out.cell (p := ⟨w.heap.size, 1, none⟩) (by show w.heap.size < Q; have := HS0.out; omega)]; exact HQ.out.2
      have HB4 := Lib.hid (HB1.out.trans (HB.out.mono (by have := HS0.out; omega)))
      clear HT hrl HR HR3 hkd
      generalize derL f = dl at *
      go_wp2_with fail
      refine (HRED.out _ _ _ _ SR.out).mono ?_
      rintro e w3 ⟨v, rfl, hr3, hb3⟩
      have HR5 := Lib.hid (intRow_lower hr3 HB4.out.size)
      have HB5 := Lib.hid (HB4.out.trans (hb3.mono HB4.out.size))
      clear hr3 hb3 HRED
      go_wp2_with fail
      go_ret
      exact ⟨_, rfl, HR5.out, HB5.out⟩
end Go.Proofs.Ytbjkcoajabcibaa
namespace Go.Proofs.Ytbjkcoajabcibaa
open Go.RowKit
set_option linter.unusedVariables false
set_option linter.unusedSimpArgs false
set_option maxRecDepth 20000
def chkR (p q : Int) (l : List Int) : Int := if ringM p q = 0 then 1 else if resB (ringM p q) l then 0 else 2
set_option maxHeartbeats 1000000 in
theorem checkAllR_any (p q : Int) {o : Option Addr} {n c : Nat} {l : List Int} {w : World} (h : Seen w o n c l) :
    Calls Try.prog 78 #[.agg #[.int .i64 p, .int .i64 q], .slice o n c] w fun e w' => e = .returned (.int .i64 (chkR p q l)) ∧ Below w.heap.size w w' := by
  obtain ⟨hl, hn, hno, hnc, g, h1, h2⟩ := h
  have HO := Lib.hid h1
  have HL := Lib.hid hl
  have HC := Lib.hid h2
  clear h1 h2 hl hno hnc
  by_cases h0 : ringM p q = 0
  · skip
    have HP := Lib.hid (show chkR p q l = 1 by simp [chkR, h0])
    have HM := Lib.hid fun w => implModulus_any p q w
    rw [h0] at HM
    clear h0
    go_enter Try.func78, Try.ntmps78
    go_wp2_with fail
    refine (HM.out _).mono ?_
    rintro e w1 ⟨rfl, hb⟩
    have HB := Lib.hid (box8 hb)
    clear hb HM
    go_wp2_with fail
    go_ret
    rw [HP.out]; exact ⟨rfl, HB.out⟩
  · obtain ⟨_, _, _, _, m2, m9, _⟩ := ringM_bd h0
    obtain ⟨M, hM⟩ : ∃ M, ringM p q = M := ⟨_, rfl⟩
    have HCK := Lib.hid (show chkR p q l = if resB M l then 0 else 2 by rw [chkR, if_neg h0, hM])
    have HM := Lib.hid fun w => modulusR_any hM w
    rw [hM] at m2 m9
    have hpz : (M == 0) = false := by simp; omega
    clear h0 hM
    go_enter Try.func78, Try.ntmps78
    go_wp2_with fail
    refine (HM.out _).mono ?_
    rintro e w1 ⟨rfl, hb⟩
    have HB := Lib.hid (box8 hb)
    clear hb HM
    go_wp2_with fail
    go_loop [14] (fun i => ∃ k : Nat, k ≤ n ∧ i = .int .i64 k ∧ resB M (l.take k) = true) (fun i => n - (intOf i).toNat)
    case atStart => exact ⟨0, Nat.zero_le _, rfl, by simp [resB]⟩
    case round =>
      obtain ⟨k, hk, rfl, hall⟩ := hrel
      by_cases hlt : k < n
      · have hkl : k < l.length := by have := HL.out; omega
        obtain ⟨hog, hgl⟩ := HO.out (by omega)
        subst hog
        have a2 : w1.cell? ⟨g, k, none⟩ = some (.int .i64 (l.getD k 0)) := by rw [HB.out.cell (p := ⟨g, k, none⟩) hgl]; exact HC.out k hlt
        have HA := Lib.hid (all_take6 (f := fun x => inB x 0 (M - 1)) hkl)
        have HFA := Lib.hid (fun h : inB (l.getD k 0) 0 (M - 1) = false => (show chkR p q l = 2 by
          rw [HCK.out, show resB M l = false from all_false hkl h]; rfl))
        have HTR := Lib.hid (fun h : inB (l.getD k 0) 0 (M - 1) = true => (show resB M (l.take (k + 1)) = true by
          unfold resB at hall ⊢; rw [HA.out, hall]; simpa using h))
        have hkn : (k : Int) < (n : Int) := by omega
        generalize l.getD k 0 = x at *
        clear hkl hall hgl HA
        by_cases hx0 : x < 0
        · have HP := Lib.hid (HFA.out (inB_f (.inl hx0)))
          go_wp2_with fail
          go_ret
          rw [HP.out]; exact ⟨rfl, HB.out⟩
        · by_cases hx1 : M ≤ x
          · have HP := Lib.hid (HFA.out (inB_f (.inr (by omega))))
            go_wp2_with fail
            go_ret
            rw [HP.out]; exact ⟨rfl, HB.out⟩
          · have HP := Lib.hid (HTR.out (inB_t (by omega) (by omega)))
            go_wp2_with fail
            exact ⟨⟨k + 1, by omega, by go_num, HP.out⟩, by simp [intOf]; omega⟩
      · have hkn : k = n := by omega
        rw [hkn, HL.out, List.take_of_length_le (Nat.le_refl _)] at hall
        have HP := Lib.hid (show chkR p q l = 0 by rw [HCK.out, hall]; rfl)
        clear hlt hall
        subst hkn
        go_wp2_with fail
        go_ret
        rw [HP.out]; exact ⟨rfl, HB.out⟩
theorem inrB_can (p q : Int) (f : List Int) : inrB p q f = (canB f && (chkR p q f == 0)) := by
  unfold canB chkR
  by_cases h0 : ringM p q = 0
  · rw [if_pos h0]; simp [inrB, h0]
  · rw [if_neg h0, inrB_eq h0]
    cases resB (ringM p q) f <;> cases lastB f <;> cases decide (f.length ≤ 9) <;> rfl
theorem hasPolyR_any (p q : Int) {o : Option Addr} {n c : Nat} {f : List Int} {w : World} (h : Seen w o n c f) :
    Calls Try.prog 101 #[.agg #[.int .i64 p, .int .i64 q], .slice o n c] w fun e w' => e = .returned (.bool (inrB p q f)) ∧ Below w.heap.size w w' := by
  have HP := Lib.hid (inrB_can p q f)
  have hb1 := below_a8 w (.cells #[.int .i64 p, .int .i64 q] 25)
  have HB1 := Lib.hid hb1
  have HS := Lib.hid (seen_below h hb1)
  have HC := Lib.hid (checkAllR_any p q HS.out)
  clear h hb1
  cases hc : canB f
  · rw [hc] at HP
    go_enter Try.func101, Try.ntmps101
    go_wp2_with fail
    refine (canBe_any HS.out).mono ?_
    rw [hc]
    rintro e w2 ⟨rfl, rfl⟩
    go_wp2_with fail
    go_ret
    rw [HP.out]; exact ⟨rfl, HB1.out⟩
  · rw [hc] at HP
    go_enter Try.func101, Try.ntmps101
    go_wp2_with fail
    refine (canBe_any HS.out).mono ?_
    rw [hc]
    rintro e w2 ⟨rfl, rfl⟩
    go_wp2_with fail
    refine HC.out.mono ?_
    rintro e w3 ⟨rfl, hb⟩
    have HB := Lib.hid (box8 hb)
    clear hb HC
    generalize chkR p q f = x at *
    go_wp2_with fail
    go_ret
    rw [HP.out]; exact ⟨by first | rfl | simp, HB.out⟩
def okR (p q : Int) (f : List Int) : Int := if inrB p q f then 0 else 1
def twoR (p q : Int) (f g : List Int) : Bool := inrB p q f && inrB p q g
def okR2 (p q : Int) (f g : List Int) : Int := if twoR p q f g then 0 else 1
set_option maxHeartbeats 1000000 in
theorem checkPolyR1 (p q : Int) {b : Nat} {of : Option Addr} {nf cf : Nat} {f : List Int} {w : World} (hf : Seen w of nf cf f) (df : w.cell? ⟨b, 0, none⟩ = some (.slice of nf cf)) (hlt : b < w.heap.size) :
    Calls Try.prog 86 #[.agg #[.int .i64 p, .int .i64 q], .slice (some ⟨b, 0, none⟩) 1 1] w fun e w' => e = .returned (.int .i64 (okR p q f)) ∧ Below w.heap.size w w' := by
  have hb1 := below_a8 w (.cells #[.int .i64 p, .int .i64 q] 25)
  have HH := Lib.hid (hasPolyR_any p q (seen_below hf hb1))
  have d1 : (w.alloc (.cells #[.int .i64 p, .int .i64 q] 25)).cell? ⟨b, 0, none⟩ = some (.slice of nf cf) := by rw [hb1.cell (p := ⟨b, 0, none⟩) hlt]; exact df
  clear hf df hb1
  cases hm : inrB p q f
  · have HP := Lib.hid (show okR p q f = 1 by simp [okR, hm])
    rw [hm] at HH
    go_enter Try.func86, Try.ntmps86
    go_wp2_with fail
    refine wp_loop_rounds 2 ?_
    rw [rounds_succ]
    go_wp2_with fail
    refine HH.out.mono ?_
    rintro e w2 ⟨rfl, hb⟩
    have HB := Lib.hid (box8 hb)
    clear hb HH
    go_wp2_with fail
    go_ret
    rw [HP.out]; exact ⟨rfl, HB.out⟩
  · have HP := Lib.hid (show okR p q f = 0 by simp [okR, hm])
    rw [hm] at HH
    go_enter Try.func86, Try.ntmps86
    go_wp2_with fail
    refine wp_loop_rounds 2 ?_
    rw [rounds_succ]
    go_wp2_with fail
    refine HH.out.mono ?_
    rintro e w2 ⟨rfl, hb⟩
    have HB := Lib.hid (box8 hb)
    clear hb HH
    go_wp2_with fail
    rw [rounds_succ]
    go_wp2_with fail
    go_ret
    rw [HP.out]; exact ⟨rfl, HB.out⟩
set_option maxHeartbeats 1000000 in
theorem checkPolyR2 (p q : Int) {b : Nat} {of : Option Addr} {nf cf : Nat} {f : List Int} {og : Option Addr} {ng cg : Nat} {g : List Int} {w : World} (hf : Seen w of nf cf f) (df : w.cell? ⟨b, 0, none⟩ = some (.slice of nf cf)) (hg : Seen w og ng cg g) (dg : w.cell? ⟨b, 1, none⟩ = some (.slice og ng cg)) (hlt : b < w.heap.size) :
    Calls Try.prog 86 #[.agg #[.int .i64 p, .int .i64 q], .slice (some ⟨b, 0, none⟩) 2 2] w fun e w' => e = .returned (.int .i64 (okR2 p q f g)) ∧ Below w.heap.size w w' := by
  have hb1 := below_a8 w (.cells #[.int .i64 p, .int .i64 q] 25)
  have hs1 : b < (w.alloc (.cells #[.int .i64 p, .int .i64 q] 25)).heap.size := by simp; omega
  have HH := Lib.hid (hasPolyR_any p q (seen_below hf hb1))
  have SG := Lib.hid (seen_below hg hb1)
  have d1 : (w.alloc (.cells #[.int .i64 p, .int .i64 q] 25)).cell? ⟨b, 0, none⟩ = some (.slice of nf cf) := by rw [hb1.cell (p := ⟨b, 0, none⟩) hlt]; exact df
  have D2 := Lib.hid (show (w.alloc (.cells #[.int .i64 p, .int .i64 q] 25)).cell? ⟨b, 1, none⟩ = some (.slice og ng cg) by rw [hb1.cell (p := ⟨b, 1, none⟩) hlt]; exact dg)
  clear hf df hg dg hb1
  cases hm : inrB p q f
  · have HP := Lib.hid (show okR2 p q f g = 1 by simp [okR2, twoR, hm])
    rw [hm] at HH
    go_enter Try.func86, Try.ntmps86
    go_wp2_with fail
    refine wp_loop_rounds 3 ?_
    rw [rounds_succ]
    go_wp2_with fail
    refine HH.out.mono ?_
    rintro e w2 ⟨rfl, hb⟩
    have HB := Lib.hid (box8 hb)
    clear hb HH
    go_wp2_with fail
    go_ret
    rw [HP.out]; exact ⟨rfl, HB.out⟩
  · have HP := Lib.hid (show okR2 p q f g = if inrB p q g then 0 else 1 by simp [okR2, twoR, hm])
    rw [hm] at HH
    go_enter Try.func86, Try.ntmps86
    go_wp2_with fail
    refine wp_loop_rounds 3 ?_
    rw [rounds_succ]
    go_wp2_with fail
    refine HH.out.mono ?_
    rintro e w2 ⟨rfl, hb⟩
    have d2 : w2.cell? ⟨b, 1, none⟩ = some (.slice og ng cg) := by rw [hb.cell (p := ⟨b, 1, none⟩) hs1]; exact D2.out
    obtain ⟨c0, c1⟩ := box8_cells hb
    have HG := Lib.hid (hasPolyR_any p q (seen_below SG.out hb))
    have HB := Lib.hid (box8 hb)
    clear hb HH SG D2 d1
    go_wp2_with fail
    rw [rounds_succ]
    go_wp2_with fail
    refine HG.out.mono ?_
    rintro e w3 ⟨rfl, hb⟩
    have HB3 := Lib.hid (HB.out.trans (hb.mono HB.out.size))
    clear hb HG c0 c1 d2
    cases hg : inrB p q g
    · rw [hg] at HP
      go_wp2_with fail
      go_ret
      rw [HP.out]; exact ⟨rfl, HB3.out⟩
    · rw [hg] at HP
      go_wp2_with fail
      rw [rounds_succ]
      go_wp2_with fail
      go_ret
      rw [HP.out]; exact ⟨rfl, HB3.out⟩
/-! remainders of coefficients -/
theorem isMonicR_any {o : Option Addr} {n c : Nat} {f : List Int} {w : World} (h : Seen w o n c f) :
    Calls Try.prog 87 #[.slice o n c] w fun e w' => e = .returned (.bool (mncB f)) ∧ w = w' := by
  obtain ⟨hl, hn, hno, hnc, g, h1, h2⟩ := h
  by_cases h0 : n = 0
  · have HE := Lib.hid (show mncB f = false by simp [mncB, ← hl, h0])
    clear h1 h2 hl hno hnc
    subst h0
    go_enter Try.func87, Try.ntmps87
    go_wp2
    go_ret
    rw [HE.out]; exact ⟨rfl, rfl⟩
  · obtain ⟨rfl, hag⟩ := h1 (by omega)
    have a2 := h2 (n - 1) (by omega)
    have hn1 : (n : Int) - 1 = ((n - 1 : Nat) : Int) := by omega
    have h0' : (0 : Int) < (n : Int) := by omega
    have HE := Lib.hid (show mncB f = (f.getD (n - 1) 0 == 1) by simp [mncB, ← hl, show 0 < n by omega])
    generalize f.getD (n - 1) 0 = x at *
    clear h1 h2 hl hno hnc
    go_enter Try.func87, Try.ntmps87
    go_wp2
    go_ret
    rw [HE.out]; exact ⟨rfl, rfl⟩
end Go.Proofs.Ytbjkcoajabcibaa
