/- The draw of two numbers. -/
import Derived.Test.YtgckamlibbjgcaaDrawPad2
namespace Go.Proofs.Ytgckamlibbjgcaa
open Go.RowKit
set_option linter.unusedVariables false
set_option maxRecDepth 20000
set_option linter.unusedSimpArgs false
set_option maxHeartbeats 4000000 in
theorem drawTwo_any (o : Option Addr) (len cap : Nat) (w : World) (hl : len ≤ 4096) (hc : CodeIn w o len) :
    Calls Try.prog 72 #[.slice o len cap] w (TwoPad w) := by
  have HC := Lib.hid (codeIn_below (B := w.heap.size) hc (show Below w.heap.size w ((w.alloc (.cells (P4 0 0 0 0) 34)).alloc (.cells (P4 0 0 0 0) 34)) from below_a2 w _ _))
  have HC0 := Lib.hid hc
  clear hc
  go_enter Try.func72, Try.ntmps72
  go_wp2_with fail
  refine (from_any _ _ _ _ hl HC.out).mono ?_
  rintro e w1 ⟨q, rfl, hq, hs1, hb1⟩
  have K := k2_next (k2_new w (P4 0 0 0 0) (P4 0 0 0 0)  34 34 ) hb1
  have D : DD o len cap q 2 w w1 := ⟨hs1, K.1, by simpa using hq⟩
  clear hs1 hb1 hq
  go_wp2_with fail
  refine (padDraw_any o len cap q _ D.1).mono ?_
  rintro e w2 ⟨p, v, u, n, rfl, hp0, hp1, hv0, hv1, hu0, hu1, hn0, hn1, hs2, hg2⟩
  replace K := k2_grown K hg2 D.2.2
  replace D := dd_next D hs2 hg2
  clear hs2 hg2
  go_upto_region 3 with fail
  have Lx := lies_new w2 (P4 p v u n) 34
  have hlx : q < w2.heap.size := src_lt D.1
  replace D := dd_alloc D (.cells (P4 p v u n) 34)
  replace K := k2_next K (below_a1 w2 (.cells (P4 p v u n) 34))
  generalize w2.alloc (.cells (P4 p v u n) 34) = Wx at Lx D K ⊢
  obtain ⟨bx, hbx⟩ : ∃ b, w2.heap.size = b := ⟨_, rfl⟩
  rw [hbx] at Lx hlx ⊢
  clear hbx
  obtain ⟨x0, x1, x2, x3⟩ := lies_four Lx
  cases hs : smallB p
  · go_wp2_with (first | (go_at_call 69; refine (l01Small_any _ _).mono ?_; rintro e wn ⟨rfl, rfl⟩))
    have KD := k2_drew K
    have DR := dd_drew D
    clear x0 x1 x2 x3
    refine wp_region_held_drew (S := fun w' => Lies w' bx (P4 p v u n)) (by kernel_rfl) Lx (fun hHeld => ?_)
    generalize World.drew _ = W1 at DR KD hHeld ⊢
    refine take_at (i := 0) (d := 20) (v := .agg #[.int .i64 p, .int .i64 v, .int .i64 u, .int .i64 n]) rfl rfl (by kernel_rfl) (by kernel_rfl) (by kernel_rfl) (fun _ _ _ h => h) (Or.inl ⟨by rfl, ?_⟩) hHeld ?_
    · intro w' hS
      obtain ⟨k0, k1, k2, k3⟩ := lies_four hS
      go_simp
    try simp only [Act.put, List.setIfInBounds_toArray, List.set_cons_zero, List.set_cons_succ]
    refine take_at (i := 1) (d := 21) (v := .pointer (some ⟨q, 0, none⟩)) rfl rfl (by kernel_rfl) (by kernel_rfl) (by kernel_rfl) (fun _ _ _ h => h) (Or.inl ⟨by rfl, ?_⟩) hHeld ?_
    · intro w' hS; go_simp
    try simp only [Act.put, List.setIfInBounds_toArray, List.set_cons_zero, List.set_cons_succ]
    refine wpAnyH_ready (rs := [2]) (by kernel_rfl) (by simp) ?_
    refine AllReadyH.cons rfl (fun K' hK => ?_) AllReadyH.nil
    go_simp
    refine (padDraw_any o len cap q _ DR.1).mono ?_
    rintro e w4 ⟨p', v', u', n', rfl, _, _, _, _, _, _, _, _, hs4, hg4⟩
    go_simp
    refine hK.out _ _ (lies_grown hHeld hg4 (by omega)) (fun hHeld => ?_)
    clear hK K'
    try simp only [Act.put, List.setIfInBounds_toArray, List.set_cons_zero, List.set_cons_succ]
    have K4 := k2_grown KD hg4 D.2.2
    obtain ⟨c0, c1, c2, c3⟩ := lies_four K4.2.1
    obtain ⟨cf0, cf1, cf2, cf3⟩ := lies_ice K4.2.1
    obtain ⟨d0, d1, d2, d3⟩ := lies_four K4.2.2
    obtain ⟨df0, df1, df2, df3⟩ := lies_ice K4.2.2
    have hne : ¬ w.heap.size = bx := by have := D.2.2; omega
    have hne2 : ¬ w.heap.size + 1 = bx := by have := D.2.2; omega
    clear hs4 hg4 KD DR
    refine wpAnyH_ready (rs := [3]) (by kernel_rfl) (by simp) ?_
    refine AllReadyH.cons rfl (fun K' hK => ?_) AllReadyH.nil
    go_simp
    refine hK.out _ _ (lies_other4 hHeld hne) (fun hHeld => ?_)
    clear hK K'
    try simp only [Act.put, List.setIfInBounds_toArray, List.set_cons_zero, List.set_cons_succ]
    refine wpAnyH_ready (rs := [4]) (by kernel_rfl) (by simp) ?_
    refine AllReadyH.cons rfl (fun K' hK => ?_) AllReadyH.nil
    go_simp
    refine hK.out _ _ (lies_other4 hHeld hne2) (fun hHeld => ?_)
    clear hK K'
    try simp only [Act.put, List.setIfInBounds_toArray, List.set_cons_zero, List.set_cons_succ]
    refine wpAnyH_done (by kernel_rfl) ?_ _
    go_wp2
    refine bodyPost_ret (v := .tuple #[.agg (P4 p v u n), .agg (P4 p' v' u' n')]) (by simp [results, Try.results72, go_sem, c0, c1, c2, c3, d0, d1, d2, d3]) rfl ?_
    exact ⟨_, _, _, _, _, _, _, _, rfl, below_set4 (below_set4 K4.1 (by omega)) (by omega)⟩
  · have HS := Lib.hid hs
    go_wp2_with (first | (go_at_call 69; refine (l01Small_any _ _).mono ?_; rintro e wn ⟨rfl, rfl⟩))
    refine (next_any _ _ _ _ _ _ (by omega) D.1).mono ?_
    rintro e w3 ⟨r, rfl, r0, r1, hs3, hg3, hz3⟩
    replace K := k2_grown K hg3 D.2.2
    replace Lx := lies_grown Lx hg3 (by omega)
    replace D := dd_next D hs3 hg3
    clear hs3 hg3 hz3 r1 x0 x1 x2 x3
    obtain ⟨x0, x1, x2, x3⟩ := lies_four Lx
    by_cases hr : r = 0
    · subst hr
      go_wp2_with fail
      have KD := k2_drew K
      have DR := dd_drew D
      clear x0 x1 x2 x3
      refine wp_region_held_drew (S := fun w' => Lies w' bx (P4 p v u n)) (by kernel_rfl) Lx (fun hHeld => ?_)
      generalize World.drew _ = W1 at DR KD hHeld ⊢
      refine take_at (i := 0) (d := 20) (v := .agg #[.int .i64 p, .int .i64 v, .int .i64 u, .int .i64 n]) rfl rfl (by kernel_rfl) (by kernel_rfl) (by kernel_rfl) (fun _ _ _ h => h) (Or.inl ⟨by rfl, ?_⟩) hHeld ?_
      · intro w' hS
        obtain ⟨k0, k1, k2, k3⟩ := lies_four hS
        go_simp
      try simp only [Act.put, List.setIfInBounds_toArray, List.set_cons_zero, List.set_cons_succ]
      refine take_at (i := 1) (d := 21) (v := .pointer (some ⟨q, 0, none⟩)) rfl rfl (by kernel_rfl) (by kernel_rfl) (by kernel_rfl) (fun _ _ _ h => h) (Or.inl ⟨by rfl, ?_⟩) hHeld ?_
      · intro w' hS; go_simp
      try simp only [Act.put, List.setIfInBounds_toArray, List.set_cons_zero, List.set_cons_succ]
      refine wpAnyH_ready (rs := [2]) (by kernel_rfl) (by simp) ?_
      refine AllReadyH.cons rfl (fun K' hK => ?_) AllReadyH.nil
      go_simp
      refine (padDraw_any o len cap q _ DR.1).mono ?_
      rintro e w4 ⟨p', v', u', n', rfl, _, _, _, _, _, _, _, _, hs4, hg4⟩
      go_simp
      refine hK.out _ _ (lies_grown hHeld hg4 (by omega)) (fun hHeld => ?_)
      clear hK K'
      try simp only [Act.put, List.setIfInBounds_toArray, List.set_cons_zero, List.set_cons_succ]
      have K4 := k2_grown KD hg4 D.2.2
      obtain ⟨c0, c1, c2, c3⟩ := lies_four K4.2.1
      obtain ⟨cf0, cf1, cf2, cf3⟩ := lies_ice K4.2.1
      obtain ⟨d0, d1, d2, d3⟩ := lies_four K4.2.2
      obtain ⟨df0, df1, df2, df3⟩ := lies_ice K4.2.2
      have hne : ¬ w.heap.size = bx := by have := D.2.2; omega
      have hne2 : ¬ w.heap.size + 1 = bx := by have := D.2.2; omega
      clear hs4 hg4 KD DR
      refine wpAnyH_ready (rs := [3]) (by kernel_rfl) (by simp) ?_
      refine AllReadyH.cons rfl (fun K' hK => ?_) AllReadyH.nil
      go_simp
      refine hK.out _ _ (lies_other4 hHeld hne) (fun hHeld => ?_)
      clear hK K'
      try simp only [Act.put, List.setIfInBounds_toArray, List.set_cons_zero, List.set_cons_succ]
      refine wpAnyH_ready (rs := [4]) (by kernel_rfl) (by simp) ?_
      refine AllReadyH.cons rfl (fun K' hK => ?_) AllReadyH.nil
      go_simp
      refine hK.out _ _ (lies_other4 hHeld hne2) (fun hHeld => ?_)
      clear hK K'
      try simp only [Act.put, List.setIfInBounds_toArray, List.set_cons_zero, List.set_cons_succ]
      refine wpAnyH_done (by kernel_rfl) ?_ _
      go_wp2
      refine bodyPost_ret (v := .tuple #[.agg (P4 p v u n), .agg (P4 p' v' u' n')]) (by simp [results, Try.results72, go_sem, c0, c1, c2, c3, d0, d1, d2, d3]) rfl ?_
      exact ⟨_, _, _, _, _, _, _, _, rfl, below_set4 (below_set4 K4.1 (by omega)) (by omega)⟩
    · have hr' : (r == 0) = false := by simpa using hr
      clear hr
      go_wp2_with fail
      refine (padValid_any p o len cap q _ HS.out D.1).mono ?_
      rintro e w4 ⟨v', u', n', rfl, _, _, _, _, _, _, hs4, hg4⟩
      replace K := k2_grown K hg4 D.2.2
      replace Lx := lies_grown Lx hg4 (by omega)
      replace D := dd_next D hs4 hg4
      clear hs4 hg4 x0 x1 x2 x3
      have hxm : bx < w4.heap.size := lies_lt Lx
      go_upto_region 6 with fail
      have Lm := lies_new w4 (P4 p v' u' n') 34
      have hlm : q < w4.heap.size := src_lt D.1
      replace Lx := lies_alloc Lx (.cells (P4 p v' u' n') 34)
      replace D := dd_alloc D (.cells (P4 p v' u' n') 34)
      replace K := k2_next K (below_a1 w4 (.cells (P4 p v' u' n') 34))
      generalize w4.alloc (.cells (P4 p v' u' n') 34) = Wm at Lx Lm D K ⊢
      obtain ⟨bm, hbm⟩ : ∃ b, w4.heap.size = b := ⟨_, rfl⟩
      rw [hbm] at Lm hlm hxm ⊢
      clear hbm
      obtain ⟨x0, x1, x2, x3⟩ := lies_four Lx
      go_cut [38] (fun s38 wx => ∃ b : Bool, s38 = .bool b ∧ DD o len cap q 2 w wx ∧ K2 w (P4 0 0 0 0) (P4 0 0 0 0) wx ∧ Lies wx bx (P4 p v u n) ∧ Lies wx bm (P4 p v' u' n') ∧ (b = true → POk p v u n ∧ 1 < n))
      case first =>
        cases hx : padB p v u n
        · have HX := Lib.hid hx
          clear hx
          go_wp2_with (first | (go_at_call 83; refine (specIsPadic_any _ _ _ _ _).mono ?_; rw [HX.out]; rintro e wn ⟨rfl, hb⟩; replace D := dd_below D hb; replace K := k2_next K hb; replace Lx := lies_next Lx hb; replace Lm := lies_next Lm hb; obtain ⟨x0, x1, x2, x3⟩ := lies_four Lx))
          go_meet
          case rel => exact ⟨false, rfl, D, K, Lx, Lm, fun h => by cases h⟩
        · have HX := Lib.hid hx
          clear hx
          by_cases hn : 1 < n
          · go_wp2_with (first | (go_at_call 83; refine (specIsPadic_any _ _ _ _ _).mono ?_; rw [HX.out]; rintro e wn ⟨rfl, hb⟩; replace D := dd_below D hb; replace K := k2_next K hb; replace Lx := lies_next Lx hb; replace Lm := lies_next Lm hb; obtain ⟨x0, x1, x2, x3⟩ := lies_four Lx))
            refine (next_any _ _ _ _ _ _ (by omega) D.1).mono ?_
            rintro e w5 ⟨r5, rfl, r50, r51, hs5, hg5, hz5⟩
            replace K := k2_grown K hg5 D.2.2
            replace Lx := lies_grown Lx hg5 (by omega)
            replace Lm := lies_grown Lm hg5 (by omega)
            replace D := dd_next D hs5 hg5
            clear hs5 hg5 hz5 r51 x0 x1 x2 x3
            by_cases hr5 : r5 = 0
            · subst hr5
              go_wp2_with fail
              go_meet
              case rel => exact ⟨true, rfl, D, K, Lx, Lm, fun _ => ⟨padB_ok HX.out, by omega⟩⟩
            · have hr5' : (r5 == 0) = false := by simpa using hr5
              clear hr5
              go_wp2_with fail
              go_meet
              case rel => exact ⟨false, rfl, D, K, Lx, Lm, fun h => by cases h⟩
          · go_wp2_with (first | (go_at_call 83; refine (specIsPadic_any _ _ _ _ _).mono ?_; rw [HX.out]; rintro e wn ⟨rfl, hb⟩; replace D := dd_below D hb; replace K := k2_next K hb; replace Lx := lies_next Lx hb; replace Lm := lies_next Lm hb; obtain ⟨x0, x1, x2, x3⟩ := lies_four Lx))
            go_meet
            case rel => exact ⟨false, rfl, D, K, Lx, Lm, fun h => by cases h⟩
      case rest =>
      clear x0 x1 x2 x3 D K Lx Lm
      obtain ⟨b, rfl, D, K, Lx, Lm, hb⟩ := hcut
      go_upto_if 38 with fail
      go_cut [] (fun wx => ∃ v' u' n' : Int, DD o len cap q 2 w wx ∧ K2 w (P4 0 0 0 0) (P4 0 0 0 0) wx ∧ Lies wx bx (P4 p v u n) ∧ Lies wx bm (P4 p v' u' n'))
      case first =>
        cases b
        · go_wp2_with fail
          go_meet
          case rel => exact ⟨_, _, _, D, K, Lx, Lm⟩
        · obtain ⟨hk, hn1'⟩ := hb rfl
          obtain ⟨x0, x1, x2, x3⟩ := lies_four Lx
          obtain ⟨y0, y1, y2, y3⟩ := lies_four Lm
          obtain ⟨yf0, yf1, yf2, yf3⟩ := lies_ice Lm
          have HK := Lib.hid hk
          clear hb hk
          go_upto_region 8 with (go_at_call 120; refine (l03Negate_any _ _ _ _ _ HK.out).mono ?_; rintro e wn ⟨rfl, hb⟩; replace D := dd_below D hb; replace K := k2_next K hb; replace Lx := lies_next Lx hb; replace Lm := lies_next Lm hb; obtain ⟨y0, y1, y2, y3⟩ := lies_four Lm; obtain ⟨yf0, yf1, yf2, yf3⟩ := lies_ice Lm)
          clear y0 y1 y2 y3 yf0 yf1 yf2 yf3 x0 x1 x2 x3
          have hnx : ¬ bm = bx := by omega
          have hb1 : ¬ bm = w.heap.size := by have := D.2.2; omega
          have hb2 : ¬ bm = w.heap.size + 1 := by have := D.2.2; omega
          replace Lm := lies_set4 (x0 := .int .i64 p) (x1 := .int .i64 v) (x2 := .int .i64 (negU p u n)) (x3 := .int .i64 n) Lm
          replace Lx := lies_other4 (x0 := .int .i64 p) (x1 := .int .i64 v) (x2 := .int .i64 (negU p u n)) (x3 := .int .i64 n) Lx hnx
          replace D := dd_set (dd_set (dd_set (dd_set D hlm (i := 0) (.int .i64 p)) hlm (i := 1) (.int .i64 v)) hlm (i := 2) (.int .i64 (negU p u n))) hlm (i := 3) (.int .i64 n)
          replace K : K2 w (P4 0 0 0 0) (P4 0 0 0 0) _ := ⟨D.2.1, lies_other4 (x0 := .int .i64 p) (x1 := .int .i64 v) (x2 := .int .i64 (negU p u n)) (x3 := .int .i64 n) K.2.1 hb1, lies_other4 (x0 := .int .i64 p) (x1 := .int .i64 v) (x2 := .int .i64 (negU p u n)) (x3 := .int .i64 n) K.2.2 hb2⟩
          generalize ((((wn.setCell ⟨bm, 0, none⟩ (.int .i64 p)).setCell ⟨bm, 1, none⟩ (.int .i64 v)).setCell ⟨bm, 2, none⟩ (.int .i64 (negU p u n))).setCell ⟨bm, 3, none⟩ (.int .i64 n)) = W6 at Lm Lx D K ⊢
          clear hb
          obtain ⟨x0, x1, x2, x3⟩ := lies_four Lx
          go_wp2_with fail
          refine (next_any _ _ _ _ _ _ (by omega) D.1).mono ?_
          rintro e w7 ⟨r7, rfl, r70, r71, hs7, hg7, hz7⟩
          replace K := k2_grown K hg7 D.2.2
          replace Lx := lies_grown Lx hg7 (by omega)
          replace Lm := lies_grown Lm hg7 (by omega)
          replace D := dd_next D hs7 hg7
          obtain ⟨hp2, hp97, hn0', _, hm0, hm1, hq0, hq1, hq2⟩ := pok_bd (neg_ok HK.out)
          have hr7 : 1 + r7 ≤ n := by omega
          have hpart := pw_part (p := p) (n := n) (e := 1 + r7) hp2 hm1 hr7
          have hw7 := IntWalk.i64_in (1 + r7) (by omega)
          have HP := l02Pow_any p (1 + r7)
          generalize pw p (1 + r7) = m at *
          replace HP := Lib.hid fun w => HP w hp2 hp97 (by omega) hpart.2
          obtain ⟨ht, hz2, hw3, hz⟩ := rem_facts hq0 hpart.1 hpart.2
          generalize negU p u n = g at *
          generalize g % m = h at *
          clear hs7 hg7 hz7 r71 hm0 hm1 hq1 hpart x0 x1 x2 x3
          obtain ⟨y0, y1, y2, y3⟩ := lies_four Lm
          obtain ⟨yf0, yf1, yf2, yf3⟩ := lies_ice Lm
          go_upto_region 9 with fail
          clear y0 y1 y2 y3 yf0 yf1 yf2 yf3
          replace Lm : Lies _ bm (P4 p v g (1 + r7)) := lies_set (v := .int .i64 (1 + r7)) Lm (show 3 < _ by simp)
          replace Lx := lies_other (i := 3) (v := .int .i64 (1 + r7)) Lx hnx
          replace D := dd_set D hlm (i := 3) (.int .i64 (1 + r7))
          replace K : K2 w (P4 0 0 0 0) (P4 0 0 0 0) _ := ⟨D.2.1, lies_other (i := 3) (v := .int .i64 (1 + r7)) K.2.1 hb1, lies_other (i := 3) (v := .int .i64 (1 + r7)) K.2.2 hb2⟩
          generalize w7.setCell ⟨bm, 3, none⟩ (.int .i64 (1 + r7)) = W8 at Lm Lx D K ⊢
          obtain ⟨y0, y1, y2, y3⟩ := lies_four Lm
          refine wp_region_still_tail 9 (by kernel_rfl) (by kernel_rfl) ?_
          simp only [List.take_succ_cons, List.take_zero, List.drop_succ_cons, List.drop_zero]
          repeat still_step
          still_call ((HP.out _).mono fun e w' h => ⟨h.1, h.2.symm⟩)
          repeat still_step
          refine wpStill_nil ?_
          change wpList _ _ _ _ _ W8.drew
          replace D := dd_drew D
          replace K := k2_drew K
          replace Lx : Lies W8.drew _ _ := Lx
          replace Lm : Lies W8.drew _ _ := Lm
          clear y0 y1 y2 y3
          generalize W8.drew = W9 at Lm Lx D K ⊢
          obtain ⟨y0, y1, y2, y3⟩ := lies_four Lm
          obtain ⟨yf0, yf1, yf2, yf3⟩ := lies_ice Lm
          go_wp2_with fail
          go_meet
          case rel => exact ⟨_, _, _, dd_set D hlm _, ⟨(dd_set D hlm _).2.1, lies_other K.2.1 hb1, lies_other K.2.2 hb2⟩, lies_other Lx hnx, (lies_set Lm (show 2 < _ by simp) : Lies _ bm (P4 p v h (1 + r7)))⟩
      case rest =>
      clear D K Lx Lm hb
      obtain ⟨v', u', n', D, K, Lx, Lm⟩ := hcut
      go_wp2_with fail
      refine (next_any _ _ _ _ _ _ (by omega) D.1).mono ?_
      rintro e w5 ⟨r5, rfl, r50, r51, hs5, hg5, hz5⟩
      replace K := k2_grown K hg5 D.2.2
      replace Lx := lies_grown Lx hg5 (by omega)
      replace Lm := lies_grown Lm hg5 (by omega)
      replace D := dd_next D hs5 hg5
      clear hs5 hg5 hz5 r51
      by_cases hr5 : r5 = 0
      · subst hr5
        go_wp2_with fail
        refine (pick_new [58, -58, 60] 2 3 o len cap q w5 D.1 (by simp) (by simp)).mono ?_
        rintro e w6 ⟨k, rfl, hk, hs6, hg6⟩
        replace K := k2_grown K hg6 D.2.2
        replace Lx := lies_grown Lx hg6 (by omega)
        replace Lm := lies_grown Lm hg6 (by omega)
        replace D := dd_next D hs6 hg6
        clear hs6 hg6 hk
        have hnx : ¬ bm = bx := by omega
        have hb1 : ¬ bm = w.heap.size := by have := D.2.2; omega
        have hb2 : ¬ bm = w.heap.size + 1 := by have := D.2.2; omega
        obtain ⟨y0, y1, y2, y3⟩ := lies_four Lm
        obtain ⟨yf0, yf1, yf2, yf3⟩ := lies_ice Lm
        go_upto_region 12 with fail
        clear y0 y1 y2 y3 yf0 yf1 yf2 yf3
        replace Lm : Lies _ bm (P4 p k u' n') := lies_set (v := .int .i64 k) Lm (show 1 < _ by simp)
        replace Lx := lies_other (i := 1) (v := .int .i64 k) Lx hnx
        replace D := dd_set D hlm (i := 1) (.int .i64 k)
        replace K : K2 w (P4 0 0 0 0) (P4 0 0 0 0) _ := ⟨D.2.1, lies_other (i := 1) (v := .int .i64 k) K.2.1 hb1, lies_other (i := 1) (v := .int .i64 k) K.2.2 hb2⟩
        generalize w6.setCell ⟨bm, 1, none⟩ (.int .i64 k) = W8 at Lm Lx D K ⊢
        have hn1' : ¬ w.heap.size = bx := by have := D.2.2; omega
        have hn2' : ¬ w.heap.size + 1 = bx := by have := D.2.2; omega
        have hn3' : ¬ w.heap.size = bm := by have := D.2.2; omega
        have hn4' : ¬ w.heap.size + 1 = bm := by have := D.2.2; omega
        refine wp_region_held_drew (S := fun w' => Lies w' bx (P4 p v u n) ∧ Lies w' bm (P4 p k u' n')) (by kernel_rfl) ⟨Lx, Lm⟩ (fun hHeld => ?_)
        replace K := k2_drew K
        clear D Lx Lm
        generalize World.drew _ = W9 at K hHeld ⊢
        obtain ⟨c0, c1, c2, c3⟩ := lies_four K.2.1
        obtain ⟨cf0, cf1, cf2, cf3⟩ := lies_ice K.2.1
        obtain ⟨d0, d1, d2, d3⟩ := lies_four K.2.2
        obtain ⟨df0, df1, df2, df3⟩ := lies_ice K.2.2
        refine take_at (i := 0) (d := 63) (v := .agg #[.int .i64 p, .int .i64 v, .int .i64 u, .int .i64 n]) rfl rfl (by kernel_rfl) (by kernel_rfl) (by kernel_rfl) (fun _ _ _ h => h) (Or.inl ⟨by rfl, ?_⟩) hHeld ?_
        · intro w' hS
          obtain ⟨k0, k1, k2, k3⟩ := lies_four hS.1
          go_simp
        try simp only [Act.put, List.setIfInBounds_toArray, List.set_cons_zero, List.set_cons_succ]
        refine take_at (i := 1) (d := 64) (v := .agg #[.int .i64 p, .int .i64 k, .int .i64 u', .int .i64 n']) rfl rfl (by kernel_rfl) (by kernel_rfl) (by kernel_rfl) (fun _ _ _ h => h) (Or.inl ⟨by rfl, ?_⟩) hHeld ?_
        · intro w' hS
          obtain ⟨k0, k1, k2, k3⟩ := lies_four hS.2
          go_simp
        try simp only [Act.put, List.setIfInBounds_toArray, List.set_cons_zero, List.set_cons_succ]
        refine wpAnyH_ready (rs := [2]) (by kernel_rfl) (by simp) ?_
        refine AllReadyH.cons rfl (fun K' hK => ?_) AllReadyH.nil
        go_simp
        refine hK.out _ _ (⟨lies_other4 hHeld.1 hn1', lies_other4 hHeld.2 hn3'⟩) (fun hHeld => ?_)
        clear hK K'
        try simp only [Act.put, List.setIfInBounds_toArray, List.set_cons_zero, List.set_cons_succ]
        refine wpAnyH_ready (rs := [3]) (by kernel_rfl) (by simp) ?_
        refine AllReadyH.cons rfl (fun K' hK => ?_) AllReadyH.nil
        go_simp
        refine hK.out _ _ (⟨lies_other4 hHeld.1 hn2', lies_other4 hHeld.2 hn4'⟩) (fun hHeld => ?_)
        clear hK K'
        try simp only [Act.put, List.setIfInBounds_toArray, List.set_cons_zero, List.set_cons_succ]
        refine wpAnyH_done (by kernel_rfl) ?_ _
        go_wp2
        refine bodyPost_ret (v := .tuple #[.agg (P4 p v u n), .agg (P4 p k u' n')]) (by simp [results, Try.results72, go_sem, c0, c1, c2, c3, d0, d1, d2, d3]) rfl ?_
        exact ⟨_, _, _, _, _, _, _, _, rfl, below_set4 (below_set4 K.1 (by omega)) (by omega)⟩
      · have hr5' : (r5 == 0) = false := by simpa using hr5
        clear hr5
        go_wp2_with fail
        have hn1' : ¬ w.heap.size = bx := by have := D.2.2; omega
        have hn2' : ¬ w.heap.size + 1 = bx := by have := D.2.2; omega
        have hn3' : ¬ w.heap.size = bm := by have := D.2.2; omega
        have hn4' : ¬ w.heap.size + 1 = bm := by have := D.2.2; omega
        refine wp_region_held_drew (S := fun w' => Lies w' bx (P4 p v u n) ∧ Lies w' bm (P4 p v' u' n')) (by kernel_rfl) ⟨Lx, Lm⟩ (fun hHeld => ?_)
        replace K := k2_drew K
        clear D Lx Lm
        generalize World.drew _ = W9 at K hHeld ⊢
        obtain ⟨c0, c1, c2, c3⟩ := lies_four K.2.1
        obtain ⟨cf0, cf1, cf2, cf3⟩ := lies_ice K.2.1
        obtain ⟨d0, d1, d2, d3⟩ := lies_four K.2.2
        obtain ⟨df0, df1, df2, df3⟩ := lies_ice K.2.2
        refine take_at (i := 0) (d := 63) (v := .agg #[.int .i64 p, .int .i64 v, .int .i64 u, .int .i64 n]) rfl rfl (by kernel_rfl) (by kernel_rfl) (by kernel_rfl) (fun _ _ _ h => h) (Or.inl ⟨by rfl, ?_⟩) hHeld ?_
        · intro w' hS
          obtain ⟨k0, k1, k2, k3⟩ := lies_four hS.1
          go_simp
        try simp only [Act.put, List.setIfInBounds_toArray, List.set_cons_zero, List.set_cons_succ]
        refine take_at (i := 1) (d := 64) (v := .agg #[.int .i64 p, .int .i64 v', .int .i64 u', .int .i64 n']) rfl rfl (by kernel_rfl) (by kernel_rfl) (by kernel_rfl) (fun _ _ _ h => h) (Or.inl ⟨by rfl, ?_⟩) hHeld ?_
        · intro w' hS
          obtain ⟨k0, k1, k2, k3⟩ := lies_four hS.2
          go_simp
        try simp only [Act.put, List.setIfInBounds_toArray, List.set_cons_zero, List.set_cons_succ]
        refine wpAnyH_ready (rs := [2]) (by kernel_rfl) (by simp) ?_
        refine AllReadyH.cons rfl (fun K' hK => ?_) AllReadyH.nil
        go_simp
        refine hK.out _ _ (⟨lies_other4 hHeld.1 hn1', lies_other4 hHeld.2 hn3'⟩) (fun hHeld => ?_)
        clear hK K'
        try simp only [Act.put, List.setIfInBounds_toArray, List.set_cons_zero, List.set_cons_succ]
        refine wpAnyH_ready (rs := [3]) (by kernel_rfl) (by simp) ?_
        refine AllReadyH.cons rfl (fun K' hK => ?_) AllReadyH.nil
        go_simp
        refine hK.out _ _ (⟨lies_other4 hHeld.1 hn2', lies_other4 hHeld.2 hn4'⟩) (fun hHeld => ?_)
        clear hK K'
        try simp only [Act.put, List.setIfInBounds_toArray, List.set_cons_zero, List.set_cons_succ]
        refine wpAnyH_done (by kernel_rfl) ?_ _
        go_wp2
        refine bodyPost_ret (v := .tuple #[.agg (P4 p v u n), .agg (P4 p v' u' n')]) (by simp [results, Try.results72, go_sem, c0, c1, c2, c3, d0, d1, d2, d3]) rfl ?_
        exact ⟨_, _, _, _, _, _, _, _, rfl, below_set4 (below_set4 K.1 (by omega)) (by omega)⟩
end Go.Proofs.Ytgckamlibbjgcaa
