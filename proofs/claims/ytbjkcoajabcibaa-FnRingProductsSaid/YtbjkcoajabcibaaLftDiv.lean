/- Contracts of the walk: division by a monic polynomial over any ring, in impl. -/
import Derived.Test.YtbjkcoajabcibaaLfA
import Derived.Test.YtbjkcoajabcibaaLfB
namespace Go.Proofs.Ytbjkcoajabcibaa
open Go.RowKit Go.Shelf
attribute [local go_sem] Oper.semAt_some
set_option linter.unusedVariables false
set_option linter.unusedSimpArgs false
set_option maxRecDepth 20000
theorem prod_lt2 {M x y : Int} (m9 : M ≤ 1000000000) (hx : 0 ≤ x ∧ x < M) (hy : 0 ≤ y ∧ y < M) : 0 ≤ x * y ∧ x * y ≤ 1000000000000000000 := prod_nine hx.1 (by omega) hy.1 (by omega)
/-- the quotient has no zero at its end -/
theorem qX_full1 {M : Int} {f g : List Int} {q : Nat} (m2 : 2 ≤ M) (hf : ModP M f) (hi : invP M g = 1) (hq : q + g.length = f.length + 1) (h0 : 1 ≤ q) (hl : 1 ≤ g.length) : qX M (invP M g) f g q q = quoP M f g := by
  rw [← qX_end hq]
  refine (trimL_self ?_).symm
  unfold lastB
  rw [qX_length]
  have hne : f ≠ [] := fun e => by rw [e] at hq; simp at hq; omega
  have e1 : (qX M (invP M g) f g q q).getD (q - 1) 0 = f.getD (f.length - 1) 0 * invP M g % M := by
    unfold qX
    rw [tabL_getD (by omega), if_pos (by omega), show f.length - g.length - (q - 1) = 0 by omega]; rfl
  rw [e1, hi, Int.mul_one]
  have h3 : ¬ f.getD (f.length - 1) 0 % M = 0 := fun h => modP_last hf hne (Int.dvd_of_emod_eq_zero h)
  generalize f.getD (f.length - 1) 0 % M = x at h3 ⊢
  simp [h3]
set_option maxHeartbeats 8000000 in
theorem divideR_any {rp rn M : Int} (hR : ringM rp rn = M) (m2 : 2 ≤ M) (m9 : M ≤ 1000000000) {o o' : Option Addr} {n n' c c' : Nat} {f g : List Int} {w : World} (h : Seen w o n c f) (h' : SeenD w o' n' c' g) (hf : ModP M f) (hg : ModP M g) (hmon : mncB g = true) (hn20 : n ≤ 20) (hn9' : n' ≤ 20) :
    Calls Try.prog 88 #[.agg #[.int .i64 rp, .int .i64 rn], .slice o n c, .slice o' n' c'] w (Own2Post (quoP M f g) (remP M f g) w) := by
  have h0 : g.length ≠ 0 := by have := (mncB_of hmon).1; omega
  have HS := Lib.hid h
  obtain ⟨hl', hn', hno', hnc', a', dd, h1', h2'⟩ := h'
  obtain ⟨rfl, hag'⟩ := h1' (by omega)
  have b1 := h2' (n' - 1) (by omega)
  have hn1 : (n' : Int) - 1 = ((n' - 1 : Nat) : Int) := by omega
  have HC' := Lib.hid h2'
  have HL' := Lib.hid hl'
  have HL := Lib.hid h.1
  obtain ⟨i0, hi, hz0, hz1, hz2⟩ := info_parts Try.infoInt64
  have HI := Lib.hid hi
  have HZ0 := Lib.hid hz0
  have HZ1 := Lib.hid hz1
  have HZ2 := Lib.hid hz2
  have HF := Lib.hid hf
  have HG := Lib.hid hg
  have hpz : (M == 0) = false := by simp; omega
  have hle1 : 1 ≤ n' := by omega
  have hlast := hg.rng (n' - 1)
  have HV := Lib.hid (show invP M g = bezX (g.getD (n' - 1) 0) M % M by unfold invP; rw [← hl'])
  have HIP := Lib.hid (And.intro (invP_one m2 m9 hmon) (invP_mon m2 m9 hmon))
  generalize hla : g.getD (n' - 1) 0 = la at *
  obtain ⟨iv, hiv⟩ : ∃ x, invP M g = x := ⟨_, rfl⟩
  have hivb := invP_lt (p := M) (g := g) m2
  rw [hiv] at HV hivb
  have HIV := Lib.hid hiv
  obtain ⟨la0, la1⟩ := hlast
  obtain ⟨iv0, iv1⟩ := hivb
  have HM := Lib.hid fun w => modulusR_any hR w
  obtain ⟨d, hd⟩ : ∃ d, n' - 1 = d := ⟨_, rfl⟩
  rw [hd] at hn1 b1
  have HD := Lib.hid hd
  have HAG := Lib.hid hag'
  have HB1 := Lib.hid b1
  clear h h1' h2' hl' hn' hno' hnc' hi hz0 hz1 hz2 hf hg h0 hla hiv hd b1 hag'
  refine (callsIn_wide (n := 4)).1 ?_
  refine callsIn_of_wp_marks Try.func88 rfl trivial ?_ rfl
  simp only [Try.ntmps88, List.size_toArray, List.length_cons, List.length_nil, Nat.reduceAdd, Nat.reduceSub, Array.replicate_succ, Array.replicate_zero, List.push_toArray, List.append_toArray, List.nil_append, List.cons_append]
  refine wpIn_wide.2 ?_
  -- the boxes of the receiver and of g
  have hbw := (below_a8 w (.cells #[.int .i64 rp, .int .i64 rn] 25)).alloc (by simp) (.cells #[.slice (some ⟨a', dd, none⟩) n' c'] 26)
  have hbx := Boxed.new (w.alloc (.cells #[.int .i64 rp, .int .i64 rn] 25)) 26 (.slice (some ⟨a', dd, none⟩) n' c')
  rw [World.size_alloc] at hbx
  have HBW := Lib.hid hbw
  have HBX := Lib.hid hbx
  clear hbw hbx
  go_wp2_with fail
  refine (HM.out _).mono ?_
  rintro e w1 ⟨rfl, hb⟩
  have hb0 := HBW.out.trans (hb.mono HBW.out.size)
  have hx1 := boxed_below8 HBX.out hb
  obtain ⟨bg, hbg⟩ : ∃ bg, w.heap.size + 1 = bg := ⟨_, rfl⟩
  rw [hbg] at hx1
  have hgm : bg < w1.heap.size := hx1.lt
  obtain ⟨bm, hbm⟩ : ∃ bm, w1.heap.size = bm := ⟨_, rfl⟩
  have hbs := hb0.size
  have hb2 := (hb0.alloc hbs (.cells #[.int .i64 M] 2)).alloc (by simp; omega) (.cells #[.int .i64 (d : Int)] 3)
  have hx2 := (hx1.alloc (.cells #[.int .i64 M] 2)).alloc (.cells #[.int .i64 (d : Int)] 3)
  have hm2 := (Boxed.new w1 2 (.int .i64 M)).alloc (.cells #[.int .i64 (d : Int)] 3)
  have hd2 := Boxed.new (w1.alloc (.cells #[.int .i64 M] 2)) 3 (.int .i64 (d : Int))
  rw [World.size_alloc, hbm] at hd2
  rw [hbm] at hm2 hgm hbs
  have cg := (hx1.alloc (.cells #[.int .i64 M] 2)).cell
  have HB0 := Lib.hid hb2
  have HX := Lib.hid (boxes_cons (boxes_cons (boxes_cons (L := []) (by intro x hx; cases hx) hd2) hm2) hx2)
  have HSZ := Lib.hid (And.intro hgm hbs)
  rw [hbg]
  clear hb hb0 hx1 hb2 hx2 hm2 hd2 HM hbg hgm hbs
  go_upto_region 3 with fail
  generalize (w1.alloc (.cells #[.int .i64 M] 2)).alloc (.cells #[.int .i64 (d : Int)] 3) = W3 at *
  have hx3 := HX.out
  have e1 := (hx3 (bg, 26, .slice (some ⟨a', dd, none⟩) n' c') (by simp)).cell
  have e2 := (hx3 (bm, 2, .int .i64 M) (by simp)).cell
  have e3 := (hx3 (bm + 1, 3, .int .i64 (d : Int)) (by simp)).cell
  have e4 : W3.cell? ⟨a', dd + d, none⟩ = some (.int .i64 la) := by rw [HB0.out.cell (p := ⟨a', dd + d, none⟩) HAG.out]; exact HB1.out
  have l1 := (hx3 (bg, 26, .slice (some ⟨a', dd, none⟩) n' c') (by simp)).lt
  have l2 := (hx3 (bm, 2, .int .i64 M) (by simp)).lt
  have l3 := (hx3 (bm + 1, 3, .int .i64 (d : Int)) (by simp)).lt
  have l4 : a' < W3.heap.size := by have := HB0.out.size; have := HAG.out; omega
  have hdn : (d : Int) < (n' : Int) := by omega
  clear cg hx3
  apply wp_meet (W := (W3.alloc (.cells #[.int .i64 (bezX la M % M)] 2)).drew)
  case hr =>
    go_region_held3 (fun W' => Below W3.heap.size W3 W' ∧ W'.cell? ⟨bg, 0, none⟩ = some (.slice (some ⟨a', dd, none⟩) n' c') ∧ W'.cell? ⟨bm, 0, none⟩ = some (.int .i64 M) ∧ W'.cell? ⟨bm + 1, 0, none⟩ = some (.int .i64 (d : Int)) ∧ W'.cell? ⟨a', dd + d, none⟩ = some (.int .i64 la))
      (first | exact ⟨below_drewN (Below.refl _ _) 1, e1, e2, e3, e4⟩ | exact keep8_alloc ‹_› _ | exact keep8_alloc (W' := W3.drew) ⟨below_drewN (Below.refl _ _) 1, e1, e2, e3, e4⟩ (.cells #[.int .i64 0] 2) | exact keep8_alloc (W' := W3.drew) ⟨below_drewN (Below.refl _ _) 1, e1, e2, e3, e4⟩ (.cells #[.int .i64 (bezX la M % M)] 2) | assumption) (first | (go_at_call 134; refine (inverse8_any la M _ la0 la1 m2 (by omega)).mono ?_; rintro e wn ⟨rfl, rfl⟩))
    all_goals exact ⟨rfl, rfl, rfl⟩
  rw [← HV.out]
  -- the world behind the inverse
  have hx4 := boxes_below (boxes_drew HX.out) (below_a8 W3.drew (.cells #[.int .i64 iv] 2))
  have hi4 := Boxed.new W3.drew 2 (.int .i64 iv)
  have hb4 := (below_drewN HB0.out 1).alloc (by have := HB0.out.size; exact this) (.cells #[.int .i64 iv] 2)
  have HX4 := Lib.hid (boxes_cons hx4 hi4)
  have HB4 := Lib.hid hb4
  have HS4 := Lib.hid (seen_below HS.out hb4)
  clear hx4 hi4 hb4 e1 e2 e3 e4 l1 l2 l3 l4 HX HB0 hbm
  obtain ⟨bi, hbi⟩ : ∃ bi, W3.heap.size = bi := ⟨_, rfl⟩
  replace HX4 : Hid (Boxes (W3.alloc (.cells #[.int .i64 iv] 2)).drew [(bi, 2, .int .i64 iv), (bg, 26, .slice (some ⟨a', dd, none⟩) n' c'), (bm, 2, .int .i64 M), (bm + 1, 3, .int .i64 (d : Int))]) := by rw [← hbi]; exact HX4
  replace HB4 : Hid (Below w.heap.size w (W3.alloc (.cells #[.int .i64 iv] 2)).drew) := HB4
  replace HS4 : Hid (Seen (W3.alloc (.cells #[.int .i64 iv] 2)).drew o n c f) := HS4
  rw [hbi]
  generalize (W3.alloc (.cells #[.int .i64 iv] 2)).drew = W4 at *
  clear hbi
  have HBL4 := Lib.hid (fun y hy => (HX4.out y hy).lt)
  go_wp2_with fail
  refine (clone8_any HS4.out).mono ?_
  rintro e W5 ⟨v5, rfl, hr5, hb5⟩
  obtain ⟨o5, c5, rfl⟩ := row_slice hr5
  have hown5 := fun k hk => (World.ownsRow.lt hr5 k hk).2
  have hx5 := boxes_below HX4.out hb5
  have hb50 := HB4.out.trans (hb5.mono HB4.out.size)
  have hx6 := boxes_cons (boxes_below hx5 (below_a8 W5 (.cells #[.slice o5 f.length c5] 26))) (Boxed.new W5 26 (.slice o5 f.length c5))
  have hr6 := row_below hr5 (below_a8 W5 (.cells #[.slice o5 f.length c5] 26)) (Nat.le_refl _)
  have hb6 := hb50.alloc hb50.size (.cells #[.slice o5 f.length c5] 26)
  have hs6 : (W5.alloc (.cells #[.slice o5 f.length c5] 26)).heap.size = W5.heap.size + 1 := by simp
  obtain ⟨br, hbr⟩ : ∃ br, W5.heap.size = br := ⟨_, rfl⟩
  rw [hbr] at hx6 hs6 hown5
  have HOWN := Lib.hid hown5
  have cd := (hx6 (bm + 1, 3, .int .i64 (d : Int)) (by simp)).cell
  have HX6 := Lib.hid hx6
  have HR6 := Lib.hid hr6
  have HB6 := Lib.hid hb6
  have hlow : w.heap.size ≤ W4.heap.size ∧ W4.heap.size ≤ br := ⟨HB4.out.size, by rw [← hbr]; exact hb5.size⟩
  have HLOW := Lib.hid hlow
  obtain ⟨q, hq⟩ : ∃ q, n - d = q := ⟨_, rfl⟩
  have hmax : max ((n : Int) - (d : Int)) 0 = (q : Int) := by omega
  have hq20 : q ≤ 20 := by omega
  have HQD := Lib.hid hq
  clear hown5 hr5 hb5 hx5 hb50 hx6 hr6 hb6 hlow HX4 HB4 HS4 hq
  go_upto_region 5 with fail
  generalize W5.alloc (.cells #[.slice o5 f.length c5] 26) = W6 at *
  clear hbr
  obtain ⟨Q, hQ⟩ : ∃ Q, W6.heap.size = Q := ⟨_, rfl⟩
  have HSQ := Lib.hid (show Q = br + 1 by rw [← hQ]; exact hs6)
  have HWQ := Lib.hid hQ
  have hbl6 := fun y hy => (HX6.out y hy).lt
  rw [hQ] at hbl6
  have HBL6 := Lib.hid hbl6
  clear hbl6
  clear hs6
  go_wp2_with (at_make; refine wpList_make_full _ rfl (.tmp 33) (.tmp 33) 26 rfl W6.heap.size 2 i0 (.int .i64 0) 1 Try.underlying26 HI.out HZ0.out HZ1.out .i64 .i64 _ _ q rfl rfl rfl rfl (by rw [HZ2.out]; omega) (by unfold maxLen; omega) (Nat.le_refl _) ?_; intro W7 hown hgrow)
  rw [hQ] at hown
  have hb7 := HB6.out.grown hgrow HB6.out.size (fun k h => by cases h)
  have hx7 := boxes_grown HX6.out hgrow
  have hr7 := row_none8 HR6.out hgrow
  have hq7 : IntRow Q W7 (.slice (some ⟨Q, 0, none⟩) q q) (tabL q fun _ => 0) := by rw [← hQ] at hown ⊢; exact int_made hown
  have hQl : Q < W7.heap.size := (World.ownsRow.lt hq7 Q rfl).2
  obtain ⟨bq, hbq⟩ : ∃ bq, W7.heap.size = bq := ⟨_, rfl⟩
  have hx8 := boxes_cons (boxes_below hx7 (below_a8 W7 (.cells #[.slice (some ⟨Q, 0, none⟩) q q] 26))) (Boxed.new W7 26 (.slice (some ⟨Q, 0, none⟩) q q))
  have hs8 : (W7.alloc (.cells #[.slice (some ⟨Q, 0, none⟩) q q] 26)).heap.size = bq + 1 := by rw [← hbq]; simp
  have hbk := Boxed.new (W7.alloc (.cells #[.slice (some ⟨Q, 0, none⟩) q q] 26)) 26 (.slice (some ⟨Q, 0, none⟩) q q)
  have hx9 := boxes_below hx8 (below_a8 (W7.alloc (.cells #[.slice (some ⟨Q, 0, none⟩) q q] 26)) (.cells #[.slice (some ⟨Q, 0, none⟩) q q] 26))
  have hb9 := (hb7.alloc hb7.size (.cells #[.slice (some ⟨Q, 0, none⟩) q q] 26)).alloc (by rw [hs8, ← hbq]; have := hb7.size; omega) (.cells #[.slice (some ⟨Q, 0, none⟩) q q] 26)
  have hr9 := row_below (row_below hr7 (below_a8 W7 (.cells #[.slice (some ⟨Q, 0, none⟩) q q] 26)) (Nat.le_refl _)) (below_a8 (W7.alloc (.cells #[.slice (some ⟨Q, 0, none⟩) q q] 26)) (.cells #[.slice (some ⟨Q, 0, none⟩) q q] 26)) (Nat.le_refl _)
  have hq9 := row_below (row_below hq7 (below_a8 W7 (.cells #[.slice (some ⟨Q, 0, none⟩) q q] 26)) (Nat.le_refl _)) (below_a8 (W7.alloc (.cells #[.slice (some ⟨Q, 0, none⟩) q q] 26)) (.cells #[.slice (some ⟨Q, 0, none⟩) q q] 26)) (Nat.le_refl _)
  rw [hs8] at hbk
  rw [hbq] at hx9 hQl
  have HX9 := Lib.hid hx9
  have HK9 := Lib.hid hbk
  have HB9 := Lib.hid hb9
  have HR9 := Lib.hid hr9
  have HQ9 := Lib.hid hq9
  have HQL := Lib.hid hQl
  clear hown hgrow hb7 hx7 hr7 hq7 hx8 hbk hx9 hb9 hr9 hq9 hQl HX6 HR6 HB6 cd hmax
  refine (backward8_made _ _ _ _).mono ?_
  rintro e W8 ⟨rfl, rfl⟩
  rw [hs8]
  go_wp2_with fail
  generalize (W7.alloc (.cells #[.slice (some ⟨Q, 0, none⟩) q q] 26)).alloc (.cells #[.slice (some ⟨Q, 0, none⟩) q q] 26) = W9 at *
  clear hs8 hbq
  refine (wpIn_wide (n := 4)).1 ?_
  have hsz := HB9.out.size
  have hkl : bq + 1 < W9.heap.size := HK9.out.lt
  have hbQ : br < Q ∧ Q < bq := ⟨by have := HSQ.out; omega, HQL.out⟩
  refine wpIn_rangeBb (F := Fence.wide) (n := 4) (P := Try.prog) (w := W9) rfl (by omega) (gf := 159) (ba := #[]) (lb := #[.pointer (some ⟨bq + 1, 0, none⟩)]) rfl trivial (enters_of Try.func159 (by kernel_rfl) rfl)
    (backIdx_by 3 (by omega) Q (bq + 1) q q (by omega)) (fun _ => rfl)
    (DvI w [(bq, 26, .slice (some ⟨Q, 0, none⟩) q q), (br, 26, .slice o5 f.length c5), (bi, 2, .int .i64 iv), (bg, 26, .slice (some ⟨a', dd, none⟩) n' c'), (bm, 2, .int .i64 M), (bm + 1, 3, .int .i64 (d : Int))] W4.heap.size Q q M iv f g o5 c5) (fun _ _ => False)
    (fun x => { tmps := #[.agg #[.int .i64 rp, .int .i64 rn], .slice o n c, .slice (some ⟨a', dd, none⟩) n' c', .pointer (some ⟨w.heap.size, 0, none⟩), undef, .pointer (some ⟨bg, 0, none⟩), .slice none 0 0, .slice none 0 0, .pointer (some ⟨bm, 0, none⟩), .pointer (some ⟨bm + 1, 0, none⟩), .pointer (some ⟨bi, 0, none⟩), .pointer (some ⟨br, 0, none⟩), .pointer (some ⟨bq, 0, none⟩), .int .i64 x.1, undef, undef, .agg #[.int .i64 rp, .int .i64 rn], .int .i64 M, .slice (some ⟨a', dd, none⟩) n' c', .int .i64 n', .int .i64 d, .slice (some ⟨a', dd, none⟩) n' c', .int .i64 d, .pointer (some ⟨a', dd + d, none⟩), .int .i64 la, .int .i64 M, .int .i64 iv, .slice o n c, .slice o5 f.length c5, .slice o n c, .int .i64 n, .int .i64 d, .int .i64 ((n : Int) - (d : Int)), .int .i64 q, .slice (some ⟨Q, 0, none⟩) q q, .slice (some ⟨Q, 0, none⟩) q q, .func (.func 159) #[] #[.pointer (some ⟨bq + 1, 0, none⟩)], .int .i64 x.1, .int .i64 x.2, undef, undef, undef, undef, undef, undef, undef, undef, undef, undef, undef, undef, undef, undef, undef, undef, undef, undef, undef, undef, undef, undef, undef, undef, undef, undef, undef, undef, undef, undef, undef, undef, undef, undef, undef, undef, undef, undef, undef, undef, undef, undef, undef, undef], defers := [] })
    ?ip ?xp ?fp ?fq ?ft ?is ?xs ?sk ?h0 ?s0 ?assign ?body ?done ?stop
  case ip => intro pre W k o o' h hk ho hc; exact dvI_put h (by omega) ho hc
  case xp => intro _ _ _ _ _ h; exact h.elim
  case fp => intro A W k o o' hf hk ho hc; exact frN_put hf ho hc (by omega)
  case fq => intro W k o o' hk ho hc; exact frN_put (frN_refl W) ho hc (by omega)
  case ft => intro A B C h k; exact frN_trans h k
  case is => intro pre A B h hs; exact dvI_below h hs
  case xs => intro _ _ _ h; exact h.elim
  case sk => intro A B k o hs hk ho hc; exact (hs.block k (Array.getElem?_eq_some_iff.1 ho).1).trans ho
  case h0 =>
    intro oo oo'
    have hbb : Below W9.heap.size W9 ((W9.alloc oo).alloc oo') := (below_a8 W9 oo).alloc (by simp) oo'
    have hr0 : f = tabL f.length (mdS M iv g (fun j => f.getD j 0) f.length ([] : List (Nat × Int)).length) := by
      refine ext_getD (by rw [tabL_length]) fun i hi => ?_
      rw [tabL_getD hi]; rfl
    refine ⟨boxes_below HX9.out hbb, by rw [← hr0]; exact row_below HR9.out hbb (Nat.le_refl _), ?_, HB9.out.trans (hbb.mono HB9.out.size)⟩
    have hq0 : qX M iv f g q ([] : List (Nat × Int)).length = tabL q fun _ => 0 := by
      by_cases h0 : q = 0
      · rw [h0]; rfl
      · exact qX_zero (by have := HQD.out; have := HD.out; have := HL.out; have := HL'.out; omega)
    rw [hq0]; exact row_below HQ9.out hbb (Nat.le_refl _)
  case s0 =>
    intro oo oo'
    have hbb : Below W9.heap.size W9 ((W9.alloc oo).alloc oo') := (below_a8 W9 oo).alloc (by simp) oo'
    exact ⟨(HK9.out.alloc oo).alloc oo', fun k hk => ⟨_, int_at (row_below HQ9.out hbb (Nat.le_refl _)) (tabL_length _ _) hk⟩⟩
  case assign =>
    intro lp x W K hK
    gi_wp2
    exact hK
  case body =>
    rintro lp pre x W hsp ⟨hx, hr, hqr, hb⟩
    obtain ⟨hk1, hxk⟩ := bkI_last hsp
    obtain ⟨i, hi⟩ : ∃ i, x.1 = i := ⟨_, rfl⟩
    obtain ⟨y9, hy9⟩ : ∃ y, x.2 = y := ⟨_, rfl⟩
    obtain ⟨k, hk⟩ : ∃ k, pre.length = k := ⟨_, rfl⟩
    have hlen : (pre ++ [x]).length = k + 1 := by rw [List.length_append, hk]; rfl
    have HLEN := Lib.hid hlen
    rw [hi, hy9]
    rw [hk] at hr hqr hk1 hxk
    rw [hi] at hxk
    clear hsp hlen hi hy9 hk
    have hqn : q + g.length = f.length + 1 := by have := HQD.out; have := HD.out; have := HL.out; have := HL'.out; omega
    have HQN := Lib.hid hqn
    have hik : i + g.length + k = f.length := by omega
    have HIK := Lib.hid hik
    have hf1 : 1 ≤ f.length := by have := HL'.out; omega
    have hr' : W.ownsRow W4.heap.size 2 1 (.slice o5 f.length c5) f.length ((tabL f.length (mdS M iv g (fun j => f.getD j 0) f.length k)).map (Value.int .i64)) := by
      have h9 := hr
      unfold IntRow at h9
      rw [tabL_length] at h9; exact h9
    rcases row_shape hr' with ⟨hz, _⟩ | ⟨_, G, cap, he, hbg5, hgw⟩
    · omega
    injection he with he1 he2 he3
    subst he1 he3
    have hGr : G < br := HOWN.out G rfl
    have hGQ : G ≠ Q := by omega
    have HR := Lib.hid hr
    have HQ := Lib.hid hqr
    have HX := Lib.hid hx
    have HB := Lib.hid hb
    have HLW := Lib.hid (And.intro hbg5 HLOW.out.1)
    obtain ⟨m, hm⟩ : ∃ m, i + d = m := ⟨_, rfl⟩
    have him : (i : Int) + (d : Int) = (m : Int) := by omega
    have hmn : m < f.length := by have := HD.out; have := HL'.out; omega
    have hmn' : (m : Int) < (f.length : Int) := by omega
    have hiq : i < q := by omega
    have hiq' : (i : Int) < (q : Int) := by omega
    have wm : IntKind.i64.wrap (m : Int) = (m : Int) := IntWalk.i64_in _ (by have := HL.out; omega)
    have c1 := int_at hr (tabL_length _ _) hmn
    rw [tabL_getD hmn] at c1
    have hce : mdC M iv g (fun j => f.getD j 0) f.length k = mdS M iv g (fun j => f.getD j 0) f.length k m * iv % M := by unfold mdC; rw [show f.length - 1 - k = m by have := HD.out; have := HL'.out; omega]
    have HSUB := Lib.hid (subX_end (p := M) (inv := iv) (g := g) (r0 := fun j => f.getD j 0) hik)
    have HQS := Lib.hid (qX_step (p := M) (inv := iv) (f := f) (g := g) hqn hik)
    obtain ⟨y0, y1⟩ := mdS_lt (inv := iv) (g := g) (N := f.length) HF.out k m
    have hpb := prod_lt2 m9 ⟨y0, y1⟩ ⟨iv0, iv1⟩
    have HBD := Lib.hid (fun j => mdS_lt (inv := iv) (g := g) (N := f.length) HF.out k j)
    obtain ⟨z, hz⟩ : ∃ z, mdS M iv g (fun j => f.getD j 0) f.length k m = z := ⟨_, rfl⟩
    rw [hz] at c1 hce hpb y0 y1
    obtain ⟨xv, hxv⟩ : ∃ x, mdC M iv g (fun j => f.getD j 0) f.length k = x := ⟨_, rfl⟩
    rw [hxv] at hce HSUB HQS
    have wz : IntKind.i64.wrap (z * iv) = z * iv := IntWalk.i64_in _ (by omega)
    have hz0 := hpb.1
    have tz : (z * iv).tmod M = xv := by rw [tmod_nonneg hpb.1, hce]
    have tz2 : z * iv % M = xv := hce.symm
    have hp0 : ¬ M = 0 := by omega
    have hx0 : 0 ≤ xv ∧ xv < M := by rw [hce]; exact ⟨Int.emod_nonneg _ (by omega), Int.emod_lt_of_pos _ (by omega)⟩
    have wx : IntKind.i64.wrap xv = xv := IntWalk.i64_in _ (by omega)
    have HX0 := Lib.hid hx0
    have HQV := Lib.hid (show (qX M iv f g q (k + 1)).getD i 0 = xv by
      rw [← HQS.out]
      have hlq : (qX M iv f g q k).length = q := qX_length _ _ _ _ _ _
      simp [List.getD, show i < (qX M iv f g q k).length by omega])
    have f2 := int_frozen hqr (qX_length M iv f g q k) i
    have c2 := int_at hqr (qX_length M iv f g q k) hiq
    obtain ⟨y2, hy2⟩ : ∃ y2, (qX M iv f g q k).getD i 0 = y2 := ⟨_, rfl⟩
    rw [hy2] at c2
    have xq := (hx (bq, 26, .slice (some ⟨Q, 0, none⟩) q q) (by simp)).cell
    have xr := (hx (br, 26, .slice (some ⟨G, 0, none⟩) f.length c5) (by simp)).cell
    have xi := (hx (bi, 2, .int .i64 iv) (by simp)).cell
    have xg := (hx (bg, 26, .slice (some ⟨a', dd, none⟩) n' c') (by simp)).cell
    have xm := (hx (bm, 2, .int .i64 M) (by simp)).cell
    have xd := (hx (bm + 1, 3, .int .i64 (d : Int)) (by simp)).cell
    clear hqr hx hb hr hr' hce hz hxv hpb hy2 hm hgw hx0 he2
    gi_wp2
    refine wpIn_region_still_tail 13 (by kernel_rfl) (by kernel_rfl) (by kernel_rfl) ?_
    simp only [List.take_succ_cons, List.take_zero, List.drop_succ_cons, List.drop_zero]
    iterate 13 still_step
    refine wpStill_nil ?_
    change wpListIn _ _ _ _ _ _ _ W.drew
    have HRd := Lib.hid (World.ownsRow.drew HR.out)
    have HQd := Lib.hid (World.ownsRow.drew HQ.out)
    have HBd := Lib.hid (below_drewN HB.out 1)
    have HXd := Lib.hid (boxes_drew HX.out)
    have HKd := Lib.hid (KeepsOthers.drew W)
    have HFd := Lib.hid (frN_drew (g := Q) (b := bq + 1) (n := q) W)
    replace f2 : W.drew.frozen? ⟨Q, i, none⟩ = false := f2
    replace c2 : W.drew.cell? ⟨Q, i, none⟩ = _ := c2
    replace HRd : Hid (IntRow W4.heap.size W.drew (.slice (some ⟨G, 0, none⟩) f.length c5) (tabL f.length (mdS M iv g (fun j => f.getD j 0) f.length k))) := HRd
    replace HQd : Hid (IntRow Q W.drew (.slice (some ⟨Q, 0, none⟩) q q) (qX M iv f g q k)) := HQd
    replace HBd : Hid (Below w.heap.size w W.drew) := HBd
    clear HR HQ HB HX c1 xq xr xi xg xm xd wz tz tz2
    generalize W.drew = Wd at *
    have HQ1 := Lib.hid (int_stored HQd.out (qX_length M iv f g q k) i xv)
    rw [HQS.out] at HQ1
    have hQw : w.heap.size ≤ Q := by have := HLW.out; omega
    have HR1 := Lib.hid (row_other8 HRd.out (a := ⟨Q, i, none⟩) (own_ne8 hGQ) (.int .i64 xv))
    have HB1 := Lib.hid (HBd.out.setCell (p := ⟨Q, i, none⟩) hQw (.int .i64 xv))
    have HX1 := Lib.hid (boxes_set HXd.out (a := ⟨Q, i, none⟩) (by
      intro y hy
      have h6 := HBL6.out
      show y.1 ≠ Q
      rcases List.mem_cons.1 hy with rfl | hy
      · show bq ≠ Q; omega
      · have := h6 y hy; omega) (.int .i64 xv))
    have HK1 := Lib.hid (HKd.out.trans (KeepsOthers.setCell Wd ⟨Q, i, none⟩ (.int .i64 xv)))
    have HF1 := Lib.hid (frN_trans HFd.out (frN_set (g := Q) (b := bq + 1) (n := q) (A := Wd) (a := ⟨Q, i, none⟩) xv (by show bq + 1 ≠ Q; omega)))
    have xg1 := (HX1.out (bg, 26, .slice (some ⟨a', dd, none⟩) n' c') (by simp)).cell
    clear HRd HQd HBd HXd HKd HFd HQS
    gi_wp2
    generalize Wd.setCell ⟨Q, i, none⟩ (.int .i64 xv) = Ws at *
    clear c2 f2 xg1
    gi_loopw [54] (fun s wr => ∃ j : Nat, j ≤ n' ∧ s = .int .i64 j ∧ KeepsOthers W wr ∧ FrN Q (bq + 1) q W wr ∧ Boxes wr [(bq, 26, .slice (some ⟨Q, 0, none⟩) q q), (br, 26, .slice (some ⟨G, 0, none⟩) f.length c5), (bi, 2, .int .i64 iv), (bg, 26, .slice (some ⟨a', dd, none⟩) n' c'), (bm, 2, .int .i64 M), (bm + 1, 3, .int .i64 (d : Int))] ∧ IntRow W4.heap.size wr (.slice (some ⟨G, 0, none⟩) f.length c5) (subX M (mdS M iv g (fun j => f.getD j 0) f.length k) g xv f.length i j) ∧ IntRow Q wr (.slice (some ⟨Q, 0, none⟩) q q) (qX M iv f g q (k + 1)) ∧ Below w.heap.size w wr) (fun s _ => n' - (intOf s).toNat)
    case atStart => exact ⟨0, Nat.zero_le _, rfl, HK1.out, HF1.out, HX1.out, by rw [subX_zero]; exact HR1.out, HQ1.out, HB1.out⟩
    case round =>
      obtain ⟨j, hj, rfl, hko, hfr, hx, hr, hqr, hb⟩ := hrel
      clear HK1 HF1 HX1 HR1 HQ1 HB1
      by_cases hltj : j < n'
      · obtain ⟨t, ht⟩ : ∃ t, i + j = t := ⟨_, rfl⟩
        have hijt : (i : Int) + (j : Int) = (t : Int) := by omega
        have htn : t < f.length := by have := HIK.out; have := HL'.out; omega
        have wt : IntKind.i64.wrap (t : Int) = (t : Int) := IntWalk.i64_in _ (by have := HL.out; omega)
        have b2 : wr.cell? ⟨a', dd + j, none⟩ = some (.int .i64 (g.getD j 0)) := by rw [hb.cell (p := ⟨a', dd + j, none⟩) HAG.out]; exact HC'.out j hltj
        have c4 := int_at hr (subX_length _ _ _ _ _ _ _) htn
        rw [subX_at ht htn] at c4
        have f4 := int_frozen hr (subX_length _ _ _ _ _ _ _) t
        have c5q := int_at hqr (qX_length M iv f g q (k + 1)) hiq
        rw [HQV.out] at c5q
        have HE := Lib.hid (subX_step (p := M) (r := mdS M iv g (fun j => f.getD j 0) f.length k) (g := g) (c := xv) ht htn)
        have hbd := HBD.out t
        have hmd := prod_lt2 m9 HX0.out (HG.out.rng j)
        obtain ⟨z, hzz⟩ : ∃ x, g.getD j 0 = x := ⟨_, rfl⟩
        obtain ⟨r, hrr⟩ : ∃ x, mdS M iv g (fun j => f.getD j 0) f.length k t = x := ⟨_, rfl⟩
        rw [hzz] at b2 HE hmd
        rw [hrr] at c4 HE hbd
        have w1 : IntKind.i64.wrap (xv * z) = xv * z := IntWalk.i64_in _ (by omega)
        have w2 : IntKind.i64.wrap (r - xv * z) = r - xv * z := IntWalk.i64_in _ (by omega)
        have htn' : (t : Int) < (f.length : Int) := by omega
        have hltj' : (j : Int) < (n' : Int) := by omega
        have xq := (hx (bq, 26, .slice (some ⟨Q, 0, none⟩) q q) (by simp)).cell
        have xr := (hx (br, 26, .slice (some ⟨G, 0, none⟩) f.length c5) (by simp)).cell
        have xm := (hx (bm, 2, .int .i64 M) (by simp)).cell
        have HR := Lib.hid hr
        have HQ := Lib.hid hqr
        have HX := Lib.hid hx
        have HB := Lib.hid hb
        have HK := Lib.hid hko
        have HF9 := Lib.hid hfr
        clear hzz hrr ht hbd hmd hr hqr hx hb hko hfr
        gi_wp2
        refine wpIn_region_still_tail 20 (by kernel_rfl) (by kernel_rfl) (by kernel_rfl) ?_
        simp only [List.take_succ_cons, List.take_zero, List.drop_succ_cons, List.drop_zero]
        iterate 18 still_step
        still_call ((remainder8_any (r - xv * z) M _ m2 (by omega)).mono fun e w h => ⟨h.1, h.2.symm⟩)
        repeat still_step
        refine wpStill_nil ?_
        change wpListIn _ _ _ _ _ _ _ wr.drew
        have HRd := Lib.hid (World.ownsRow.drew HR.out)
        have HQd := Lib.hid (World.ownsRow.drew HQ.out)
        have HBd := Lib.hid (below_drewN HB.out 1)
        have HXd := Lib.hid (boxes_drew HX.out)
        have HKd := Lib.hid (HK.out.trans (KeepsOthers.drew wr))
        have HFd := Lib.hid (frN_trans HF9.out (frN_drew wr))
        replace f4 : wr.drew.frozen? ⟨G, t, none⟩ = false := f4
        replace c4 : wr.drew.cell? ⟨G, t, none⟩ = _ := c4
        replace HRd : Hid (IntRow W4.heap.size wr.drew (.slice (some ⟨G, 0, none⟩) f.length c5) (subX M (mdS M iv g (fun j => f.getD j 0) f.length k) g xv f.length i j)) := HRd
        replace HQd : Hid (IntRow Q wr.drew (.slice (some ⟨Q, 0, none⟩) q q) (qX M iv f g q (k + 1))) := HQd
        replace HBd : Hid (Below w.heap.size w wr.drew) := HBd
        clear HR HQ HB HX HK HF9 b2 c5q xq xr xm
        generalize wr.drew = Wd2 at *
        have HR3 := Lib.hid (int_stored HRd.out (subX_length _ _ _ _ _ _ _) t ((r - xv * z) % M))
        rw [HE.out] at HR3
        have HQ3 := Lib.hid (row_other8 HQd.out (a := ⟨G, t, none⟩) (own_ne8 (Ne.symm hGQ)) (.int .i64 ((r - xv * z) % M)))
        have hGw : w.heap.size ≤ G := by have := HLW.out; omega
        have HB3 := Lib.hid (HBd.out.setCell (p := ⟨G, t, none⟩) hGw (.int .i64 ((r - xv * z) % M)))
        have HX3 := Lib.hid (boxes_set HXd.out (a := ⟨G, t, none⟩) (by
          intro y hy
          have h4 := HBL4.out
          have h5 := HLW.out.1
          show y.1 ≠ G
          rcases List.mem_cons.1 hy with rfl | hy
          · show bq ≠ G; omega
          rcases List.mem_cons.1 hy with rfl | hy
          · show br ≠ G; omega
          · have := h4 y hy; omega) (.int .i64 ((r - xv * z) % M)))
        have HK3 := Lib.hid (HKd.out.trans (KeepsOthers.setCell Wd2 ⟨G, t, none⟩ (.int .i64 ((r - xv * z) % M))))
        have HF3 := Lib.hid (frN_trans HFd.out (frN_set (g := Q) (b := bq + 1) (n := q) (A := Wd2) (a := ⟨G, t, none⟩) ((r - xv * z) % M) (by show bq + 1 ≠ G; omega)))
        clear HRd HQd HBd HXd HKd HFd
        gi_wp2
        go_roundw
        case rel => exact ⟨j + 1, by omega, by go_num, HK3.out, HF3.out, HX3.out, HR3.out, HQ3.out, HB3.out⟩
        case measure => simp only [intOf]; omega
      · have hjn : j = g.length := by have := HL'.out; omega
        have HR2 := Lib.hid (show IntRow W4.heap.size wr (.slice (some ⟨G, 0, none⟩) f.length c5) (tabL f.length (mdS M iv g (fun j => f.getD j 0) f.length (k + 1))) by rw [← HSUB.out, ← hjn]; exact hr)
        have HQ := Lib.hid hqr
        have HX := Lib.hid hx
        have HB := Lib.hid hb
        have HK := Lib.hid hko
        have HF9 := Lib.hid hfr
        clear hr hqr hx hb hko hfr hjn
        gi_wp2
        exact ⟨HK.out, HF9.out, HX.out, by rw [HLEN.out]; exact HR2.out, by rw [HLEN.out]; exact HQ.out, HB.out⟩
  case done =>
    rintro D xs W hD hxs ⟨hx, hr, hqr, hb⟩ hK
    have hxl : xs.length = q := by have h := congrArg List.length hxs; rwa [List.length_map, bkI_length] at h
    rw [hxl] at hr hqr
    have xq := (hx (bq, 26, .slice (some ⟨Q, 0, none⟩) q q) (by simp)).cell
    have xr := (hx (br, 26, .slice o5 f.length c5) (by simp)).cell
    have hql : qX M iv f g q q = quoP M f g := by
      rw [← HIV.out]
      by_cases h0 : q = 0
      · rw [few_quo (by have := HQD.out; have := HD.out; have := HL.out; have := HL'.out; omega), h0]; rfl
      · exact qX_full1 m2 HF.out HIP.out.1 (by have := HQD.out; have := HD.out; have := HL.out; have := HL'.out; omega) (by omega) (by have := HL'.out; omega)
    have hrl : trimL (tabL f.length (mdS M iv g (fun j => f.getD j 0) f.length q)) = remP M f g := by
      rw [← HIV.out]; exact rX_end rfl (by have := HQD.out; have := HD.out; have := HL.out; have := HL'.out; omega)
    have lr : (tabL f.length (mdS M iv g (fun j => f.getD j 0) f.length q)).length = f.length := tabL_length _ _
    have hu := trim_row hr
    rw [hrl] at hu
    rw [hql] at hqr
    have SR := Lib.hid (show Seen W o5 f.length c5 (tabL f.length (mdS M iv g (fun j => f.getD j 0) f.length q)) by
      have h := row_seen (o := o5) (n := (tabL f.length (mdS M iv g (fun j => f.getD j 0) f.length q)).length) (c := c5) (w := W) (by rw [lr]; exact hr) (by rw [lr]; have := HL.out; omega)
      rw [lr] at h; exact h)
    generalize tabL f.length (mdS M iv g (fun j => f.getD j 0) f.length q) = rl at *
    have HU := Lib.hid (intRow_lower hu HLOW.out.1)
    have HV9 := Lib.hid (intRow_lower (b := w.heap.size) hqr (by have := HLOW.out; omega))
    have HB := Lib.hid hb
    have hKD : W.drew.heap[D]? = some (.deferred (some [])) := hK
    have HKD := Lib.hid hKD
    have hDw : w.heap.size ≤ D := by omega
    have HAP := Lib.hid (show (Value.slice (some ⟨Q, 0, none⟩) q q).ownBlock = none ∨ (Value.slice (some ⟨Q, 0, none⟩) q q).ownBlock ≠ (Value.slice o5 (trimN rl rl.length) c5).ownBlock from .inr (fun e => by
      have h1 : (Value.slice o5 f.length c5).ownBlock = some Q := by
        cases o5 with
        | none => exact absurd e.symm (by intro h; cases h)
        | some a => exact e.symm
      have := HOWN.out Q h1
      omega))
    clear hx hr hqr hb hK hql hrl lr hu hKD hxs hxl
    obtain ⟨tn, htn⟩ : ∃ tn, trimN rl rl.length = tn := ⟨_, rfl⟩
    rw [htn] at HU HAP
    have HTN := Lib.hid htn
    clear htn
    go_wp2_with fail
    refine wp_region_still_lit (by kernel_rfl) (by kernel_rfl) ?_
    iterate 2 still_step
    still_call ((trimmed_any (seen_below SR.out (below_drewN (Below.refl _ _) 1))).mono fun e w h => ⟨h.1, h.2.symm⟩)
    repeat still_step
    refine wpStill_nil ?_
    go_wp2_with fail
    rw [HTN.out]
    refine ⟨by simp, .inl ⟨_, _, rfl, run_takeDeferred HKD.out, ?_⟩⟩
    refine ⟨.tuple #[.slice (some ⟨Q, 0, none⟩) q q, .slice o5 tn c5], by simp [results, Try.results88, go_sem], ?_⟩
    exact ⟨_, _, rfl, row_put8 (w := W.drew) HV9.out HKD.out rfl, row_put8 (w := W.drew) HU.out HKD.out rfl, below_put8 (below_drewN HB.out 1) hDw, HAP.out⟩
  case stop => intro _ _ _ _ _ h; exact h.elim
end Go.Proofs.Ytbjkcoajabcibaa
