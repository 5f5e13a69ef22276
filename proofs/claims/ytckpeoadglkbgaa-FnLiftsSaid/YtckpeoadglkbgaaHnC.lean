/- Walks of exact laws of chapter 11: CountRootsInRing; true at every input. (joined of several texts) -/
import Derived.Test.YtckpeoadglkbgaaHnA
import Derived.Deep.MidRow
import Derived.Laws.IdiomCopy
import Derived.Shelf.Spec.SlicesInsert
import Derived.Lib.SliceRun
import Derived.Test.YtckpeoadglkbgaaHenMath
import Derived.Deep.RegionHeld3
import Derived.Test.YtckpeoadglkbgaaRingMath
import Derived.Test.YtckpeoadglkbgaaOrdMath2
import Derived.Test.YtckpeoadglkbgaaBezPos
import Derived.Deep.WholeRow
import Derived.Test.YtckpeoadglkbgaaFactMath
import Derived.Laws.EntriesVeiled
namespace Go.Proofs.Ytckpeoadglkbgaa
open Go.RowKit Go.Shelf
attribute [local go_sem] Oper.semAt_some
set_option linter.unusedVariables false
set_option linter.unusedSimpArgs false
set_option maxRecDepth 20000
theorem modulusR_any {p q M : Int} (hR : ringM p q = M) (w : World) :
    Calls Try.prog 71 #[.agg #[.int .i64 p, .int .i64 q]] w fun e w' => e = .returned (.int .i64 M) ∧ Below w.heap.size w w' := by
  rw [← hR]; exact implModulus_any p q w
set_option maxHeartbeats 4000000 in
theorem valueAtR_any {p q M : Int} (hR : ringM p q = M) (m2 : 2 ≤ M) (m9 : M ≤ 1000000000) {x : Int} (x0 : 0 ≤ x) (x1 : x < M) {o : Option Addr} {n c : Nat} {f : List Int} {w : World} (h : Seen w o n c f) (hf : Cof9 f) :
    Calls Try.prog 67 #[.agg #[.int .i64 p, .int .i64 q], .slice o n c, .int .i64 x] w fun e w' => e = .returned (.int .i64 (vM M f x)) ∧ Below w.heap.size w w' := by
  obtain ⟨hl, hn, hno, hnc, g, h1, h2⟩ := h
  subst hl
  obtain ⟨bf, hbl, hbo, hbc⟩ : ∃ b, b < w.heap.size + 1 ∧ (0 < f.length → o = some ⟨b, 0, none⟩) ∧ ∀ W, Below w.heap.size w W → ∀ k, k < f.length → W.cell? ⟨b, k, none⟩ = some (.int .i64 (f.getD k 0)) := by
    by_cases h0 : 0 < f.length
    · exact ⟨g, by have := (h1 h0).2; omega, fun _ => (h1 h0).1, fun W hb k hk => by rw [hb.cell (p := ⟨g, k, none⟩) (h1 h0).2]; exact h2 k hk⟩
    · exact ⟨w.heap.size, by omega, fun h => absurd h h0, fun _ _ k hk => absurd hk (by omega)⟩
  have HC := Lib.hid hbc
  have HO := Lib.hid hbo
  have HVM := Lib.hid (show vM M f x = evM M f x f.length from rfl)
  have HF := Lib.hid hf
  have HAG := Lib.hid hbl
  have HM := Lib.hid fun w => modulusR_any hR w
  have HN9 := Lib.hid hn
  clear hno hnc h1 h2 hf hn hbl hbo hbc g
  refine (callsIn_wide (n := 4)).1 ?_
  refine callsIn_of_wp_marks Try.func67 rfl trivial ?_ rfl
  simp only [Try.ntmps67, List.size_toArray, List.length_cons, List.length_nil, Nat.reduceAdd, Nat.reduceSub, Array.replicate_succ, Array.replicate_zero, List.push_toArray, List.append_toArray, List.nil_append, List.cons_append]
  refine wpIn_wide.2 ?_
  have hbw := (below_a8 w (.cells #[.int .i64 p, .int .i64 q] 25)).alloc (by simp) (.cells #[.int .i64 x] 2)
  have hbx := Boxed.new (w.alloc (.cells #[.int .i64 p, .int .i64 q] 25)) 2 (.int .i64 x)
  rw [World.size_alloc] at hbx
  have HBW := Lib.hid hbw
  have HBX := Lib.hid hbx
  clear hbw hbx
  go_wp2_with fail
  refine (HM.out _).mono ?_
  rintro e w1 ⟨rfl, hb⟩
  have hb0 := HBW.out.trans (hb.mono HBW.out.size)
  have hx1 := boxed_below8 HBX.out hb
  obtain ⟨bx, hbx⟩ : ∃ bx, w.heap.size + 1 = bx := ⟨_, rfl⟩
  rw [hbx] at hx1
  have hxm : bx < w1.heap.size := hx1.lt
  obtain ⟨bm, hbm⟩ : ∃ bm, w1.heap.size = bm := ⟨_, rfl⟩
  have hbs := hb0.size
  have h2' := boxes_cons (boxes_cons (L := []) (by intro x hx; cases hx) (Boxed.new w1 2 (.int .i64 M))) (hx1.alloc (.cells #[.int .i64 M] 2))
  have h3 := boxes_below h2' (below_a8 (w1.alloc (.cells #[.int .i64 M] 2)) (.cells #[.int .i64 0] 2))
  have hv3 := Boxed.new (w1.alloc (.cells #[.int .i64 M] 2)) 2 (.int .i64 0)
  have h4 := boxes_below h3 (below_a8 ((w1.alloc (.cells #[.int .i64 M] 2)).alloc (.cells #[.int .i64 0] 2)) (.cells #[.slice o f.length c] 26))
  have hv4 := hv3.alloc (.cells #[.slice o f.length c] 26)
  have hk4 := Boxed.new ((w1.alloc (.cells #[.int .i64 M] 2)).alloc (.cells #[.int .i64 0] 2)) 26 (.slice o f.length c)
  have hb4 := ((hb0.alloc hbs (.cells #[.int .i64 M] 2)).alloc (by simp; omega) (.cells #[.int .i64 0] 2)).alloc (by simp; omega) (.cells #[.slice o f.length c] 26)
  rw [World.size_alloc, World.size_alloc, hbm] at hk4
  rw [World.size_alloc, hbm] at hv4
  rw [hbm] at h4 hxm hbs
  have HX := Lib.hid h4
  have HVB := Lib.hid hv4
  have HKB := Lib.hid hk4
  have HB := Lib.hid hb4
  have HSZ := Lib.hid (And.intro hxm hbs)
  rw [hbx]
  clear hb hb0 hx1 h2' h3 hv3 h4 hv4 hk4 hb4 HM hbx hxm hbs
  go_wp2_with fail
  refine (backward8_made _ _ _ _).mono ?_
  rintro e W8 ⟨rfl, rfl⟩
  go_wp2_with fail
  generalize ((w1.alloc (.cells #[.int .i64 M] 2)).alloc (.cells #[.int .i64 0] 2)).alloc (.cells #[.slice o f.length c] 26) = W9 at *
  refine (wpIn_wide (n := 4)).1 ?_
  have hsz := HB.out.size
  have hkl : bm + 1 + 1 < W9.heap.size := HKB.out.lt
  have hgl := HAG.out
  have hzz := HSZ.out
  refine wpIn_rangeBb (F := Fence.wide) (n := 4) (P := Try.prog) (w := W9) rfl (by omega) (gf := 109) (ba := #[]) (lb := #[.pointer (some ⟨bm + 1 + 1, 0, none⟩)]) rfl trivial (enters_of Try.func109 (by kernel_rfl) rfl)
    (backwardO_by 3 (by omega) o bf (bm + 1 + 1) c f HO.out HN9.out) (fun _ => rfl)
    (VaI w [(bx, 2, .int .i64 x), (bm, 2, .int .i64 M)] (bm + 1) M f x) (fun _ _ => False)
    (fun y => { tmps := #[.agg #[.int .i64 p, .int .i64 q], .slice o f.length c, .int .i64 x, .pointer (some ⟨w.heap.size, 0, none⟩), undef, .pointer (some ⟨bx, 0, none⟩), .int .i64 0, .pointer (some ⟨bm, 0, none⟩), .pointer (some ⟨bm + 1, 0, none⟩), undef, .int .i64 y.2, .agg #[.int .i64 p, .int .i64 q], .int .i64 M, .slice o f.length c, .func (.func 109) #[] #[.pointer (some ⟨bm + 1 + 1, 0, none⟩)], .int .i64 y.1, .int .i64 y.2, undef, undef, undef, undef, undef, undef, undef, undef], defers := [] })
    ?ip ?xp ?fp ?fq ?ft ?is ?xs ?sk ?h0 ?s0 ?assign ?body ?done ?stop
  case ip => intro pre W k o o' h hk ho hc; exact vaI_put h (by omega) ho hc
  case xp => intro _ _ _ _ _ h; exact h.elim
  case fp => intro A W k o o' hf hk ho hc; exact fr8_put hf (by omega) (by omega)
  case fq => intro W k o o' hk ho hc; exact fr8_put (fun _ _ => rfl) (by omega) (by omega)
  case ft => intro A B C h k; exact fr8_trans h k
  case is => intro pre A B h hs; exact vaI_below h hs
  case xs => intro _ _ _ h; exact h.elim
  case sk => intro A B k o hs hk ho hc; exact (hs.block k (Array.getElem?_eq_some_iff.1 ho).1).trans ho
  case h0 =>
    intro oo oo'
    have hbb : Below W9.heap.size W9 ((W9.alloc oo).alloc oo') := (below_a8 W9 oo).alloc (by simp) oo'
    exact ⟨boxes_below HX.out hbb, boxed_below8 HVB.out hbb, HB.out.trans (hbb.mono hsz)⟩
  case s0 =>
    intro oo oo'
    have hbb : Below W9.heap.size W9 ((W9.alloc oo).alloc oo') := (below_a8 W9 oo).alloc (by simp) oo'
    refine ⟨boxed_below8 HKB.out hbb, fun k hk => ?_⟩
    exact HC.out _ (HB.out.trans (hbb.mono hsz)) k hk
  case assign =>
    intro lp y W K hK
    gi_wp2
    exact hK
  case body =>
    rintro lp pre y W hsp ⟨hx, hv, hb⟩
    obtain ⟨hk, hy⟩ := bk8_last hsp
    have hh : evM M f x (pre ++ [y]).length = (evM M f x pre.length * x + y.2) % M := by rw [List.length_append, List.length_singleton, evM, hy]
    obtain ⟨a0, a1⟩ := evM_rng (p := M) (by omega) f x pre.length
    have hyr := HF.out (f.length - 1 - pre.length)
    rw [← hy] at hyr
    have HH := Lib.hid hh
    have xx := (hx (bx, 2, .int .i64 x) (by simp)).cell
    have xm := (hx (bm, 2, .int .i64 M) (by simp)).cell
    have q2 := hv.cell
    have q2f := hv.frozen
    have hpb := prod_nine a0 (show evM M f x pre.length ≤ 1000000000 by omega) x0 (show x ≤ 1000000000 by omega)
    obtain ⟨z, hz⟩ : ∃ z, y.2 = z := ⟨_, rfl⟩
    obtain ⟨h, hhe⟩ : ∃ h, evM M f x pre.length = h := ⟨_, rfl⟩
    rw [hz] at hyr ⊢
    rw [hhe] at q2 hpb a0 a1
    have HE := Lib.hid (show evM M f x (pre ++ [y]).length = (h * x + z) % M by rw [hh, hhe, hz])
    have hw1 : IntKind.i64.wrap (h * x) = h * x := IntWalk.i64_in _ (by omega)
    have hw2 : IntKind.i64.wrap (h * x + z) = h * x + z := IntWalk.i64_in _ (by omega)
    have hv2 := hv.set (.int .i64 ((h * x + z) % M))
    have hF : Fr8 bf (bm + 1 + 1) W (W.setCell ⟨bm + 1, 0, none⟩ (.int .i64 ((h * x + z) % M))) := fun j hj => Below.heap_setCell _ _ _ _ (by show j ≠ bm + 1; rcases hj with rfl | rfl <;> omega)
    have hb2 := hb.setCell (p := ⟨bm + 1, 0, none⟩) (show w.heap.size ≤ bm + 1 by omega) (.int .i64 ((h * x + z) % M))
    have hx2 := boxes_set hx (a := ⟨bm + 1, 0, none⟩) (by
      intro u hu
      show u.1 ≠ bm + 1
      rcases List.mem_cons.1 hu with rfl | hu
      · show bx ≠ bm + 1; omega
      rcases List.mem_cons.1 hu with rfl | hu
      · show bm ≠ bm + 1; omega
      · cases hu) (.int .i64 ((h * x + z) % M))
    have HRES := Lib.hid (And.intro hv2 (And.intro hF (And.intro hb2 hx2)))
    clear hsp hh hy hz hhe hx hv hb hv2 hF hb2 hx2 hpb HH
    gi_wp2_with (refine ⟨trivial, ?_⟩; gi_at_call 88; refine (CallsIn.inRound lp (callsIn_wide.2 (remainder8_any _ M _ m2 m9))).mono ?_; rintro e wn ⟨rfl, rfl⟩)
    obtain ⟨hv2, hF, hb2, hx2⟩ := HRES.out
    exact ⟨KeepsOthers.setCell _ _ _, hF, hx2, by rw [HE.out]; exact hv2, hb2⟩
  case done =>
    rintro D xs W hD rfl ⟨hx, hv, hb⟩ hK
    rw [bk8_length] at hv
    have q2 := hv.cell
    have HB9 := Lib.hid hb
    have HKD := Lib.hid hK
    have hDw : w.heap.size ≤ D := by omega
    obtain ⟨E, hE⟩ : ∃ E, evM M f x f.length = E := ⟨_, rfl⟩
    have HEE := Lib.hid hE
    rw [hE] at q2
    clear hx hv hb hK hE
    go_wp2_with fail
    refine ⟨by simp, .inl ⟨_, _, rfl, run_takeDeferred HKD.out, ?_⟩⟩
    refine ⟨.int .i64 E, by simp [results, Try.results67, go_sem], ?_⟩
    exact ⟨ret_int (HVM.out.trans HEE.out).symm, below_put8 HB9.out hDw⟩
  case stop => intro _ _ _ _ _ h; exact h.elim
set_option maxHeartbeats 2000000 in
theorem reducedR_any {p q M : Int} (hR : ringM p q = M) (m2 : 2 ≤ M) (m9 : M ≤ 1000000000) {o : Option Addr} {n c : Nat} {l : List Int} {w : World} (h : Seen w o n c l) (hn9 : n ≤ 1000) :
    Calls Try.prog 98 #[.agg #[.int .i64 p, .int .i64 q], .slice o n c] w (OwnPost (redL M l) w) := by
  obtain ⟨hl, hn, hno, hnc, g, h1, h2⟩ := h
  obtain ⟨i0, hi, hz0, hz1, hz2⟩ := info_parts Try.infoInt64
  have HI := Lib.hid hi
  have HZ0 := Lib.hid hz0
  have HZ1 := Lib.hid hz1
  have HZ2 := Lib.hid hz2
  have HO := Lib.hid h1
  have HL := Lib.hid hl
  have HC := Lib.hid h2
  have HM := Lib.hid fun w => modulusR_any hR w
  clear hi hz0 hz1 hz2 h1 h2 hl hno hnc
  go_enter Try.func98, Try.ntmps98
  go_wp2_with fail
  refine (HM.out _).mono ?_
  rintro e w1 ⟨rfl, hb⟩
  have hb1 := box8 hb
  have HB1 := Lib.hid hb1
  have hbs := hb1.size
  clear hb HM hb1
  go_upto_region 2 with fail
  go_wp2_with (at_make; refine wpList_make_full _ rfl (.tmp 12) (.tmp 12) 26 rfl w1.heap.size 2 i0 (.int .i64 0) 1 Try.underlying26 HI.out HZ0.out HZ1.out .i64 .i64 _ _ n rfl rfl rfl rfl (by rw [HZ2.out]; omega) (by unfold maxLen; omega) (Nat.le_refl _) ?_; intro w2 hown hgrow)
  have HB2 := Lib.hid (HB1.out.grown hgrow hbs (fun k h => by cases h))
  have HR2 := Lib.hid (show IntRow w1.heap.size w2 (.slice (some ⟨w1.heap.size, 0, none⟩) n n) (tabL n fun i => if i < 0 then l.getD i 0 % M else 0) from int_made hown)
  generalize w1.heap.size = Q at *
  clear hown hgrow HB1
  go_wp2_with fail
  go_loopw [16] (fun s wr => ∃ k : Nat, k ≤ n ∧ s = .int .i64 k ∧ IntRow Q wr (.slice (some ⟨Q, 0, none⟩) n n) (tabL n fun i => if i < k then l.getD i 0 % M else 0) ∧ Below w.heap.size w wr) (fun s _ => n - (intOf s).toNat)
  case atStart => exact ⟨0, Nat.zero_le _, rfl, HR2.out, HB2.out⟩
  case round =>
    obtain ⟨k, hk, rfl, hr, hb⟩ := hrel
    have HR := Lib.hid hr
    have HB := Lib.hid hb
    clear hr hb HR2 HB2
    by_cases hlt : k < n
    · obtain ⟨hog, hgl⟩ := HO.out (by omega)
      subst hog
      have a2 : wr.cell? ⟨g, k, none⟩ = some (.int .i64 (l.getD k 0)) := by rw [HB.out.cell (p := ⟨g, k, none⟩) hgl]; exact HC.out k hlt
      have hrl : (tabL n fun i => if i < k then l.getD i 0 % M else 0).length = n := tabL_length _ _
      have c2 := int_at HR.out hrl hlt
      have f2 := int_frozen HR.out hrl k
      have HE := Lib.hid (red_step (p := M) (l := l) hlt)
      have HR3 := Lib.hid (int_stored HR.out hrl k (l.getD k 0 % M))
      have HB3 := Lib.hid (HB.out.setCell (p := ⟨Q, k, none⟩) hbs (.int .i64 (l.getD k 0 % M)))
      rw [HE.out] at HR3
      have hkn : (k : Int) < (n : Int) := by omega
      obtain ⟨y0, hy0⟩ : ∃ y, (tabL n fun i => if i < k then l.getD i 0 % M else 0).getD k 0 = y := ⟨_, rfl⟩
      rw [hy0] at c2
      clear hgl HE HR HB hy0 hrl
      generalize l.getD k 0 = z at *
      go_wp2_with fail
      refine (remainder8_any z M wr m2 m9).mono ?_
      rintro e w3 ⟨rfl, rfl⟩
      go_wp2_with fail
      exact ⟨⟨k + 1, by omega, by go_num, HR3.out, HB3.out⟩, by simp only [intOf]; omega⟩
    · have hkn : k = n := by omega
      have HT := Lib.hid (show trimL (tabL n fun i => if i < k then l.getD i 0 % M else 0) = redL M l by
        unfold redL
        rw [← HL.out]
        congr 1
        exact tabL_ext fun i hi => by rw [if_pos (by omega)])
      have hrl : (tabL n fun i => if i < k then l.getD i 0 % M else 0).length = n := tabL_length _ _
      have SR := Lib.hid (show Seen wr (some ⟨Q, 0, none⟩) n n (tabL n fun i => if i < k then l.getD i 0 % M else 0) by
        have h := row_seen (o := some ⟨Q, 0, none⟩) (n := (tabL n fun i => if i < k then l.getD i 0 % M else 0).length) (c := n) (by rw [hrl]; exact HR.out) (by rw [hrl]; omega)
        rw [hrl] at h; exact h)
      have HR3 := Lib.hid (intRow_lower (trim_row HR.out) hbs)
      rw [HT.out] at HR3
      generalize (tabL n fun i => if i < k then l.getD i 0 % M else 0) = rl at *
      clear HT hrl HR
      go_wp2_with fail
      refine (trimmed_any SR.out).mono ?_
      rintro e w3 ⟨rfl, rfl⟩
      go_wp2_with fail
      go_ret
      exact ⟨_, rfl, HR3.out, HB.out⟩
/-! products -/
set_option maxHeartbeats 2000000 in
theorem derivativeR_any {p q M : Int} (hR : ringM p q = M) (m2 : 2 ≤ M) (m9 : M ≤ 1000000000) {o : Option Addr} {n c : Nat} {f : List Int} {w : World} (h : Seen w o n c f) (hf : Cof9 f) (hn9 : n ≤ 9) :
    Calls Try.prog 87 #[.agg #[.int .i64 p, .int .i64 q], .slice o n c] w (OwnPost (redL M (derL f)) w) := by
  obtain ⟨hl, hn, hno, hnc, g, h1, h2⟩ := h
  obtain ⟨i0, hi, hz0, hz1, hz2⟩ := info_parts Try.infoInt64
  have HI := Lib.hid hi
  have HZ0 := Lib.hid hz0
  have HZ1 := Lib.hid hz1
  have HZ2 := Lib.hid hz2
  have HO := Lib.hid h1
  have HL := Lib.hid hl
  have HC := Lib.hid h2
  have HF := Lib.hid hf
  obtain ⟨d, hd⟩ : ∃ d, n - 1 = d := ⟨_, rfl⟩
  have hm0 : max ((n : Int) - 1) 0 = (d : Int) := by omega
  have HD := Lib.hid hd
  have hd8 : d ≤ 8 := by omega
  have HRED := Lib.hid fun (wx : World) (o' : Option Addr) (c' : Nat) (a : List Int) (hx : Seen wx o' d c' a) => reducedR_any hR m2 m9 hx (by omega)
  obtain ⟨W0, hW0⟩ : ∃ W0, w.alloc (.cells #[.int .i64 p, .int .i64 q] 25) = W0 := ⟨_, rfl⟩
  have HW0 := Lib.hid hW0
  have hb1 : Below w.heap.size w W0 := by rw [← hW0]; exact below_a8 _ _
  obtain ⟨Q, hQ⟩ : ∃ Q, W0.heap.size = Q := ⟨_, rfl⟩
  have hs0 : Q = w.heap.size + 1 := by rw [← hQ, ← hW0]; simp
  have HS0 := Lib.hid hs0
  have q0 : W0.cell? ⟨w.heap.size, 0, none⟩ = some (.int .i64 p) := by rw [← hW0]; exact World.cell?_alloc_new _ _ _ _ ▸ rfl
  have q1 : W0.cell? ⟨w.heap.size, 1, none⟩ = some (.int .i64 q) := by rw [← hW0]; exact World.cell?_alloc_new _ _ _ _ ▸ rfl
  have HQ := Lib.hid (And.intro q0 q1)
  have HB1 := Lib.hid hb1
  clear hi hz0 hz1 hz2 h1 h2 hl hno hnc hf hd hb1 q0 q1 hs0
  go_enter Try.func87, Try.ntmps87
  go_upto_region 1 with fail
  clear hW0
  go_wp2_with (at_make; refine wpList_make_full _ rfl (.tmp 10) (.tmp 10) 26 rfl W0.heap.size 2 i0 (.int .i64 0) 1 Try.underlying26 HI.out HZ0.out HZ1.out .i64 .i64 _ _ d rfl rfl rfl rfl (by rw [HZ2.out]; omega) (by unfold maxLen; omega) (Nat.le_refl _) ?_; intro w2 hown hgrow; rw [hQ] at hown)
  have HB2 := Lib.hid ((Below.refl W0.heap.size W0).grown hgrow (Nat.le_refl _) (fun k h => by cases h))
  have HR2 := Lib.hid (show IntRow Q w2 (.slice (some ⟨Q, 0, none⟩) d d) (tabL d fun i => if i < 0 then ((i : Int) + 1) * f.getD (i + 1) 0 else 0) by rw [← hQ] at hown ⊢; exact int_made hown)
  clear hown hgrow hm0
  rw [hQ] at HB2
  go_wp2_with fail
  go_loopw [14] (fun s wr => ∃ k : Nat, k ≤ d ∧ s = .int .i64 k ∧ IntRow Q wr (.slice (some ⟨Q, 0, none⟩) d d) (tabL d fun i => if i < k then ((i : Int) + 1) * f.getD (i + 1) 0 else 0) ∧ Below Q W0 wr) (fun s _ => d - (intOf s).toNat)
  case atStart => exact ⟨0, Nat.zero_le _, rfl, HR2.out, HB2.out⟩
  case round =>
    obtain ⟨k, hk, rfl, hr, hb⟩ := hrel
    have HR := Lib.hid hr
    have HB := Lib.hid hb
    clear hr hb HR2 HB2
    by_cases hlt : k < d
    · obtain ⟨m, hm⟩ : ∃ m, k + 1 = m := ⟨_, rfl⟩
      have hm1 : (k : Int) + 1 = (m : Int) := by omega
      have wm : IntKind.i64.wrap (m : Int) = (m : Int) := IntWalk.i64_in _ (by omega)
      have hmn : m < n := by have := HD.out; omega
      obtain ⟨hog, hgl⟩ := HO.out (by omega)
      subst hog
      have a2 : wr.cell? ⟨g, m, none⟩ = some (.int .i64 (f.getD m 0)) := by
        rw [HB.out.cell (p := ⟨g, m, none⟩) (by show g < Q; have := HS0.out; omega), HB1.out.cell (p := ⟨g, m, none⟩) hgl]; exact HC.out m hmn
      have hrl : (tabL d fun i => if i < k then ((i : Int) + 1) * f.getD (i + 1) 0 else 0).length = d := tabL_length _ _
      have c2 := int_at HR.out hrl hlt
      have f2 := int_frozen HR.out hrl k
      have HE := Lib.hid (der_step (f := f) hlt)
      rw [hm1, hm] at HE
      have hz := HF.out m
      obtain ⟨z, hzz⟩ : ∃ z, f.getD m 0 = z := ⟨_, rfl⟩
      rw [hzz] at a2 HE hz
      have m1 : -9000000000 ≤ (m : Int) * z ∧ (m : Int) * z ≤ 9000000000 := by
        have e1 := Int.mul_le_mul_of_nonneg_left hz.1 (show 0 ≤ (m : Int) by omega)
        have e2 := Int.mul_le_mul_of_nonneg_left hz.2 (show 0 ≤ (m : Int) by omega)
        omega
      have w1 : IntKind.i64.wrap ((m : Int) * z) = (m : Int) * z := IntWalk.i64_in _ (by omega)
      have HR3 := Lib.hid (int_stored HR.out hrl k ((m : Int) * z))
      rw [HE.out] at HR3
      have HB3 := Lib.hid (HB.out.setCell (p := ⟨Q, k, none⟩) (Nat.le_refl _) (.int .i64 ((m : Int) * z)))
      have hkd : (k : Int) < (d : Int) := by omega
      have hmn' : (m : Int) < (n : Int) := by omega
      obtain ⟨y0, hy0⟩ : ∃ y, (tabL d fun i => if i < k then ((i : Int) + 1) * f.getD (i + 1) 0 else 0).getD k 0 = y := ⟨_, rfl⟩
      rw [hy0] at c2
      have hmd : m ≤ d := by omega
      clear hgl HE HR HB hy0 hrl hzz hz m1 hm
      go_wp2_with fail
      exact ⟨⟨m, hmd, by first | rfl | go_num | (congr 1; omega), HR3.out, HB3.out⟩, by simp only [intOf]; omega⟩
    · have hkd : k = d := by omega
      have HT := Lib.hid (show (tabL d fun i => if i < k then ((i : Int) + 1) * f.getD (i + 1) 0 else 0) = derL f by
        unfold derL
        rw [← HL.out, show n - 1 = d from HD.out]
        exact tabL_ext fun i hi => by rw [if_pos (by omega)])
      have hrl : (derL f).length = d := by rw [derL, tabL_length, ← HL.out]; exact HD.out
      have HR3 := HR.out
      rw [HT.out] at HR3
      have SR := Lib.hid (show Seen wr (some ⟨Q, 0, none⟩) d d (derL f) by
        have h := row_seen (o := some ⟨Q, 0, none⟩) (n := (derL f).length) (c := d) (by rw [hrl]; exact HR3) (by rw [hrl]; omega)
        rw [hrl] at h; exact h)
      have c0 : wr.cell? ⟨w.heap.size, 0, none⟩ = some (.int .i64 p) := by rw [HB.out.cell (p := ⟨w.heap.size, 0, none⟩) (by show w.heap.size < Q; have := HS0.out; omega)]; exact HQ.out.1
      have c1 : wr.cell? ⟨w.heap.size, 1, none⟩ = some (.int .i64 q) := by rw [HB.out.cell (p := ⟨w.heap.size, 1, none⟩) (by show w.heap.size < Q; have := HS0.out; omega)]; exact HQ.out.2
      have HB4 := Lib.hid (HB1.out.trans (HB.out.mono (by have := HS0.out; omega)))
      clear HT hrl HR HR3 hkd
      generalize derL f = dl at *
      go_wp2_with fail
      refine (HRED.out _ _ _ _ SR.out).mono ?_
      rintro e w3 ⟨v, rfl, hr3, hb3⟩
      have HR5 := Lib.hid (intRow_lower hr3 HB4.out.size)
      have HB5 := Lib.hid (HB4.out.trans (hb3.mono HB4.out.size))
      clear hr3 hb3 HRED
      go_wp2_with fail
      go_ret
      exact ⟨_, rfl, HR5.out, HB5.out⟩
end Go.Proofs.Ytckpeoadglkbgaa
namespace Go.Proofs.Ytckpeoadglkbgaa
set_option linter.unusedVariables false
set_option maxRecDepth 20000
def padL (l : List Int) : List Int := tabL 9 fun i => l.getD i 0
theorem padL_length (l : List Int) : (padL l).length = 9 := tabL_length _ _
theorem padL_getD {l : List Int} (h : l.length ≤ 9) (i : Nat) : (padL l).getD i 0 = l.getD i 0 := by
  by_cases e : i < 9
  · exact tabL_getD e
  · rw [padL, tabL_out (by omega), getD_out (by omega)]
theorem trim_same {l m : List Int} (h : ∀ i, l.getD i 0 = m.getD i 0) : trimL l = trimL m :=
  last_unique (trimL_last _) (trimL_last _) fun i => by rw [trimL_getD, trimL_getD, h]
theorem trim_pad {l : List Int} (h : l.length ≤ 9) : trimL (padL l) = trimL l := trim_same (padL_getD h)
theorem res_same {l m : List Int} (h : trimL l = trimL m) : resL l = resL m ∧ resC l = resC m := by simp [resL, resC, h]
theorem pad_bd {l : List Int} (h : polyB l = true) : ∀ i, -1000000 ≤ (padL l).getD i 0 ∧ (padL l).getD i 0 ≤ 1000000 := fun i => by
  rw [padL_getD (polyB_of h).1]; exact (polyB_of h).2.1 i
theorem pval_pad {l : List Int} (h : l.length ≤ 9) (x : Int) : pval (padL l) x = pval l x := pval_same x (padL_getD h)
theorem evalL_pad {l : List Int} (h : l.length ≤ 9) (x : Int) : evalD (padL l) x 9 = evalL l x := by
  rw [evalL_pval, ← pval_pad h, ← evalL_pval]; rfl
/-- what is no value stays so -/
theorem evalD_out {f : List Int} {x : Int} (h : ∀ i, -1000000000000 ≤ f.getD i 0 ∧ f.getD i 0 ≤ 1000000000000) {j : Nat} (hx : x < -1 ∨ 1 < x) (hj : evalD f x j < -1000000000000 ∨ 1000000000000 < evalD f x j) :
    ∀ k, evalD f x (j + k) < -1000000000000 ∨ 1000000000000 < evalD f x (j + k)
  | 0 => hj
  | k + 1 => by
    have ih := evalD_out h hx hj k
    obtain ⟨c, d⟩ := h (f.length - 1 - (j + k))
    show evalD f x (j + k) * x + f.getD (f.length - 1 - (j + k)) 0 < _ ∨ _ < evalD f x (j + k) * x + f.getD (f.length - 1 - (j + k)) 0
    generalize evalD f x (j + k) = e at *
    generalize f.getD (f.length - 1 - (j + k)) 0 = y at *
    rcases ih with ih | ih <;> rcases hx with hx | hx
    · have := Int.mul_le_mul_of_nonpos_left (show e ≤ 0 by omega) (show x ≤ -2 by omega); omega
    · have := Int.mul_le_mul_of_nonpos_left (show e ≤ 0 by omega) (show 2 ≤ x by omega); omega
    · have := Int.mul_le_mul_of_nonneg_left (show x ≤ -2 by omega) (show 0 ≤ e by omega); omega
    · have := Int.mul_le_mul_of_nonneg_left (show 2 ≤ x by omega) (show 0 ≤ e by omega); omega
theorem evalD_flatB {f : List Int} {x B : Int} (h : ∀ i, -B ≤ f.getD i 0 ∧ f.getD i 0 ≤ B) (h0 : -1 ≤ x) (h1 : x ≤ 1) : ∀ j : Nat, -(B * (j : Int)) ≤ evalD f x j ∧ evalD f x j ≤ B * (j : Int)
  | 0 => by simp [evalD]
  | j + 1 => by
    obtain ⟨a, b⟩ := evalD_flatB h h0 h1 j
    obtain ⟨c, d⟩ := h (f.length - 1 - j)
    unfold evalD
    generalize evalD f x j = e at *
    generalize f.getD (f.length - 1 - j) 0 = y at *
    rw [show B * ((j + 1 : Nat) : Int) = B * (j : Int) + B by rw [Int.natCast_succ, Int.mul_add, Int.mul_one]]
    generalize B * (j : Int) = t at *
    rcases (by omega : x = -1 ∨ x = 0 ∨ x = 1) with rfl | rfl | rfl <;> omega
theorem inB_out {n lo hi : Int} (h : n < lo ∨ hi < n) : inB n lo hi = false := inB_f (by omega)
/-- the early end of an evaluation -/
theorem eval_stop6 {l : List Int} {x : Int} (h : polyB l = true) (hr : inB x (-1000) 1000 = true) {j : Nat} (hj : j ≤ 9) (hf : evalD (padL l) x j < -1000000000000 ∨ 1000000000000 < evalD (padL l) x j) :
    valueQ l x = 0 ∧ valueC l x = 3 := by
  have hb := pad_bd h
  have e9 := evalL_pad (polyB_of h).1 x
  have hin : inB (evalL l x) (-1000000000000) 1000000000000 = false := by
    by_cases hx : -1 ≤ x ∧ x ≤ 1
    · have := evalD_flat hb hx.1 hx.2 j
      exact absurd hf (by omega)
    · have := evalD_out (fun i => by have := hb i; omega) (j := j) (by omega) hf (9 - j)
      rw [show j + (9 - j) = 9 by omega, e9] at this
      exact inB_out this
  have e : valueC l x = 3 := by simp [valueC, h, hr, hin]
  exact ⟨by simp [valueQ, e], e⟩
theorem eval_done6 {l : List Int} {x : Int} (h : polyB l = true) (hr : inB x (-1000) 1000 = true) (h0 : -1000000000000 ≤ evalD (padL l) x 9) (h1 : evalD (padL l) x 9 ≤ 1000000000000) :
    valueQ l x = evalD (padL l) x 9 ∧ valueC l x = 0 := by
  rw [evalL_pad (polyB_of h).1] at *
  have e : valueC l x = 0 := by simp [valueC, h, hr, inB_t h0 h1]
  exact ⟨by simp [valueQ, e], e⟩
/-- bounds of a shift by -1, 0 or 1 -/
def dB : Nat → Int
  | 0 => 1000000
  | k + 1 => ((9 - k : Nat) : Int) * dB k
theorem dB_le : ∀ k, k ≤ 9 → 0 ≤ dB k ∧ dB k ≤ 362880000000 := by decide
theorem shiftP_flat {f : List Int} {a : Int} (h9 : f.length = 9) (hb : ∀ i, -1000000 ≤ f.getD i 0 ∧ f.getD i 0 ≤ 1000000) (h0 : -1 ≤ a) (h1 : a ≤ 1) :
    ∀ k, k ≤ 8 → ∀ i, -dB k ≤ (shiftP f a k).getD i 0 ∧ (shiftP f a k).getD i 0 ≤ dB k
  | 0, _, i => hb i
  | k + 1, hk, i => by
    have ih := shiftP_flat h9 hb h0 h1 k (by omega)
    have hd := dB_le k (by omega)
    have hm : dB k ≤ dB (k + 1) := by
      show dB k ≤ ((9 - k : Nat) : Int) * dB k
      have := Int.mul_le_mul_of_nonneg_right (show (1 : Int) ≤ ((9 - k : Nat) : Int) by omega) hd.1
      omega
    show -_ ≤ (tabL _ _).getD i 0 ∧ _
    by_cases hi : i < f.length
    · rw [show shiftP f a (k + 1) = tabL f.length fun i => if i < k then (shiftP f a k).getD i 0 else evalD (shiftP f a k) a (f.length - i) from rfl, tabL_getD hi]
      by_cases hik : i < k
      · rw [if_pos hik]; have := ih i; omega
      · rw [if_neg hik]
        have hf := evalD_flatB ih h0 h1 (f.length - i)
        have hm2 : dB k * ((f.length - i : Nat) : Int) ≤ dB (k + 1) := by
          show _ ≤ ((9 - k : Nat) : Int) * dB k
          rw [Int.mul_comm]
          exact Int.mul_le_mul_of_nonneg_right (by omega) hd.1
        omega
    · have e : (shiftP f a (k + 1)).getD i 0 = 0 := getD_out (by rw [shiftP_length]; omega)
      have := (dB_le (k + 1) (by omega)).1
      rw [e]
      have e2 : (tabL f.length fun i => if i < k then (shiftP f a k).getD i 0 else evalD (shiftP f a k) a (f.length - i)).getD i 0 = 0 := e
      rw [e2]
      omega
/-- the early end of a shift -/
theorem shift_stop6 {f : List Int} {a : Int} {k i : Nat} (h9 : f.length = 9) (hb : ∀ i, -1000000 ≤ f.getD i 0 ∧ f.getD i 0 ≤ 1000000) (hv : ∀ i, -1000000000000 ≤ (shiftP f a k).getD i 0 ∧ (shiftP f a k).getD i 0 ≤ 1000000000000)
    (hk8 : k ≤ 8) (hk : k ≤ i) (hi : i < 9) (hf : evalD (shiftP f a k) a (9 - i) < -1000000000000 ∨ 1000000000000 < evalD (shiftP f a k) a (9 - i)) :
    resL (shiftL f a) = [] ∧ resC (shiftL f a) = 3 := by
  have hbad : (shiftL f a).getD k 0 < -1000000000000 ∨ 1000000000000 < (shiftL f a).getD k 0 := by
    by_cases ha : -1 ≤ a ∧ a ≤ 1
    · exfalso
      have hfl := evalD_flatB (shiftP_flat h9 hb ha.1 ha.2 k hk8) ha.1 ha.2 (9 - i)
      have hd := dB_le k (by omega)
      have hd1 := dB_le (k + 1) (by omega)
      have hm2 : dB k * ((9 - i : Nat) : Int) ≤ dB (k + 1) := by
        show _ ≤ ((9 - k : Nat) : Int) * dB k
        rw [Int.mul_comm]
        exact Int.mul_le_mul_of_nonneg_right (by omega) hd.1
      omega
    · have := evalD_out hv (j := 9 - i) (by omega) hf (i - k)
      rw [show 9 - i + (i - k) = 9 - k by omega] at this
      rw [← shiftP_final f a (i := k) (k := k + 1) (by omega) (by omega)]
      rw [show shiftP f a (k + 1) = tabL f.length fun i => if i < k then (shiftP f a k).getD i 0 else evalD (shiftP f a k) a (f.length - i) from rfl, tabL_getD (by omega), if_neg (by omega), h9]
      exact this
  cases hr : polyB (trimL (shiftL f a))
  · simp [resC, resL, hr]
  · exfalso
    have := (polyB_of hr).2.1 k
    rw [trimL_getD] at this
    omega
theorem shift_pad {l : List Int} (a : Int) (h : l.length ≤ 9) : trimL (shiftL (padL l) a) = trimL (shiftL l a) :=
  pval_ext (trimL_last _) (trimL_last _) fun x => by rw [pval_trim, pval_trim, pval_shift, pval_shift, pval_pad h]
theorem shift_eight {f : List Int} (a : Int) (h : f.length = 9) : shiftP f a 8 = shiftL f a := by
  unfold shiftL
  rw [h, ← shV_zero, shV_end (by omega)]
/-- products -/
theorem mulP_zero {f g : List Int} {n : Nat} : ∀ k, (∀ i, i < k → i ≤ n → f.getD i 0 * g.getD (n - i) 0 = 0) → mulP f g n k = 0
  | 0, _ => rfl
  | k + 1, h => by
    show mulP f g n k + (if k ≤ n then f.getD k 0 * g.getD (n - k) 0 else 0) = 0
    rw [mulP_zero k fun i hi => h i (by omega)]
    by_cases hk : k ≤ n
    · rw [if_pos hk, h k (by omega) hk]; rfl
    · rw [if_neg hk]; rfl
theorem mul_long {f g : List Int} (hf : polyB f = true) (hg : polyB g = true) (h : 10 < f.length + g.length) : resL (mulL f g) = [] ∧ resC (mulL f g) = 3 := by
  obtain ⟨f9, _, fl⟩ := polyB_of hf
  obtain ⟨g9, _, gl⟩ := polyB_of hg
  have fl := fl.resolve_left (by omega)
  have gl := gl.resolve_left (by omega)
  have hlen : (mulL f g).length = f.length + g.length - 1 := by unfold mulL; rw [if_neg (by omega), tabL_length]
  have hlast : (mulL f g).getD (f.length + g.length - 2) 0 = f.getD (f.length - 1) 0 * g.getD (g.length - 1) 0 := by
    unfold mulL
    rw [if_neg (by omega), tabL_getD (by omega)]
    obtain ⟨n, hn⟩ : ∃ n, f.length = n + 1 := ⟨f.length - 1, by omega⟩
    rw [hn]
    show mulP f g _ n + (if n ≤ n + 1 + g.length - 2 then f.getD n 0 * g.getD (n + 1 + g.length - 2 - n) 0 else 0) = _
    rw [mulP_zero n fun i hi _ => by rw [getD_out (l := g) (by omega), Int.mul_zero], if_pos (by omega), Int.zero_add]
    rw [show n + 1 + g.length - 2 - n = g.length - 1 by omega, show n + 1 - 1 = n by omega]
  have hne : (mulL f g).getD (f.length + g.length - 2) 0 ≠ 0 := by rw [hlast]; exact Int.mul_ne_zero fl gl
  have ht : trimL (mulL f g) = mulL f g := by
    refine trimL_self ?_
    unfold lastB
    rw [hlen, show f.length + g.length - 1 - 1 = f.length + g.length - 2 by omega]
    simp only [Bool.or_eq_true, Bool.not_eq_true', beq_eq_false_iff_ne]
    exact .inr hne
  have hp : polyB (trimL (mulL f g)) = false := by
    rw [ht]
    unfold polyB
    rw [decide_eq_false (by omega), Bool.false_and, Bool.and_false]
  simp [resL, resC, hp]
theorem mul_pad {f g : List Int} (h : f.length + g.length ≤ 10) : trimL (tabL 9 fun n => mulP f g n f.length) = trimL (mulL f g) := by
  refine trim_same fun j => ?_
  unfold mulL
  by_cases h0 : f.length = 0 ∨ g.length = 0
  · rw [if_pos h0]
    have hz : ∀ n, mulP f g n f.length = 0 := fun n => mulP_zero _ fun i hi _ => by
      rcases h0 with h0 | h0
      · omega
      · rw [getD_out (l := g) (by omega), Int.mul_zero]
    by_cases hj : j < 9
    · rw [tabL_getD hj, hz]; simp
    · rw [tabL_out (by omega)]; simp
  · rw [if_neg h0]
    by_cases hj : j < f.length + g.length - 1
    · rw [tabL_getD (by omega), tabL_getD hj]
    · rw [tabL_out (n := f.length + g.length - 1) (by omega)]
      by_cases hj9 : j < 9
      · rw [tabL_getD hj9]
        exact mulP_zero _ fun i hi _ => by rw [getD_out (l := g) (by omega), Int.mul_zero]
      · exact tabL_out (by omega)
/-- sums -/
theorem add_pad {f g : List Int} (hf : f.length ≤ 9) (hg : g.length ≤ 9) : trimL (tabL 9 fun i => f.getD i 0 + g.getD i 0) = trimL (addL f g 1) := by
  refine trim_same fun j => ?_
  unfold addL
  by_cases hj9 : j < 9
  · rw [tabL_getD hj9]
    by_cases hj : j < max f.length g.length
    · rw [tabL_getD hj, Int.one_mul]
    · rw [tabL_out (by omega), getD_out (l := f) (by omega), getD_out (l := g) (by omega)]; rfl
  · rw [tabL_out (by omega), tabL_out (by omega)]
/-- derivatives -/
theorem der_pad {f : List Int} (hf : f.length ≤ 9) : trimL (tabL 9 fun j => if j + 1 < f.length then ((j : Int) + 1) * f.getD (j + 1) 0 else 0) = trimL (derL f) := by
  refine trim_same fun j => ?_
  unfold derL
  by_cases hj : j < f.length - 1
  · rw [tabL_getD (by omega), tabL_getD hj, if_pos (by omega)]
  · rw [tabL_out (n := f.length - 1) (by omega)]
    by_cases hj9 : j < 9
    · rw [tabL_getD hj9, if_neg (by omega)]
    · exact tabL_out (by omega)
/-- a list turned round -/
theorem rev_pad {f : List Int} (hf : f.length ≤ 9) : trimL (tabL 9 fun j => if j < f.length then f.getD (f.length - 1 - j) 0 else 0) = trimL (revL f) := by
  refine trim_same fun j => ?_
  unfold revL
  by_cases hj : j < f.length
  · rw [tabL_getD (by omega), tabL_getD hj, if_pos hj]
  · rw [tabL_out (n := f.length) (by omega)]
    by_cases hj9 : j < 9
    · rw [tabL_getD hj9, if_neg hj]
    · exact tabL_out (by omega)
theorem rev_valid {f : List Int} (hf : polyB f = true) : resL (revL f) = trimL (revL f) ∧ resC (revL f) = 0 := by
  obtain ⟨f9, fb, _⟩ := polyB_of hf
  have hp : polyB (trimL (revL f)) = true := by
    refine polyB_mk ?_ ?_ (trimL_last _)
    · rw [trimL_length]; have := trimN_le (revL f) (revL f).length; rw [revL_length] at this; rw [revL_length]; omega
    · intro i _
      rw [trimL_getD]
      unfold revL
      by_cases hi : i < f.length
      · rw [tabL_getD hi]; exact fb _
      · rw [tabL_out (by omega)]; omega
  simp [resL, resC, hp]
end Go.Proofs.Ytckpeoadglkbgaa
namespace Go.Proofs.Ytckpeoadglkbgaa
open Go.RowKit
set_option linter.unusedVariables false
set_option maxRecDepth 20000
set_option linter.unusedSimpArgs false
def Nine (w : World) (b : Nat) (l : List Int) : Prop :=
  b < w.heap.size ∧ l.length = 9 ∧ ∀ k, k < 9 → w.cell? ⟨b, k, none⟩ = some (.int .i64 (l.getD k 0)) ∧ w.frozen? ⟨b, k, none⟩ = false
def arrV (l : List Int) : Array Value := (l.map (Value.int .i64)).toArray
theorem arrV_size (l : List Int) : (arrV l).size = l.length := by simp [arrV]
theorem arrV_get {l : List Int} {k : Nat} (h : k < l.length) : (arrV l)[k]? = some (.int .i64 (l.getD k 0)) := by simp [arrV, List.getD, h]
theorem arrV_one (l : List Int) : (arrV l).all (·.oneCell') = true := all_oneCell_toArray (oneCell_map l)
theorem arrV_list (l : List Int) : (arrV l).toList = l.map (Value.int .i64) := by simp [arrV]
theorem nine_new (w : World) (l : List Int) (T : TypeId) (h : l.length = 9) : Nine (w.alloc (.cells (arrV l) T)) w.heap.size l :=
  ⟨by simp, h, fun k hk => ⟨by rw [World.cell?_alloc_new, arrV_get (by omega)], World.frozen?_alloc_at _ _ _ _ rfl⟩⟩
theorem nine_block {w1 w2 : World} {b : Nat} {l : List Int} (h : Nine w1 b l) (hs : b < w2.heap.size) (e : w2.heap[b]? = w1.heap[b]?) : Nine w2 b l :=
  ⟨hs, h.2.1, fun k hk => ⟨by rw [World.cell?_of_block (w := w1) (a := ⟨b, k, none⟩) e]; exact (h.2.2 k hk).1, by rw [World.frozen?_of_block (w := w1) (a := ⟨b, k, none⟩) e]; exact (h.2.2 k hk).2⟩⟩
theorem nine_below {w1 w2 : World} {b B : Nat} {l : List Int} (h : Nine w1 b l) (hb : Below B w1 w2) (hB : b < B) : Nine w2 b l := nine_block h (Nat.lt_of_lt_of_le h.1 hb.size) (hb.block b hB)
theorem nine_next {w1 w2 : World} {b : Nat} {l : List Int} (h : Nine w1 b l) (hb : Below w1.heap.size w1 w2) : Nine w2 b l := nine_below h hb h.1
theorem nine_drewN {w : World} {b : Nat} {l : List Int} (h : Nine w b l) (m : Nat) : Nine (w.drewN m) b l := nine_block h h.1 rfl
theorem nine_drew {w : World} {b : Nat} {l : List Int} (h : Nine w b l) : Nine w.drew b l := nine_drewN h 1
theorem nine_at {w : World} {b : Nat} {l : List Int} (h : Nine w b l) {k : Nat} (hk : k < 9) : w.cell? ⟨b, k, none⟩ = some (.int .i64 (l.getD k 0)) := (h.2.2 k hk).1
theorem nine_frozen {w : World} {b : Nat} {l : List Int} (h : Nine w b l) {k : Nat} (hk : k < 9) : w.frozen? ⟨b, k, none⟩ = false := (h.2.2 k hk).2
theorem addr_ne {b i j : Nat} (h : i ≠ j) : (⟨b, i, none⟩ : Addr) ≠ ⟨b, j, none⟩ := by intro e; injection e; exact h (by assumption)
theorem nine_set {w : World} {b k : Nat} {l : List Int} (h : Nine w b l) (hk : k < 9) (x : Int) : Nine (w.setCell ⟨b, k, none⟩ (.int .i64 x)) b (l.set k x) := by
  refine ⟨by simpa using h.1, by rw [List.length_set]; exact h.2.1, fun j hj => ⟨?_, by rw [World.frozen?_setCell]; exact (h.2.2 j hj).2⟩⟩
  by_cases e : k = j
  · subst e
    rw [World.cell?_setCell_same _ _ _ (h.2.2 k hk).1]
    have := h.2.1
    simp [List.getD, show k < l.length by omega]
  · rw [World.cell?_setCell_other _ _ _ _ (addr_ne e), (h.2.2 j hj).1]
    simp [List.getD, List.getElem?_set_ne e]
theorem nine_other {w : World} {b b' k : Nat} {l : List Int} (h : Nine w b l) (hb : b' ≠ b) (x : Value) : Nine (w.setCell ⟨b', k, none⟩ x) b l := by
  refine ⟨by simpa using h.1, h.2.1, fun j hj => ⟨?_, by rw [World.frozen?_setCell]; exact (h.2.2 j hj).2⟩⟩
  rw [World.cell?_setCell_other _ _ _ _ (by intro e; injection e; exact hb (by assumption)), (h.2.2 j hj).1]
theorem nine_range {w : World} {b : Nat} {l : List Int} (h : Nine w b l) : w.rangeAt b 0 (l.map (Value.int .i64)) := by
  intro j v hj
  obtain ⟨h1, h2⟩ := List.getElem?_eq_some_iff.1 hj
  rw [List.length_map] at h1
  rw [Nat.zero_add, (h.2.2 j (by have := h.2.1; omega)).1, ← h2]
  simp [List.getD, h1]
theorem nine_there {w : World} {b : Nat} {l : List Int} (h : Nine w b l) : w.there b 0 9 := fun j hj => by
  rw [Nat.zero_add]; exact ⟨by rw [(h.2.2 j hj).1]; rfl, (h.2.2 j hj).2⟩
theorem nine_seen {w : World} {b n : Nat} {l : List Int} (h : Nine w b l) (hn : n ≤ 9) : Seen w (some ⟨b, 0, none⟩) n 9 (l.take n) := by
  have hl := h.2.1
  refine ⟨by rw [List.length_take]; omega, by omega, fun h => by (cases h), hn, b, fun _ => ⟨rfl, h.1⟩, fun k hk => ?_⟩
  rw [take_getD l hk]; exact (h.2.2 k (by omega)).1
theorem setCells_size (b : Nat) : ∀ (vs : List Value) (o : Nat) (w : World), (w.setCells b o vs).heap.size = w.heap.size
  | [], _, _ => rfl
  | v :: r, o, w => by rw [World.setCells, setCells_size b r]; simp
theorem below_setCells {w w1 : World} {b : Nat} (hb : w.heap.size ≤ b) : ∀ (vs : List Value) (o : Nat) {w1 : World}, Below w.heap.size w w1 → Below w.heap.size w (w1.setCells b o vs)
  | [], _, _, h => h
  | v :: r, o, _, h => below_setCells (w1 := w) hb r (o + 1) (h.setCell hb v)
theorem nine_setCells {w : World} {b : Nat} {l m : List Int} (h : Nine w b l) (hm : m.length ≤ 9) : Nine (w.setCells b 0 (m.map (Value.int .i64))) b (m ++ l.drop m.length) := by
  have hl := h.2.1
  refine ⟨by rw [setCells_size]; exact h.1, by rw [List.length_append, List.length_drop]; omega, fun j hj => ⟨?_, by rw [World.frozen?_setCells]; exact (h.2.2 j hj).2⟩⟩
  by_cases hjm : j < m.length
  · have := World.cell?_setCells_in b (m.map (Value.int .i64)) 0 w (fun i hi => by rw [List.length_map] at hi; rw [Nat.zero_add, (h.2.2 i (by omega)).1]; rfl) j (by rw [List.length_map]; exact hjm)
    rw [Nat.zero_add] at this
    rw [this]
    simp [List.getD, hjm, List.getElem?_append_left hjm]
  · rw [World.cell?_setCells_out b _ 0 w ⟨b, j, none⟩ (fun _ _ => .inr (by rw [List.length_map]; show 0 + m.length ≤ j; omega)), (h.2.2 j hj).1]
    simp [List.getD, List.getElem?_append_right (show m.length ≤ j by omega), List.getElem?_drop, show m.length + (j - m.length) = j by omega]
theorem nine_full {w : World} {b : Nat} {l m : List Int} (h : Nine w b l) (hm : m.length = 9) : Nine (w.setCells b 0 (m.map (Value.int .i64))) b m := by
  have := nine_setCells h (m := m) (by omega)
  rwa [List.drop_eq_nil_of_le (by have := h.2.1; omega), List.append_nil] at this
theorem nine_apart {w : World} {b b' : Nat} {l : List Int} (h : Nine w b l) (hb : b' ≠ b) : ∀ (vs : List Value) (o : Nat) {w1 : World}, Nine w1 b l → Nine (w1.setCells b' o vs) b l
  | [], _, _, h => h
  | v :: r, o, _, h1 => nine_apart h hb r (o + 1) (nine_other h1 hb v)
theorem pad_append {l : List Int} (h : l.length ≤ 9) : l ++ (tabL 9 fun _ => 0).drop l.length = padL l := by
  refine ext_getD (by rw [List.length_append, List.length_drop, tabL_length, padL_length]; omega) fun i hi => ?_
  rw [List.length_append, List.length_drop, tabL_length] at hi
  rw [padL_getD h]
  by_cases e : i < l.length
  · simp [List.getD, List.getElem?_append_left e]
  · rw [getD_out (l := l) (by omega)]
    simp only [List.getD, List.getElem?_append_right (show l.length ≤ i by omega), List.getElem?_drop, show l.length + (i - l.length) = i by omega]
    exact tabL_getD (f := fun _ => (0 : Int)) (show i < 9 by omega)
theorem zero_nine : (#[.int .i64 0, .int .i64 0, .int .i64 0, .int .i64 0, .int .i64 0, .int .i64 0, .int .i64 0, .int .i64 0, .int .i64 0] : Array Value) = arrV (tabL 9 fun _ => 0) := rfl
theorem seen_range {w : World} {g n : Nat} {l : List Int} (hl : n = l.length) (h : ∀ k, k < n → w.cell? ⟨g, k, none⟩ = some (.int .i64 (l.getD k 0))) :
    ∀ j v, (l.map (Value.int .i64))[j]? = some v → w.cell? ((⟨g, 0, none⟩ : Addr).add j) = some v := by
  intro j v hj
  obtain ⟨h1, h2⟩ := List.getElem?_eq_some_iff.1 hj
  rw [List.length_map] at h1
  rw [show (⟨g, 0, none⟩ : Addr).add j = ⟨g, j, none⟩ by simp [Addr.add]; omega, h j (by omega), ← h2]
  simp [List.getD, h1]
end Go.Proofs.Ytckpeoadglkbgaa
namespace Go.Proofs.Ytckpeoadglkbgaa
open Go.RowKit
set_option linter.unusedVariables false
set_option maxRecDepth 20000
set_option linter.unusedSimpArgs false
theorem Try.infoI1 : (Try.prog.info? 2).map (·.size) = some 1 := by kernel_rfl
theorem results_cell_mid {fn : Func} {p : Tmp} {ty : TypeId} (h : fn.results = #[.cell p ty]) (tmps : Array Value) (w : World) (b : Nat) (cs : List Value) (d : TypeDesc)
    (hp : tmps.getD p undef = .pointer (some ⟨b, 0, none⟩)) (hr : w.rangeAt b 0 cs) (hu : Try.prog.underlying ty = some d) (hd : d.isRow = true) (hi : (Try.prog.info? ty).map (·.size) = some cs.length) :
    (results fn tmps).run Try.prog w = .ok (.agg cs.toArray) w := by
  have hp' : tmps[p]?.getD undef = .pointer (some ⟨b, 0, none⟩) := by simpa using hp
  simp [results, h, hp', asAddr, run_loadVar_mid w b 0 ty cs d hr hu hd hi]
theorem tab_nine {f : Nat → Int} : (arrV (tabL 9 f)).size = 9 := by rw [arrV_size, tabL_length]
theorem map_nine {l : List Int} (h : l.length = 9) : (l.map (Value.int .i64)).length = 9 := by rw [List.length_map, h]
end Go.Proofs.Ytckpeoadglkbgaa
namespace Go.Proofs.Ytckpeoadglkbgaa
open Go.RowKit
set_option linter.unusedVariables false
set_option linter.unusedSimpArgs false
set_option maxRecDepth 20000
def setsT (l : List Int) (k : Nat) : List Int → List Int
  | [] => l
  | x :: m => setsT (l.set k x) (k + 1) m
theorem setsT_length : ∀ (m : List Int) (l : List Int) (k : Nat), (setsT l k m).length = l.length
  | [], _, _ => rfl
  | x :: m, l, k => by rw [setsT, setsT_length m, List.length_set]
theorem setsT_getD : ∀ (m : List Int) (l : List Int) (k c : Nat), k + m.length ≤ l.length → (setsT l k m).getD c 0 = if k ≤ c ∧ c < k + m.length then m.getD (c - k) 0 else l.getD c 0
  | [], l, k, c, _ => by rw [setsT, if_neg (by simp)]
  | x :: m, l, k, c, h => by
    rw [List.length_cons] at h
    rw [setsT, setsT_getD m (l.set k x) (k + 1) c (by rw [List.length_set]; omega), List.length_cons]
    by_cases e : c = k
    · subst e
      rw [if_neg (by omega), if_pos (by omega), Nat.sub_self]
      simp [List.getD, show c < l.length by omega]
    · by_cases h2 : k + 1 ≤ c ∧ c < k + 1 + m.length
      · rw [if_pos h2, if_pos (by omega), show c - k = (c - (k + 1)) + 1 by omega]; simp [List.getD]
      · rw [if_neg h2, if_neg (by omega)]
        simp [List.getD, List.getElem?_set_ne (Ne.symm e)]
theorem int_setsT {b g n c : Nat} : ∀ (m : List Int) (k : Nat) (w : World) (l : List Int), IntRow b w (.slice (some ⟨g, 0, none⟩) n c) l → l.length = n →
    IntRow b (w.setCells g k (m.map (Value.int .i64))) (.slice (some ⟨g, 0, none⟩) n c) (setsT l k m)
  | [], k, w, l, h, _ => h
  | x :: m, k, w, l, h, hl => int_setsT m (k + 1) _ _ (int_stored h hl k x) (by rw [List.length_set]; exact hl)
theorem below_setsT {w0 w : World} {g : Nat} (hg : w0.heap.size ≤ g) (vs : List Value) (k : Nat) (h : Below w0.heap.size w0 w) : Below w0.heap.size w0 (w.setCells g k vs) := below_setCells (w := w0) (w1 := w0) hg vs k h
/-- coefficients that are residues of some ring -/
def Res9 (f : List Int) : Prop := ∀ i, 0 ≤ f.getD i 0 ∧ f.getD i 0 ≤ 1000000000
theorem modP_res9 {M : Int} (m9 : M ≤ 1000000000) {f : List Int} (h : ModP M f) : Res9 f := fun i => by have := h.rng i; omega
set_option maxHeartbeats 4000000 in
theorem productR_any {p q M : Int} (hR : ringM p q = M) (m2 : 2 ≤ M) (m9 : M ≤ 1000000000) {o o' : Option Addr} {n n' c c' : Nat} {f g : List Int} {w : World} (h : Seen w o n c f) (h' : Seen w o' n' c' g) (hf : Res9 f) (hg : Res9 g) (hn9 : n ≤ 20) (hn9' : n' ≤ 20) :
    Calls Try.prog 113 #[.agg #[.int .i64 p, .int .i64 q], .slice o n c, .slice o' n' c'] w (OwnPost (prodL M f g) w) := by
  obtain ⟨hl, hn, hno, hnc, a, h1, h2⟩ := h
  obtain ⟨hl', hn', hno', hnc', a', h1', h2'⟩ := h'
  obtain ⟨i0, hi, hz0, hz1, hz2⟩ := info_parts Try.infoInt64
  have HI := Lib.hid hi
  have HZ0 := Lib.hid hz0
  have HZ1 := Lib.hid hz1
  have HZ2 := Lib.hid hz2
  have HO := Lib.hid h1
  have HO' := Lib.hid h1'
  have HL := Lib.hid (And.intro hl hl')
  have HC := Lib.hid h2
  have HC' := Lib.hid h2'
  have HF := Lib.hid hf
  have HG := Lib.hid hg
  have hpz : (M == 0) = false := by simp; omega
  have HM := Lib.hid fun w => modulusR_any hR w
  obtain ⟨N, hN⟩ : ∃ N, n + n' = N := ⟨_, rfl⟩
  have hN1 : (n : Int) + (n' : Int) = (N : Int) := by omega
  have HN := Lib.hid hN
  have hN17 : N ≤ 40 := by omega
  clear hi hz0 hz1 hz2 h1 h2 hl hno hnc h1' h2' hl' hno' hnc' hf hg hN
  go_enter Try.func113, Try.ntmps113
  go_wp2_with fail
  refine (HM.out _).mono ?_
  rintro e w1 ⟨rfl, hb⟩
  have hb1 := box8 hb
  have HB1 := Lib.hid hb1
  have hbs := hb1.size
  clear hb HM hb1
  go_upto_region 2 with fail
  go_wp2_with (at_make; refine wpList_make_full _ rfl (.tmp 19) (.tmp 19) 26 rfl w1.heap.size 2 i0 (.int .i64 0) 1 Try.underlying26 HI.out HZ0.out HZ1.out .i64 .i64 _ _ N rfl rfl rfl rfl (by rw [HZ2.out]; omega) (by unfold maxLen; omega) (Nat.le_refl _) ?_; intro w2 hown hgrow)
  have HB2 := Lib.hid (HB1.out.grown hgrow hbs (fun k h => by cases h))
  have HR2 := Lib.hid (show IntRow w1.heap.size w2 (.slice (some ⟨w1.heap.size, 0, none⟩) N N) (mulY M f g N 0 0) by rw [mulY_start]; exact int_made hown)
  generalize w1.heap.size = Q at *
  clear hown hgrow HB1 hN1
  go_wp2_with fail
  go_loopw [23] (fun s wr => ∃ i : Nat, i ≤ n ∧ s = .int .i64 i ∧ IntRow Q wr (.slice (some ⟨Q, 0, none⟩) N N) (mulY M f g N i 0) ∧ Below w.heap.size w wr) (fun s _ => n - (intOf s).toNat)
  case atStart => exact ⟨0, Nat.zero_le _, rfl, HR2.out, HB2.out⟩
  case round =>
    obtain ⟨i, hi, rfl, hr, hb⟩ := hrel
    have HR := Lib.hid hr
    have HB := Lib.hid hb
    clear hr hb HR2 HB2
    by_cases hlt : i < n
    · obtain ⟨hog, hgl⟩ := HO.out (by omega)
      subst hog
      have a2 : wr.cell? ⟨a, i, none⟩ = some (.int .i64 (f.getD i 0)) := by rw [HB.out.cell (p := ⟨a, i, none⟩) hgl]; exact HC.out i hlt
      have HX := Lib.hid (HF.out i)
      have hin : (i : Int) < (n : Int) := by omega
      obtain ⟨x, hx⟩ : ∃ x, f.getD i 0 = x := ⟨_, rfl⟩
      rw [hx] at a2 HX
      have HFX := Lib.hid hx
      clear hgl hx
      go_wp2_with fail
      go_loopw [30] (fun s wr => ∃ k : Nat, k ≤ n' ∧ s = .int .i64 k ∧ IntRow Q wr (.slice (some ⟨Q, 0, none⟩) N N) (mulY M f g N i k) ∧ Below w.heap.size w wr) (fun s _ => n' - (intOf s).toNat)
      case atStart => exact ⟨0, Nat.zero_le _, rfl, HR.out, HB.out⟩
      case round =>
        obtain ⟨k, hk, rfl, hr, hb⟩ := hrel
        have HR2 := Lib.hid hr
        have HB2 := Lib.hid hb
        clear hr hb HR HB a2
        by_cases hltk : k < n'
        · obtain ⟨m, hm⟩ : ∃ m, i + k = m := ⟨_, rfl⟩
          have hmN : m < N := by have := HN.out; omega
          have hik : (i : Int) + (k : Int) = (m : Int) := by omega
          have hwm : IntKind.i64.wrap (m : Int) = (m : Int) := IntWalk.i64_in _ (by omega)
          obtain ⟨hog', hgl'⟩ := HO'.out (by omega)
          subst hog'
          have b2 : wr.cell? ⟨a', k, none⟩ = some (.int .i64 (g.getD k 0)) := by rw [HB2.out.cell (p := ⟨a', k, none⟩) hgl']; exact HC'.out k hltk
          have hsl := mulY_length M f g N i k
          have c4 := int_at HR2.out hsl hmN
          rw [mulY_at hmN] at c4
          have f4 := int_frozen HR2.out hsl m
          have HE := Lib.hid (mulY_step (p := M) (f := f) (g := g) hmN hm)
          have hs0 : 0 ≤ mulW f g i k m % M ∧ mulW f g i k m % M < M := ⟨Int.emod_nonneg _ (by omega), Int.emod_lt_of_pos _ (by omega)⟩
          have hpb := prod_nine HX.out.1 HX.out.2 (HG.out k).1 (HG.out k).2
          rw [HFX.out] at HE
          obtain ⟨z, hzz⟩ : ∃ z, g.getD k 0 = z := ⟨_, rfl⟩
          obtain ⟨s, hs⟩ : ∃ s, mulW f g i k m % M = s := ⟨_, rfl⟩
          rw [hzz] at b2 HE hpb
          rw [hs] at c4 HE hs0
          have w1 : IntKind.i64.wrap (x * z) = x * z := IntWalk.i64_in _ (by omega)
          have w2 : IntKind.i64.wrap (s + x * z) = s + x * z := IntWalk.i64_in _ (by omega)
          have hnn : 0 ≤ s + x * z := by omega
          obtain ⟨E, hEE⟩ : ∃ E, (s + x * z) % M = E := ⟨_, rfl⟩
          have ht : (s + x * z).tmod M = E := by rw [tmod_nonneg hnn, hEE]
          have hE0 : 0 ≤ E ∧ E < M := by rw [← hEE]; exact ⟨Int.emod_nonneg _ (by omega), Int.emod_lt_of_pos _ (by omega)⟩
          have w3 : IntKind.i64.wrap E = E := IntWalk.i64_in _ (by omega)
          rw [hEE] at HE
          have HR3 := Lib.hid (int_stored HR2.out hsl m E)
          rw [HE.out] at HR3
          have HB3 := Lib.hid (HB2.out.setCell (p := ⟨Q, m, none⟩) hbs (.int .i64 E))
          have hkn' : (k : Int) < (n' : Int) := by omega
          have hmN' : (m : Int) < (N : Int) := by omega
          clear hgl' hsl hzz hs hpb hs0 hm HE HR2 HB2
          go_wp2_with fail
          exact ⟨⟨k + 1, by omega, by go_num, HR3.out, HB3.out⟩, by simp only [intOf]; omega⟩
        · have hkn : g.length ≤ k := by have := HL.out.2; omega
          have HR3 := Lib.hid (show IntRow Q wr (.slice (some ⟨Q, 0, none⟩) N N) (mulY M f g N (i + 1) 0) by rw [← mulY_row hkn]; exact HR2.out)
          clear HR2
          go_wp2_with fail
          exact ⟨⟨i + 1, by omega, by go_num, HR3.out, HB2.out⟩, by simp only [intOf]; omega⟩
    · have hin : i = f.length := by have := HL.out.1; omega
      have HT := Lib.hid (show trimL (mulY M f g N i 0) = prodL M f g by rw [hin]; exact mulY_end (by have := HN.out; have := HL.out; omega))
      have hrl := mulY_length M f g N i 0
      have SR := Lib.hid (show Seen wr (some ⟨Q, 0, none⟩) N N (mulY M f g N i 0) by
        have h := row_seen (o := some ⟨Q, 0, none⟩) (n := (mulY M f g N i 0).length) (c := N) (by rw [hrl]; exact HR.out) (by rw [hrl]; omega)
        rw [hrl] at h; exact h)
      have HR3 := Lib.hid (intRow_lower (trim_row HR.out) hbs)
      rw [HT.out] at HR3
      generalize mulY M f g N i 0 = rl at *
      clear HT hrl HR hin
      go_wp2_with fail
      refine (trimmed_any SR.out).mono ?_
      rintro e w3 ⟨rfl, rfl⟩
      go_wp2_with fail
      go_ret
      exact ⟨_, rfl, HR3.out, HB.out⟩
/-! derivatives -/
/-- a row of the call's own, the first places of which are f -/
theorem copy_sum {b : Nat} {N n c : Nat} {f : List Int} {w0 w : World} {o : Option Addr} (hN : n ≤ N) (hr : IntRow b w (.slice (some ⟨b, 0, none⟩) N N) (tabL N fun _ => 0)) (h : Seen w o n c f) (hb : w0.heap.size ≤ b) (hw : Below w0.heap.size w0 w) :
    ∃ W, (Builtin.copy_ #[26, 26] 3 #[.slice (some ⟨b, 0, none⟩) N N, .slice o n c]).run Try.prog w = .ok (goInt n) W ∧ IntRow b W (.slice (some ⟨b, 0, none⟩) N N) (tabL N fun i => f.getD i 0) ∧ Below w0.heap.size w0 W := by
  obtain ⟨hl, hn, hno, hnc, g, h1, h2⟩ := h
  by_cases h0 : n = 0
  · subst h0
    have hf : f = [] := List.length_eq_zero_iff.1 hl.symm
    subst hf
    refine ⟨w, ?_, by simpa using hr, hw⟩
    have := run_copy_none (P := Try.prog) w 26 26 3 2 (some ⟨b, 0, none⟩) o N N 0 c Try.underlying26 Try.infoI1 (by simp)
    exact this
  · obtain ⟨rfl, hg⟩ := h1 (by omega)
    have hrl : (tabL N fun _ => (0 : Int)).length = N := tabL_length _ _
    have hfm : (f.map (Value.int .i64)).length = n := by rw [List.length_map]; exact hl.symm
    have h9 := run_copy_cells (P := Try.prog) w 26 26 3 2 b 0 N N ⟨g, 0, none⟩ n c (f.map (Value.int .i64)) Try.underlying26 Try.infoI1 (by rw [hfm]; exact (Nat.min_eq_left hN).symm)
      (seen_range hl h2) (fun j hj => by rw [Nat.zero_add, int_at hr hrl (k := j) (by omega)]; rfl) (fun j hj => by rw [Nat.zero_add]; exact int_frozen hr hrl j) (oneCell_map f)
    rw [hfm] at h9
    have hs := int_setsT f 0 w _ hr hrl
    refine ⟨_, h9, ?_, below_setsT hb (f.map (Value.int .i64)) 0 hw⟩
    have e : setsT (tabL N fun _ => 0) 0 f = tabL N fun i => f.getD i 0 := by
      refine ext_getD (by rw [setsT_length, tabL_length, tabL_length]) fun i hi => ?_
      rw [setsT_length, tabL_length] at hi
      rw [setsT_getD _ _ _ _ (by rw [tabL_length]; omega), tabL_getD hi, tabL_getD hi]
      split
      · rw [Nat.sub_zero]
      · rw [getD_out (by omega)]
    rw [← e]; exact hs
def sumY (f : List Int) (a : Int) (g : List Int) (N k : Nat) : List Int := tabL N fun i => f.getD i 0 + (if i < k then a * g.getD i 0 else 0)
theorem sumY_start (f : List Int) (a : Int) (g : List Int) (N : Nat) : sumY f a g N 0 = tabL N fun i => f.getD i 0 := tabL_ext fun i hi => by rw [if_neg (by omega), Int.add_zero]
theorem sumY_length (f : List Int) (a : Int) (g : List Int) (N k : Nat) : (sumY f a g N k).length = N := tabL_length _ _
theorem sumY_at {f g : List Int} {a : Int} {N k : Nat} (h : k < N) : (sumY f a g N k).getD k 0 = f.getD k 0 := by rw [sumY, tabL_getD h, if_neg (by omega), Int.add_zero]
theorem sumY_step {f g : List Int} {a : Int} {N k : Nat} (h : k < N) : (sumY f a g N k).set k (f.getD k 0 + a * g.getD k 0) = sumY f a g N (k + 1) := by
  unfold sumY
  rw [tab_set _ h]
  refine tabL_ext fun i hi => ?_
  by_cases e : i = k
  · rw [if_pos e, if_pos (by omega), e]
  · rw [if_neg e]
    by_cases h2 : i < k
    · rw [if_pos h2, if_pos (by omega)]
    · rw [if_neg h2, if_neg (by omega)]
theorem sumY_end {f g : List Int} {a : Int} {N : Nat} (h : N = max f.length g.length) : sumY f a g N g.length = addL f g a := by
  unfold sumY addL
  rw [← h]
  refine tabL_ext fun i hi => ?_
  by_cases h2 : i < g.length
  · rw [if_pos h2]
  · rw [if_neg h2, getD_out (by omega : g.length ≤ i), Int.mul_zero]
set_option maxHeartbeats 2000000 in
theorem sumR_any {p q M : Int} (hR : ringM p q = M) (m2 : 2 ≤ M) (m9 : M ≤ 1000000000) {o o' : Option Addr} {n n' c c' : Nat} {f g : List Int} {w : World} (h : Seen w o n c f) (h' : Seen w o' n' c' g) (hf : Res9 f) (hg : Res9 g) (hn9 : n ≤ 20) (hn9' : n' ≤ 20) :
    Calls Try.prog 114 #[.agg #[.int .i64 p, .int .i64 q], .slice o n c, .int .i64 1, .slice o' n' c'] w (OwnPost (redL M (addL f g 1)) w) := by
  have HS := Lib.hid h
  obtain ⟨hl, hn, hno, hnc, a, h1, h2⟩ := h
  obtain ⟨hl', hn', hno', hnc', a', h1', h2'⟩ := h'
  obtain ⟨i0, hi, hz0, hz1, hz2⟩ := info_parts Try.infoInt64
  have HI := Lib.hid hi
  have HZ0 := Lib.hid hz0
  have HZ1 := Lib.hid hz1
  have HZ2 := Lib.hid hz2
  have HO' := Lib.hid h1'
  have HL := Lib.hid (And.intro hl hl')
  have HC' := Lib.hid h2'
  have HF := Lib.hid hf
  have HG := Lib.hid hg
  obtain ⟨N, hN⟩ : ∃ N, max n n' = N := ⟨_, rfl⟩
  have hmx : max (n : Int) (n' : Int) = (N : Int) := by omega
  have HN := Lib.hid hN
  have hnN : n ≤ N := by omega
  have hnN' : n' ≤ N := by omega
  have hN20 : N ≤ 20 := by omega
  have HRED := Lib.hid fun (wx : World) (b : Nat) (o' : Option Addr) (c' : Nat) (l : List Int) (hx : Seen wx o' N c' l) => reducedR_any hR m2 m9 hx (by omega)
  obtain ⟨W0, hW0⟩ : ∃ W0, w.alloc (.cells #[.int .i64 p, .int .i64 q] 25) = W0 := ⟨_, rfl⟩
  have hb1 : Below w.heap.size w W0 := by rw [← hW0]; exact below_a8 _ _
  have HS0 := Lib.hid (seen_below HS.out hb1)
  obtain ⟨Q, hQ⟩ : ∃ Q, W0.heap.size = Q := ⟨_, rfl⟩
  have hs0 : Q = w.heap.size + 1 := by rw [← hQ, ← hW0]; simp
  have HSQ := Lib.hid hs0
  have q0 : W0.cell? ⟨w.heap.size, 0, none⟩ = some (.int .i64 p) := by rw [← hW0]; exact World.cell?_alloc_new _ _ _ _ ▸ rfl
  have q1 : W0.cell? ⟨w.heap.size, 1, none⟩ = some (.int .i64 q) := by rw [← hW0]; exact World.cell?_alloc_new _ _ _ _ ▸ rfl
  have HQ := Lib.hid (And.intro q0 q1)
  have HB1 := Lib.hid hb1
  clear hi hz0 hz1 hz2 h1 h2 h1' h2' hl hl' hno hno' hnc hnc' hf hg hN hb1 q0 q1 hs0
  go_enter Try.func114, Try.ntmps114
  go_upto_region 1 with fail
  clear hW0
  go_wp2_with (at_make; refine wpList_make_full _ rfl (.tmp 16) (.tmp 16) 26 rfl W0.heap.size 2 i0 (.int .i64 0) 1 Try.underlying26 HI.out HZ0.out HZ1.out .i64 .i64 _ _ N rfl rfl rfl rfl (by rw [HZ2.out]; omega) (by unfold maxLen; omega) (Nat.le_refl _) ?_; intro w2 hown hgrow; rw [hQ] at hown; (have HB2 := Lib.hid ((Below.refl W0.heap.size W0).grown hgrow (Nat.le_refl _) (fun k h => by cases h))); (have HR2 := Lib.hid (show IntRow Q w2 (.slice (some ⟨Q, 0, none⟩) N N) (tabL N fun _ => 0) by rw [← hQ] at hown ⊢; exact int_made hown)); (obtain ⟨W3, hcp, hr3, hb3⟩ := copy_sum hnN HR2.out (seen_below HS0.out HB2.out) (Nat.le_of_eq hQ) HB2.out); (have HR3 := Lib.hid hr3); (have HB3 := Lib.hid hb3); clear hr3 hb3 hown hgrow HR2 HB2)
  clear hcp
  go_loopw [23] (fun s wr => ∃ k : Nat, k ≤ n' ∧ s = .int .i64 k ∧ IntRow Q wr (.slice (some ⟨Q, 0, none⟩) N N) (sumY f 1 g N k) ∧ Below W0.heap.size W0 wr) (fun s _ => n' - (intOf s).toNat)
  case atStart => exact ⟨0, Nat.zero_le _, rfl, by rw [sumY_start]; exact HR3.out, HB3.out⟩
  case round =>
    obtain ⟨k, hk, rfl, hr, hb⟩ := hrel
    have HR := Lib.hid hr
    have HB := Lib.hid hb
    clear hr hb HR3 HB3
    have hrl := sumY_length f 1 g N k
    by_cases hlt : k < n'
    · obtain ⟨hog, hgl⟩ := HO'.out (by omega)
      subst hog
      have hkN : k < N := by omega
      have a2 : wr.cell? ⟨a', k, none⟩ = some (.int .i64 (g.getD k 0)) := by
        rw [HB.out.cell (p := ⟨a', k, none⟩) (by show a' < W0.heap.size; have := HSQ.out; omega), HB1.out.cell (p := ⟨a', k, none⟩) hgl]; exact HC'.out k hlt
      have c2 := int_at HR.out hrl hkN
      rw [sumY_at hkN] at c2
      have f2 := int_frozen HR.out hrl k
      have HE := Lib.hid (sumY_step (f := f) (g := g) (a := 1) hkN)
      have hx := HF.out k
      have hz := HG.out k
      obtain ⟨x, hxx⟩ : ∃ x, f.getD k 0 = x := ⟨_, rfl⟩
      obtain ⟨z, hzz⟩ : ∃ z, g.getD k 0 = z := ⟨_, rfl⟩
      rw [hxx] at c2 HE hx
      rw [hzz] at a2 HE hz
      have w0 : IntKind.i64.wrap z = z := IntWalk.i64_in _ (by omega)
      have w1 : IntKind.i64.wrap (1 * z) = z := by rw [Int.one_mul]; exact w0
      have w2 : IntKind.i64.wrap (x + z) = x + z := IntWalk.i64_in _ (by omega)
      have HR3 := Lib.hid (int_stored HR.out hrl k (x + z))
      rw [show x + z = x + 1 * z by omega, HE.out] at HR3
      have HB3 := Lib.hid (HB.out.setCell (p := ⟨Q, k, none⟩) (Nat.le_of_eq hQ) (.int .i64 (x + z)))
      have hkn : (k : Int) < (n' : Int) := by omega
      have hkN' : (k : Int) < (N : Int) := by omega
      clear hgl HE HR HB hrl hxx hzz
      go_wp2_with fail
      exact ⟨⟨k + 1, by omega, by go_num, by rw [show x + 1 * z = x + z by omega] at HR3; exact HR3.out, HB3.out⟩, by simp only [intOf]; omega⟩
    · have hkn : k = g.length := by have := HL.out.2; omega
      have HT := Lib.hid (show sumY f 1 g N k = addL f g 1 by rw [hkn]; exact sumY_end (by have := HL.out; have := HN.out; omega))
      have SR := Lib.hid (show Seen wr (some ⟨Q, 0, none⟩) N N (sumY f 1 g N k) by
        have h := row_seen (o := some ⟨Q, 0, none⟩) (n := (sumY f 1 g N k).length) (c := N) (by rw [hrl]; exact HR.out) (by rw [hrl]; omega)
        rw [hrl] at h; exact h)
      rw [HT.out] at SR
      have g0 := (HB.out.cell (p := ⟨w.heap.size, 0, none⟩) (by show w.heap.size < W0.heap.size; have := HSQ.out; omega)).trans HQ.out.1
      have g1 := (HB.out.cell (p := ⟨w.heap.size, 1, none⟩) (by show w.heap.size < W0.heap.size; have := HSQ.out; omega)).trans HQ.out.2
      clear hkn HT hrl HR
      go_wp2_with (go_at_call 98; refine (HRED.out wr 0 _ _ _ SR.out).mono ?_; rintro e w3 ⟨v, rfl, hr, hb⟩)
      go_ret
      exact ⟨_, rfl, intRow_lower hr (by have := HB.out.size; have := HSQ.out; omega), HB1.out.trans ((HB.out.trans (hb.mono HB.out.size)).mono (by have := HSQ.out; omega))⟩
end Go.Proofs.Ytckpeoadglkbgaa
namespace Go.Proofs.Ytckpeoadglkbgaa
set_option linter.unusedVariables false
set_option linter.unusedSimpArgs false
/-- a root in the ring that has the remainder x by q -/
def RootAt (m : Int) (f : List Int) (q x y : Int) : Prop := 0 ≤ y ∧ y < m ∧ q ∣ y - x ∧ m ∣ pval f y
/-- .. whose next digit is less than d -/
def RootTo (m : Int) (f : List Int) (p q x : Int) (d : Nat) (y : Int) : Prop := 0 ≤ y ∧ y < m ∧ m ∣ pval f y ∧ ∃ e : Nat, e < d ∧ q * p ∣ y - (x + (e : Int) * q)
/-- l has just these, each once -/
def Each (l : List Int) (R : Int → Prop) : Prop := l.Nodup ∧ ∀ y, y ∈ l ↔ R y
/-- l has some of these, each once -/
def Some1 (l : List Int) (R : Int → Prop) : Prop := l.Nodup ∧ ∀ y, y ∈ l → R y
theorem Each.some {l : List Int} {R : Int → Prop} (h : Each l R) : Some1 l R := ⟨h.1, fun y hy => (h.2 y).1 hy⟩
theorem Each.congr {l : List Int} {R R' : Int → Prop} (h : Each l R) (e : ∀ y, R y ↔ R' y) : Each l R' := ⟨h.1, fun y => (h.2 y).trans (e y)⟩
theorem Some1.mono {l : List Int} {R R' : Int → Prop} (h : Some1 l R) (e : ∀ y, R y → R' y) : Some1 l R' := ⟨h.1, fun y hy => e y (h.2 y hy)⟩
theorem each_none : Each [] (fun _ => False) := ⟨List.nodup_nil, fun y => by simp⟩
theorem rootTo_zero (m : Int) (f : List Int) (p q x y : Int) : ¬ RootTo m f p q x 0 y := fun ⟨_, _, _, e, he, _⟩ => absurd he (Nat.not_lt_zero _)
/-- two digits do not meet -/
theorem digit_one {p q x y : Int} {a b : Nat} (hq : q ≠ 0) (ha : (a : Int) < p) (hb : (b : Int) < p) (h1 : q * p ∣ y - (x + (a : Int) * q)) (h2 : q * p ∣ y - (x + (b : Int) * q)) : a = b := by
  obtain ⟨s, hs⟩ := h1
  obtain ⟨t, ht⟩ := h2
  have e : q * ((b : Int) - a) = q * (p * (s - t)) := by grind
  have e2 := Int.eq_of_mul_eq_mul_left hq e
  have hd : p ∣ (b : Int) - a := ⟨s - t, e2⟩
  have := same_residue (m := p) (x := (a : Int)) (y := (b : Int)) (by omega) ha (by omega) hb hd
  omega
theorem rootTo_succ {m : Int} {f : List Int} {p q x : Int} {d : Nat} {y : Int} : RootTo m f p q x (d + 1) y ↔ RootTo m f p q x d y ∨ RootAt m f (q * p) (x + (d : Int) * q) y := by
  constructor
  · rintro ⟨h0, h1, h2, e, he, h3⟩
    rcases Nat.lt_or_ge e d with h | h
    · exact .inl ⟨h0, h1, h2, e, h, h3⟩
    · obtain rfl : e = d := by omega
      exact .inr ⟨h0, h1, h3, h2⟩
  · rintro (⟨h0, h1, h2, e, he, h3⟩ | ⟨h0, h1, h3, h2⟩)
    · exact ⟨h0, h1, h2, e, by omega, h3⟩
    · exact ⟨h0, h1, h2, d, by omega, h3⟩
theorem rootTo_all {m : Int} {f : List Int} {p q x : Int} (hp : 0 < p) {y : Int} : RootTo m f p q x p.toNat y ↔ RootAt m f q x y := by
  constructor
  · rintro ⟨h0, h1, h2, e, he, c, hc⟩
    exact ⟨h0, h1, ⟨p * c + e, by grind⟩, h2⟩
  · rintro ⟨h0, h1, ⟨t, ht⟩, h2⟩
    have r0 := Int.emod_nonneg t (show p ≠ 0 by omega)
    have r1 := Int.emod_lt_of_pos t hp
    refine ⟨h0, h1, h2, (t % p).toNat, by omega, ⟨t / p, ?_⟩⟩
    rw [Int.toNat_of_nonneg r0]
    have := Int.emod_add_mul_ediv t p
    grind
/-- a digit with no root: nothing is added -/
theorem digit_skip {m : Int} {f : List Int} {p q x : Int} {d : Nat} (hm : q * p ∣ m) (h : ¬ q * p ∣ pval f (x + (d : Int) * q)) {y : Int} : RootTo m f p q x (d + 1) y ↔ RootTo m f p q x d y := by
  rw [rootTo_succ]
  refine ⟨fun h2 => ?_, .inl⟩
  rcases h2 with h2 | ⟨_, _, h3, h4⟩
  · exact h2
  · exfalso
    apply h
    have e := pval_cong (m := q * p) (x := y) (y := x + (d : Int) * q) (by obtain ⟨c, hc⟩ := h3; exact ⟨-c, by grind⟩) f
    obtain ⟨a, ha⟩ := e
    obtain ⟨b, hb⟩ := Int.dvd_trans hm h4
    exact ⟨a + b, by grind⟩
theorem digit_each {m : Int} {f : List Int} {p q x : Int} {d : Nat} {l k : List Int} (hq : q ≠ 0) (hd : (d : Int) < p) (hl : Each l (RootTo m f p q x d)) (hk : Each k (RootAt m f (q * p) (x + (d : Int) * q))) : Each (l ++ k) (RootTo m f p q x (d + 1)) := by
  refine ⟨List.nodup_append.2 ⟨hl.1, hk.1, fun a ha b hb e => ?_⟩, fun y => ?_⟩
  · subst e
    obtain ⟨_, _, _, e, he, h3⟩ := (hl.2 a).1 ha
    obtain ⟨_, _, h4, _⟩ := (hk.2 a).1 hb
    have := digit_one hq (by omega) hd h3 h4
    omega
  · rw [List.mem_append, hl.2, hk.2, rootTo_succ]
theorem digit_some {m : Int} {f : List Int} {p q x : Int} {d : Nat} {l k : List Int} (hq : q ≠ 0) (hd : (d : Int) < p) (hl : Each l (RootTo m f p q x d)) (hk : Some1 k (RootAt m f (q * p) (x + (d : Int) * q))) : Some1 (l ++ k) (RootAt m f q x) := by
  refine ⟨List.nodup_append.2 ⟨hl.1, hk.1, fun a ha b hb e => ?_⟩, fun y hy => ?_⟩
  · subst e
    obtain ⟨_, _, _, e, he, h3⟩ := (hl.2 a).1 ha
    obtain ⟨_, _, h4, _⟩ := hk.2 a hb
    have := digit_one hq (by omega) hd h3 h4
    omega
  · have hp : 0 < p := by omega
    rw [← rootTo_all hp]
    rcases List.mem_append.1 hy with h | h
    · obtain ⟨h0, h1, h2, e, he, h3⟩ := (hl.2 y).1 h
      exact ⟨h0, h1, h2, e, by omega, h3⟩
    · obtain ⟨h0, h1, h3, h2⟩ := hk.2 y h
      exact ⟨h0, h1, h2, d, by omega, h3⟩
/-- the last level: the residue itself -/
theorem leaf_each {m : Int} {f : List Int} {x : Int} (h0 : 0 ≤ x) (h1 : x < m) : Each (if m ∣ pval f x then [x] else []) (RootAt m f m x) := by
  split
  · rename_i h
    refine ⟨by simp, fun y => ?_⟩
    rw [List.mem_singleton]
    constructor
    · rintro rfl; exact ⟨h0, h1, by rw [Int.sub_self]; exact Int.dvd_zero _, h⟩
    · rintro ⟨a, b, c, d⟩; exact (same_residue h0 h1 a b c).symm
  · rename_i h
    refine ⟨by simp, fun y => ?_⟩
    constructor
    · intro hy; simp at hy
    · rintro ⟨a, b, c, d⟩
      have := same_residue h0 h1 a b c
      subst this
      exact absurd d h
/-! in order -/
def Incr (l : List Int) : Prop := l.Pairwise (· < ·)
theorem incr_nodup {l : List Int} (h : Incr l) : l.Nodup := h.imp fun hab => by omega
theorem incr_unique : ∀ {l k : List Int}, Incr l → Incr k → (∀ y, y ∈ l ↔ y ∈ k) → l = k
  | [], [], _, _, _ => rfl
  | [], b :: k, _, _, h => by have := (h b).2 (by simp); simp at this
  | a :: l, [], _, _, h => by have := (h a).1 (by simp); simp at this
  | a :: l, b :: k, hl, hk, h => by
    obtain ⟨l1, l2⟩ := List.pairwise_cons.1 hl
    obtain ⟨k1, k2⟩ := List.pairwise_cons.1 hk
    have e : a = b := by
      have ha := (h a).1 (by simp)
      have hb := (h b).2 (by simp)
      rcases List.mem_cons.1 ha with e | e
      · exact e
      · rcases List.mem_cons.1 hb with e' | e'
        · exact e'.symm
        · have := k1 _ e; have := l1 _ e'; omega
    subst e
    congr 1
    refine incr_unique l2 k2 fun y => ?_
    have hy := h y
    rw [List.mem_cons, List.mem_cons] at hy
    constructor
    · intro h1
      rcases hy.1 (.inr h1) with e | e
      · subst e; exact absurd (l1 _ h1) (by omega)
      · exact e
    · intro h1
      rcases hy.2 (.inr h1) with e | e
      · subst e; exact absurd (k1 _ h1) (by omega)
      · exact e
/-- all roots in the ring, in order -/
def rootsM (m : Int) (f : List Int) : Nat → List Int
  | 0 => []
  | k + 1 => rootsM m f k ++ (if vM m f k = 0 then [(k : Int)] else [])
def rootsA (m : Int) (f : List Int) : List Int := rootsM m f m.toNat
theorem rootsM_mem {m : Int} (hm : 0 < m) (f : List Int) (y : Int) : ∀ k : Nat, y ∈ rootsM m f k ↔ 0 ≤ y ∧ y < k ∧ m ∣ pval f y
  | 0 => by simp [rootsM]; omega
  | k + 1 => by
    rw [rootsM, List.mem_append, rootsM_mem hm f y k]
    constructor
    · rintro (⟨a, b, c⟩ | h)
      · exact ⟨a, by omega, c⟩
      · split at h
        · rename_i hv
          rw [List.mem_singleton] at h
          subst h
          exact ⟨by omega, by omega, (vM_zero hm f k).1 hv⟩
        · simp at h
    · rintro ⟨a, b, c⟩
      by_cases e : y = k
      · subst e
        right
        rw [if_pos ((vM_zero hm f k).2 c)]; simp
      · exact .inl ⟨a, by omega, c⟩
theorem rootsM_incr {m : Int} (hm : 0 < m) (f : List Int) : ∀ k : Nat, Incr (rootsM m f k)
  | 0 => List.Pairwise.nil
  | k + 1 => by
    rw [rootsM]
    refine List.pairwise_append.2 ⟨rootsM_incr hm f k, ?_, fun a ha b hb => ?_⟩
    · split <;> simp
    · have h1 := (rootsM_mem hm f a k).1 ha
      split at hb
      · rw [List.mem_singleton] at hb; omega
      · simp at hb
theorem rootsA_mem {m : Int} (hm : 0 < m) (f : List Int) (y : Int) : y ∈ rootsA m f ↔ RootAt m f 1 0 y := by
  unfold rootsA RootAt
  rw [rootsM_mem hm]
  constructor
  · rintro ⟨a, b, c⟩; exact ⟨a, by omega, Int.one_dvd _, c⟩
  · rintro ⟨a, b, _, c⟩; exact ⟨a, by omega, c⟩
theorem rootsA_incr {m : Int} (hm : 0 < m) (f : List Int) : Incr (rootsA m f) := rootsM_incr hm f _
theorem each_perm {l : List Int} {m : Int} (hm : 0 < m) {f : List Int} (h : Each l (RootAt m f 1 0)) : l.Perm (rootsA m f) :=
  (List.perm_ext_iff_of_nodup h.1 (incr_nodup (rootsA_incr hm f))).2 fun y => (h.2 y).trans (rootsA_mem hm f y).symm
theorem each_len {l : List Int} {m : Int} (hm : 0 < m) {f : List Int} (h : Each l (RootAt m f 1 0)) : l.length = (rootsA m f).length := (each_perm hm h).length_eq
theorem each_sorted {l k : List Int} {m : Int} (hm : 0 < m) {f : List Int} (h : Each l (RootAt m f 1 0)) (hk : Incr k) (hp : ∀ y, y ∈ k ↔ y ∈ l) : k = rootsA m f :=
  incr_unique hk (rootsA_incr hm f) fun y => by rw [hp, h.2, rootsA_mem hm]
theorem nodup_le {l k : List Int} (h : l.Nodup) (hs : ∀ y ∈ l, y ∈ k) : l.length ≤ k.length := by
  induction l generalizing k with
  | nil => simp
  | cons a l ih =>
    obtain ⟨h1, h2⟩ := List.nodup_cons.1 h
    have ha := hs a (by simp)
    have := ih (k := k.erase a) h2 fun y hy => by
      have hne : y ≠ a := by rintro rfl; exact h1 hy
      exact (List.mem_erase_of_ne hne).2 (hs y (by simp [hy]))
    rw [List.length_erase_of_mem ha] at this
    have hpos := List.length_pos_of_mem ha
    rw [List.length_cons]; omega
/-- more than the limit on the way: more than the limit at all -/
theorem some_len {l : List Int} {m : Int} (hm : 0 < m) {f : List Int} (h : Some1 l (RootAt m f 1 0)) : l.length ≤ (rootsA m f).length :=
  nodup_le h.1 fun y hy => (rootsA_mem hm f y).2 (h.2 y hy)
end Go.Proofs.Ytckpeoadglkbgaa
namespace Go.Proofs.Ytckpeoadglkbgaa
set_option linter.unusedVariables false
set_option linter.unusedSimpArgs false
theorem vM_red {m : Int} (hm : 0 < m) (f : List Int) (x : Int) : vM m (redL m f) x = vM m f x := by
  rw [vM_is hm, vM_is hm]
  obtain ⟨h, hh⟩ := redL_cg m f
  rw [hh x, Int.add_mul_emod_self_left]
theorem vM_mod {m p : Int} (hm : 0 < m) (hp : 0 < p) (hd : p ∣ m) (f : List Int) (x : Int) : vM m f x % p = vM p f x := by
  rw [vM_is hm, vM_is hp, Int.emod_emod_of_dvd _ hd]
/-! divisors of powers of a prime -/
theorem pow_pos11 {p : Int} (hp : 2 ≤ p) : ∀ n : Nat, 0 < p ^ n
  | 0 => by simp
  | n + 1 => by rw [Int.pow_succ]; exact Int.mul_pos (pow_pos11 hp n) (by omega)
theorem pow_lt11 {p : Int} (hp : 2 ≤ p) {a b : Nat} (h : a < b) : p ^ a < p ^ b := by
  obtain ⟨c, rfl⟩ : ∃ c, b = a + c + 1 := ⟨b - a - 1, by omega⟩
  have h1 := pow_pos11 hp a
  have h2 := pow_pos11 hp c
  have e : p ^ (a + c + 1) = p ^ a * (p ^ c * p) := by rw [Int.pow_succ, Int.pow_add, Int.mul_assoc]
  have h3 : 1 * 2 ≤ p ^ c * p := Int.mul_le_mul (by omega) hp (by omega) (by omega)
  have h4 := Int.mul_le_mul_of_nonneg_left h3 (Int.le_of_lt h1)
  rw [e]; omega
theorem pow_lt_iff11 {p : Int} (hp : 2 ≤ p) {a b : Nat} : p ^ a < p ^ b ↔ a < b := by
  refine ⟨fun h => ?_, pow_lt11 hp⟩
  rcases Nat.lt_or_ge a b with h1 | h1
  · exact h1
  · rcases Nat.lt_or_eq_of_le h1 with h2 | h2
    · have := pow_lt11 hp h2; omega
    · subst h2; omega
theorem div_pow {p : Int} (hp : PrimeP p) : ∀ (n : Nat) (d : Int), 0 < d → d ∣ p ^ n → ∃ j, j ≤ n ∧ d = p ^ j
  | 0, d, h0, h => by
    rw [Int.pow_zero] at h
    exact ⟨0, Nat.le_refl _, by rw [Int.pow_zero]; exact Int.eq_one_of_dvd_one (by omega) h⟩
  | n + 1, d, h0, h => by
    obtain ⟨c, hc⟩ := h
    by_cases hd : p ∣ d
    · obtain ⟨e, rfl⟩ := hd
      have hp0 : p ≠ 0 := by have := hp.1; omega
      have he : p ^ n = e * c := by
        rw [Int.pow_succ] at hc
        exact Int.eq_of_mul_eq_mul_left hp0 (by grind)
      have he0 : 0 < e := by
        rcases (show 0 < e ∨ e ≤ 0 by omega) with h1 | h1
        · exact h1
        · have := Int.mul_le_mul_of_nonneg_left h1 (show 0 ≤ p by have := hp.1; omega)
          omega
      obtain ⟨j, hj, rfl⟩ := div_pow hp n e he0 ⟨c, he⟩
      exact ⟨j + 1, by omega, by rw [Int.pow_succ]; grind⟩
    · have h1 : p ^ (n + 1) ∣ c := pow_cancel hp hd (n + 1) c ⟨1, by rw [hc]; grind⟩
      obtain ⟨t, rfl⟩ := h1
      have hpp := pow_pos11 hp.1 (n + 1)
      have : d * t = 1 := by
        have e : p ^ (n + 1) * (d * t) = p ^ (n + 1) * 1 := by grind
        exact Int.eq_of_mul_eq_mul_left (by omega) e
      exact ⟨0, by omega, by rw [Int.pow_zero]; exact Int.eq_one_of_dvd_one (by omega) ⟨t, this.symm⟩⟩
/-! the greatest power that divides all the numbers -/
def gN (m : Int) (l : List Int) : Nat → Int
  | 0 => m
  | k + 1 => ((Int.gcd (gN m l k) (l.getD k 0) : Nat) : Int)
theorem gN_pos {m : Int} (hm : 0 < m) (l : List Int) : ∀ k, 0 < gN m l k
  | 0 => hm
  | k + 1 => by
    have h := gN_pos hm l k
    have : Int.gcd (gN m l k) (l.getD k 0) ≠ 0 := by
      intro h0
      have := (Int.gcd_eq_zero_iff.1 h0).1
      omega
    show 0 < ((Int.gcd (gN m l k) (l.getD k 0) : Nat) : Int)
    omega
theorem gN_dvd (m : Int) (l : List Int) : ∀ k, gN m l k ∣ m ∧ ∀ i, i < k → gN m l k ∣ l.getD i 0
  | 0 => ⟨Int.dvd_refl m, fun i hi => by omega⟩
  | k + 1 => by
    obtain ⟨h1, h2⟩ := gN_dvd m l k
    have hl : gN m l (k + 1) ∣ gN m l k := Int.gcd_dvd_left ..
    refine ⟨Int.dvd_trans hl h1, fun i hi => ?_⟩
    rcases Nat.lt_or_ge i k with h | h
    · exact Int.dvd_trans hl (h2 i h)
    · obtain rfl : i = k := by omega
      exact Int.gcd_dvd_right ..
theorem gN_great {m d : Int} {l : List Int} (hd : d ∣ m) : ∀ k, (∀ i, i < k → d ∣ l.getD i 0) → d ∣ gN m l k
  | 0, _ => hd
  | k + 1, h => Int.dvd_coe_gcd (gN_great hd k fun i hi => h i (by omega)) (h k (by omega))
theorem gN_le {m : Int} (hm : 0 < m) (l : List Int) (k : Nat) : gN m l k ≤ m := Int.le_of_dvd hm (gN_dvd m l k).1
theorem gN_pow {p : Int} (hp : PrimeP p) (n : Nat) (l : List Int) (k : Nat) : ∃ j, j ≤ n ∧ gN (p ^ n) l k = p ^ j :=
  div_pow hp n _ (gN_pos (pow_pos11 hp.1 n) l k) (gN_dvd _ l k).1
/-- of one residue -/
theorem gN_one {p v : Int} (hp : PrimeP p) {n a : Nat} (h1 : p ^ a ∣ v) (ha : a ≤ n) (h2 : a = n ∨ ¬ p ^ (a + 1) ∣ v) : gN (p ^ n) [v] 1 = p ^ a := by
  obtain ⟨j, hj, e⟩ := gN_pow hp n [v] 1
  have hd := (gN_dvd (p ^ n) [v] 1).2 0 (by omega)
  have hg := gN_great (m := p ^ n) (d := p ^ a) (l := [v]) (pow_div ha) 1 (fun i hi => by rw [show i = 0 by omega]; exact h1)
  rw [e] at hd hg ⊢
  have h3 : a ≤ j := by
    rcases Nat.lt_or_ge j a with h | h
    · have := pow_lt11 hp.1 h
      have := Int.le_of_dvd (pow_pos11 hp.1 j) hg
      omega
    · exact h
  have h4 : j ≤ a := by
    rcases h2 with h2 | h2
    · omega
    · rcases Nat.lt_or_ge a j with h | h
      · exact absurd (Int.dvd_trans (pow_div (show a + 1 ≤ j by omega)) hd) h2
      · exact h
  congr 1; omega
/-! classes of residues -/
def spanL (m a b : Int) : List Int := (List.range (m / b).toNat).map fun t : Nat => a + b * (t : Int)
def expL (m : Int) (L : List (Int × Int)) : List Int := L.flatMap fun c => spanL m c.1 c.2
def ClsOk (m : Int) (c : Int × Int) : Prop := 0 ≤ c.1 ∧ c.1 < c.2 ∧ c.2 ∣ m
theorem spanL_length (m a b : Int) : (spanL m a b).length = (m / b).toNat := by simp [spanL]
theorem expL_append (m : Int) (L K : List (Int × Int)) : expL m (L ++ K) = expL m L ++ expL m K := by simp [expL]
theorem expL_one (m : Int) (c : Int × Int) : expL m [c] = spanL m c.1 c.2 := by simp [expL]
theorem span_each {m a b : Int} {f : List Int} (hm : 0 < m) (h0 : 0 ≤ a) (h1 : a < b) (hb : b ∣ m) (h : ∀ y, b ∣ y - a → m ∣ pval f y) : Each (spanL m a b) (RootAt m f b a) := by
  obtain ⟨c, hc⟩ := hb
  have hb0 : 0 < b := by omega
  have hmb : m / b = c := by rw [hc, Int.mul_ediv_cancel_left _ (by omega)]
  have hc0 : 0 < c := by
    rcases (show 0 < c ∨ c ≤ 0 by omega) with h1 | h1
    · exact h1
    · have := Int.mul_le_mul_of_nonneg_left h1 (show 0 ≤ b by omega); omega
  refine ⟨?_, fun y => ?_⟩
  · unfold spanL
    refine List.pairwise_map.2 (List.nodup_range.imp fun {s t} hst e => hst ?_)
    have e2 : b * ((s : Int) - t) = b * 0 := by grind
    have := Int.eq_of_mul_eq_mul_left (by omega) e2
    omega
  · unfold spanL RootAt
    rw [List.mem_map, hmb]
    constructor
    · rintro ⟨t, ht, rfl⟩
      rw [List.mem_range] at ht
      have ht0 : (t : Int) < c := by omega
      have h2 : b * (t : Int) + b ≤ m := by
        have := Int.mul_le_mul_of_nonneg_left (show (t : Int) + 1 ≤ c by omega) (show 0 ≤ b by omega)
        rw [hc]; grind
      have h3 : 0 ≤ b * (t : Int) := Int.mul_nonneg (by omega) (by omega)
      have hd : b ∣ a + b * (t : Int) - a := ⟨t, by omega⟩
      exact ⟨by omega, by omega, hd, h _ hd⟩
    · rintro ⟨y0, y1, ⟨t, ht⟩, h2⟩
      have t0 : 0 ≤ t := by
        rcases (show t < 0 ∨ 0 ≤ t by omega) with h3 | h3
        · have := Int.mul_le_mul_of_nonneg_left (show t ≤ -1 by omega) (show 0 ≤ b by omega); omega
        · exact h3
      have t1 : t < c := by
        rcases (show t < c ∨ c ≤ t by omega) with h3 | h3
        · exact h3
        · have := Int.mul_le_mul_of_nonneg_left h3 (show 0 ≤ b by omega); omega
      exact ⟨t.toNat, by rw [List.mem_range]; omega, by rw [Int.toNat_of_nonneg t0]; omega⟩
theorem expL_len {m : Int} : ∀ {L : List (Int × Int)} (c : Int × Int), (expL m (L ++ [c])).length = (expL m L).length + (m / c.2).toNat := fun c => by
  rw [expL_append, expL_one, List.length_append, spanL_length]
/-! places of the tree -/
theorem list_div {D : Int} {g : List Int} (h : ∀ i, D ∣ g.getD i 0) : ∃ e : List Int, ∀ x, pval g x = D * pval e x := by
  obtain ⟨e, he⟩ := cgp_of (p := D) (f := g) (g := []) fun i => by simpa using h i
  exact ⟨e, fun x => by rw [he x, pval_nil, Int.zero_add]⟩
theorem comp_at (d p : Int) : ∀ h : List Int, ∃ S : List Int, ∀ y, pval h (d + p * y) = pval h d + p * pval S y
  | [] => ⟨[], fun y => by simp only [pval_nil]; omega⟩
  | c :: h => by
    obtain ⟨S, hS⟩ := comp_at d p h
    refine ⟨addL (addL [0, pval h d] S d) (0 :: S) p, fun y => ?_⟩
    rw [pval_cons, pval_cons, hS y, pval_add, pval_add, pval_cons, pval_cons, pval_nil, pval_cons]
    grind
structure TrI (p : Int) (n : Nat) (f g : List Int) (x q : Int) (k : Nat) : Prop where
  hk : k ≤ n
  hq : q = p ^ k
  x0 : 0 ≤ x
  x1 : x < q
  val : ∀ y, p ^ n ∣ pval g y - pval f (x + y * q)
  cof : ∀ i, p ^ k ∣ g.getD i 0
  mod : ModP (p ^ n) g
theorem tr_start {p : Int} (hp : 2 ≤ p) (n : Nat) (f : List Int) : TrI p n f (redL (p ^ n) f) 0 1 0 := by
  refine ⟨by omega, by simp, by omega, by omega, fun y => ?_, fun i => by rw [Int.pow_zero]; exact Int.one_dvd _, redL_mod (pow_pos11 hp n) f⟩
  obtain ⟨h, hh⟩ := redL_cg (p ^ n) f
  rw [hh y, Int.mul_one, Int.zero_add]
  exact ⟨pval h y, by omega⟩
theorem tr_ok {p x q : Int} {n k : Nat} {f g : List Int} (h : TrI p n f g x q k) : ClsOk (p ^ n) (x, q) := ⟨h.x0, h.x1, by rw [h.hq]; exact pow_div h.hk⟩
theorem tr_leaf {p x q : Int} {n k : Nat} {f : List Int} (hp : 2 ≤ p) (h : TrI p n f [] x q k) : Each (expL (p ^ n) [(x, q)]) (RootAt (p ^ n) f q x) := by
  rw [expL_one]
  refine span_each (pow_pos11 hp n) h.x0 h.x1 (tr_ok h).2.2 fun y hy => ?_
  obtain ⟨t, ht⟩ := hy
  have := h.val t
  rw [pval_nil, show x + t * q = y by grind] at this
  obtain ⟨c, hc⟩ := this
  exact ⟨-c, by grind⟩
theorem tr_low {p x q : Int} {n k : Nat} {f g : List Int} (hp : PrimeP p) (h : TrI p n f g x q k) (hg : g ≠ []) : ∃ j, k ≤ j ∧ j < n ∧ gN (p ^ n) g g.length = p ^ j := by
  obtain ⟨j, hj, e⟩ := gN_pow hp n g g.length
  have hd := (gN_dvd (p ^ n) g g.length).2
  have hge := gN_great (m := p ^ n) (d := p ^ k) (l := g) (pow_div h.hk) g.length fun i _ => h.cof i
  rw [e] at hd hge
  refine ⟨j, ?_, ?_, e⟩
  · rcases Nat.lt_or_ge j k with h1 | h1
    · have h2 := pow_lt11 hp.1 h1
      have := Int.le_of_dvd (pow_pos11 hp.1 j) hge
      omega
    · exact h1
  · rcases Nat.lt_or_eq_of_le hj with h1 | h1
    · exact h1
    · subst h1
      refine absurd (modP_zero h.mod fun i => ?_) hg
      rcases Nat.lt_or_ge i g.length with h2 | h2
      · exact hd i h2
      · rw [getD_out h2]; exact Int.dvd_zero _
theorem tr_part {p x q : Int} {n k j : Nat} {f g : List Int} (h : TrI p n f g x q k) (e : gN (p ^ n) g g.length = p ^ j) : ∃ h0 : List Int, ∀ y, pval g y = p ^ j * pval h0 y := by
  have hd := (gN_dvd (p ^ n) g g.length).2
  rw [e] at hd
  refine list_div fun i => ?_
  rcases Nat.lt_or_ge i g.length with h2 | h2
  · exact hd i h2
  · rw [getD_out h2]; exact Int.dvd_zero _
theorem tr_skip {p x q : Int} {n k j : Nat} {f g : List Int} (hp : 2 ≤ p) (h : TrI p n f g x q k) (hj : j < n) (e : gN (p ^ n) g g.length = p ^ j) {d : Int} (hd : ¬ p ^ (j + 1) ∣ pval g d) (y : Int) : ¬ RootAt (p ^ n) f (q * p) (x + d * q) y := by
  rintro ⟨_, _, ⟨t, ht⟩, hy⟩
  obtain ⟨h0, hh⟩ := tr_part h e
  have hv := h.val (d + p * t)
  rw [show x + (d + p * t) * q = y by grind] at hv
  obtain ⟨S, hS⟩ := comp_at d p h0
  apply hd
  have h1 : p ^ (j + 1) ∣ pval g (d + p * t) := by
    refine Int.dvd_trans (pow_div (show j + 1 ≤ n by omega)) ?_
    obtain ⟨a, ha⟩ := hv
    obtain ⟨b, hb⟩ := hy
    exact ⟨a + b, by grind⟩
  obtain ⟨c, hc⟩ := h1
  rw [hh, hS] at hc
  rw [hh]
  exact ⟨c - pval S t, by rw [Int.pow_succ] at hc ⊢; grind⟩
theorem tr_down {p x q : Int} {n k j : Nat} {f g g' : List Int} (hp : PrimeP p) (h : TrI p n f g x q k) (hkj : k ≤ j) (hj : j < n) (e : gN (p ^ n) g g.length = p ^ j) {d : Int} (d0 : 0 ≤ d) (d1 : d < p) (hd : p ^ (j + 1) ∣ pval g d)
    (hm : ModP (p ^ n) g') (hv : ∃ H : List Int, ∀ y, pval g' y = pval g (d + p * y) + p ^ n * pval H y) : TrI p n f g' (x + d * q) (q * p) (k + 1) := by
  obtain ⟨H, hH⟩ := hv
  have hq0 : 0 < q := by rw [h.hq]; exact pow_pos11 hp.1 k
  have x0 := h.x0
  have x1 := h.x1
  have e1 : 0 ≤ d * q := Int.mul_nonneg d0 (by omega)
  have e2 : d * q + q ≤ q * p := by
    have := Int.mul_le_mul_of_nonneg_left (show d + 1 ≤ p by omega) (show 0 ≤ q by omega)
    grind
  refine ⟨by omega, by rw [h.hq, Int.pow_succ], by omega, by omega, fun y => ?_, fun i => ?_, hm⟩
  · obtain ⟨a, ha⟩ := h.val (d + p * y)
    rw [show x + (d + p * y) * q = x + d * q + y * (q * p) by grind] at ha
    exact ⟨a + pval H y, by rw [hH y]; grind⟩
  · obtain ⟨h0, hh⟩ := tr_part h e
    obtain ⟨S, hS⟩ := comp_at d p h0
    obtain ⟨c, hc⟩ := hd
    have hpd : p ∣ pval h0 d := by
      rw [hh, Int.pow_succ] at hc
      have hpj := pow_pos11 hp.1 j
      exact ⟨c, Int.eq_of_mul_eq_mul_left (show p ^ j ≠ 0 by omega) (by grind)⟩
    obtain ⟨u, hu⟩ := hpd
    obtain ⟨w, hw⟩ : p ^ (j + 1) ∣ p ^ n := pow_div (by omega)
    have hcg : CgP (p ^ (j + 1)) g' [] := ⟨addL (addL [u] S 1) H w, fun y => by
      rw [hH y, hh, hS, hu, pval_nil, pval_add, pval_add, pval_cons, pval_nil, hw, Int.pow_succ]
      grind⟩
    have := cgp_coef hcg i
    have h2 : p ^ (j + 1) ∣ g'.getD i 0 := by simpa using this
    exact Int.dvd_trans (pow_div (show k + 1 ≤ j + 1 by omega)) h2
theorem to_skip {m : Int} {f : List Int} {p q x : Int} {d : Nat} {l : List Int} (h : Each l (RootTo m f p q x d)) (hs : ∀ y, ¬ RootAt m f (q * p) (x + (d : Int) * q) y) : Each l (RootTo m f p q x (d + 1)) :=
  h.congr fun y => by rw [rootTo_succ]; exact ⟨.inl, fun h2 => h2.elim id fun h3 => absurd h3 (hs y)⟩
end Go.Proofs.Ytckpeoadglkbgaa
namespace Go.Proofs.Ytckpeoadglkbgaa
open Go.RowKit Go.Shelf
attribute [local go_sem] Oper.semAt_some
set_option linter.unusedVariables false
set_option linter.unusedSimpArgs false
set_option maxRecDepth 20000
/-- Horner's rule with polynomials: f at d + p y -/
def bhL (M d p : Int) (f : List Int) : Nat → List Int
  | 0 => []
  | j + 1 => redL M (addL (prodL M (bhL M d p f j) [d, p]) [f.getD (f.length - 1 - j) 0] 1)
theorem bhL_mod {M : Int} (hM : 0 < M) (d p : Int) (f : List Int) : ∀ j, ModP M (bhL M d p f j)
  | 0 => modP_nil hM
  | j + 1 => redL_mod hM _
theorem bhL_len (M d p : Int) (f : List Int) : ∀ j, (bhL M d p f j).length ≤ j
  | 0 => Nat.le_refl _
  | j + 1 => by
    have h1 := bhL_len M d p f j
    have h2 := prodL_len M (bhL M d p f j) [d, p]
    have h3 := redL_le M (addL (prodL M (bhL M d p f j) [d, p]) [f.getD (f.length - 1 - j) 0] 1)
    have e2 : ([d, p] : List Int).length = 2 := rfl
    have e1 : ([f.getD (f.length - 1 - j) 0] : List Int).length = 1 := rfl
    have e3 : (addL (prodL M (bhL M d p f j) [d, p]) [f.getD (f.length - 1 - j) 0] 1).length = max (prodL M (bhL M d p f j) [d, p]).length ([f.getD (f.length - 1 - j) 0] : List Int).length := by rw [addL, tabL_length]
    rw [bhL]
    omega
theorem pval_two (d p y : Int) : pval [d, p] y = d + p * y := by rw [pval_cons, pval_cons, pval_nil]; grind
theorem bhL_val (M d p : Int) (f : List Int) : ∀ j, ∃ H : List Int, ∀ y, pval (bhL M d p f j) y = evalD f (d + p * y) j + M * pval H y
  | 0 => ⟨[], fun y => by rw [bhL, pval_nil]; show (0 : Int) = 0 + M * 0; omega⟩
  | j + 1 => by
    obtain ⟨H, hH⟩ := bhL_val M d p f j
    obtain ⟨h1, e1⟩ := redL_cg M (addL (prodL M (bhL M d p f j) [d, p]) [f.getD (f.length - 1 - j) 0] 1)
    obtain ⟨h2, e2⟩ := redL_cg M (mulL (bhL M d p f j) [d, p])
    refine ⟨addL (addL h1 h2 1) (mulL H [d, p]) 1, fun y => ?_⟩
    have e3 : evalD f (d + p * y) (j + 1) = evalD f (d + p * y) j * (d + p * y) + f.getD (f.length - 1 - j) 0 := rfl
    have e2' := e2 y
    rw [pval_mul, pval_two] at e2'
    rw [bhL, e1 y, pval_add, show prodL M (bhL M d p f j) [d, p] = redL M (mulL (bhL M d p f j) [d, p]) from rfl, e2', pval_one, e3, pval_add, pval_add, pval_mul, pval_two, hH y]
    grind
theorem bhL_all {M : Int} (d p : Int) (f : List Int) : ∃ H : List Int, ∀ y, pval (bhL M d p f f.length) y = pval f (d + p * y) + M * pval H y := by
  obtain ⟨H, hH⟩ := bhL_val M d p f f.length
  refine ⟨H, fun y => ?_⟩
  rw [hH y]
  congr 1
  rw [evalD_pv f _ f.length (Nat.le_refl _)]
  unfold pval
  exact pv_congr fun i _ => by rw [Nat.sub_self, Nat.zero_add]
/-! memory -/
def RingAt (W : World) (b : Nat) (p q : Int) : Prop := W.heap[b]? = some (.cells #[.int .i64 p, .int .i64 q] 25 (0, 0))
theorem ringAt_cells {W : World} {b : Nat} {p q : Int} (h : RingAt W b p q) : W.cell? ⟨b, 0, none⟩ = some (.int .i64 p) ∧ W.cell? ⟨b, 1, none⟩ = some (.int .i64 q) := by
  unfold RingAt at h
  constructor <;> (unfold World.cell?; rw [show W.heap[(⟨b, _, none⟩ : Addr).block]? = _ from h]; rfl)
theorem ringAt_lt {W : World} {b : Nat} {p q : Int} (h : RingAt W b p q) : b < W.heap.size := World.block_lt_of_cell? _ _ (ringAt_cells h).1
theorem ringAt_put {W : World} {b k : Nat} {p q : Int} {o o' : Obj} (h : RingAt W b p q) (hk : W.heap[k]? = some o) (ho : o.isCells = false) : RingAt (W.putObj k o') b p q := by
  have hne : b ≠ k := by
    rintro rfl
    unfold RingAt at h
    rw [h] at hk; cases hk; cases ho
  exact (World.putObj_heap_other hne).trans h
theorem ringAt_below {W W' : World} {b : Nat} {p q : Int} (h : RingAt W b p q) (hb : Below W.heap.size W W') : RingAt W' b p q := (hb.block b (ringAt_lt h)).trans h
theorem ringAt_set {W : World} {b : Nat} {p q : Int} (h : RingAt W b p q) {a : Addr} (ha : b ≠ a.block) (x : Value) : RingAt (W.setCell a x) b p q := by
  have e : (W.setCell a x).heap[b]? = W.heap[b]? := Below.heap_setCell _ _ _ _ ha
  exact e.trans h
theorem row_set11 {b : Nat} {w : World} {v : Value} {l : List Int} {a : Addr} (h : IntRow b w v l) (ha : a.block < b) (x : Value) : IntRow b (w.setCell a x) v l := by
  refine World.ownsRow.kept (row := some a.block) h ⟨rfl, rfl, rfl, Nat.le_of_eq (World.size_setCell _ _ _).symm, fun j hj hne => Below.heap_setCell _ _ _ _ (fun e => hne (by rw [e]))⟩ ?_
  cases hv : v.ownBlock with
  | none => exact .inl rfl
  | some k =>
    right
    intro he
    have h1 := h.lt k hv
    injection he with he
    omega
theorem seen_two11 (w : World) (x y : Int) (T : TypeId) : Seen (w.alloc (.cells #[.int .i64 x, .int .i64 y] T)) (some ⟨w.heap.size, 0, none⟩) 2 2 [x, y] := by
  refine ⟨rfl, by omega, (fun h => by cases h), Nat.le_refl _, w.heap.size, fun _ => ⟨rfl, by simp⟩, fun k hk => ?_⟩
  have : k = 0 ∨ k = 1 := by omega
  rcases this with rfl | rfl
  · rw [World.cell?_alloc_new]; rfl
  · rw [World.cell?_alloc_new]; rfl
theorem seen_one12 (w : World) (v : Int) (T : TypeId) : Seen (w.alloc (.cells #[.int .i64 v] T)) (some ⟨w.heap.size, 0, none⟩) 1 1 [v] := by
  refine ⟨rfl, by omega, (fun h => by cases h), Nat.le_refl _, w.heap.size, fun _ => ⟨rfl, by simp⟩, fun k hk => ?_⟩
  obtain rfl : k = 0 := by omega
  rw [World.cell?_alloc_new]; rfl
/-- what holds at the head of each round -/
def BdI (w : World) (M p q d : Int) (f : List Int) (pre : List (Nat × Int)) (W : World) : Prop :=
  RingAt W w.heap.size p q ∧ Boxed W (w.heap.size + 1) 2 (.int .i64 d) ∧ (∃ v, Boxed W (w.heap.size + 1 + 1) 26 v ∧ IntRow (w.heap.size + 1 + 1 + 1 + 1) W v (bhL M d p f pre.length)) ∧ Below w.heap.size w W ∧ w.heap.size + 1 + 1 + 1 + 1 ≤ W.heap.size
theorem bdI_put {w W : World} {M p q d : Int} {f : List Int} {pre : List (Nat × Int)} {k : Nat} {o o' : Obj} (h : BdI w M p q d f pre W) (hb : w.heap.size ≤ k) (hk : W.heap[k]? = some o) (ho : o.isCells = false) : BdI w M p q d f pre (W.putObj k o') := by
  obtain ⟨h1, h2, ⟨v, h3, h4⟩, h5⟩ := h
  exact ⟨ringAt_put h1 hk ho, boxed_put8 h2 hk ho, ⟨v, boxed_put8 h3 hk ho, row_put8 h4 hk ho⟩, below_put8 h5.1 hb, by have := h5.2; simp [World.putObj]; omega⟩
theorem bdI_below {w A B : World} {M p q d : Int} {f : List Int} {pre : List (Nat × Int)} (h : BdI w M p q d f pre A) (hs : StU8 A B) : BdI w M p q d f pre B := by
  obtain ⟨h1, h2, ⟨v, h3, h4⟩, h5⟩ := h
  exact ⟨ringAt_below h1 hs, boxed_below8 h2 hs, ⟨v, boxed_below8 h3 hs, row_below h4 hs (Nat.le_refl _)⟩, h5.1.trans (hs.mono h5.1.size), Nat.le_trans h5.2 hs.size⟩
theorem res_two {d p : Int} (d0 : 0 ≤ d) (d1 : d ≤ 1000000000) (p0 : 0 ≤ p) (p1 : p ≤ 1000000000) : Res9 [d, p] := fun i => by
  match i with
  | 0 => exact ⟨d0, d1⟩
  | 1 => exact ⟨p0, p1⟩
  | i + 2 => simp
theorem res_one {d : Int} (d0 : 0 ≤ d) (d1 : d ≤ 1000000000) : Res9 [d] := fun i => by
  match i with
  | 0 => exact ⟨d0, d1⟩
  | i + 1 => simp
set_option maxHeartbeats 4000000 in
theorem behind_any {p q M d : Int} (hR : ringM p q = M) (h0 : ringM p q ≠ 0) (d0 : 0 ≤ d) (d1 : d < p) {o : Option Addr} {n c : Nat} {f : List Int} {w : World} (h : Seen w o n c f) (hf : ModP M f) (hn9 : n ≤ 9) :
    Calls Try.prog 97 #[.agg #[.int .i64 p, .int .i64 q], .slice o n c, .int .i64 d] w (OwnPost (bhL M d p f f.length) w) := by
  obtain ⟨hp2, hp97, hn1, hn2, m2, m9, hpm⟩ := ringM_bd h0
  rw [hR] at m2 m9 hpm
  obtain ⟨hl, hn, hno, hnc, g, h1, h2⟩ := h
  subst hl
  obtain ⟨bf, hbl, hbo, hbc⟩ : ∃ b, b < w.heap.size + 1 ∧ (0 < f.length → o = some ⟨b, 0, none⟩) ∧ ∀ W, Below w.heap.size w W → ∀ k, k < f.length → W.cell? ⟨b, k, none⟩ = some (.int .i64 (f.getD k 0)) := by
    by_cases h0 : 0 < f.length
    · exact ⟨g, by have := (h1 h0).2; omega, fun _ => (h1 h0).1, fun W hb k hk => by rw [hb.cell (p := ⟨g, k, none⟩) (h1 h0).2]; exact h2 k hk⟩
    · exact ⟨w.heap.size, by omega, fun h => absurd h h0, fun _ _ k hk => absurd hk (by omega)⟩
  have HBF := Lib.hid (show 0 < f.length → bf < w.heap.size by
    intro hp
    have := (h1 hp).1
    have e := hbo hp
    rw [this] at e
    injection e with e
    injection e with e
    rw [← e]; exact (h1 hp).2)
  have HC := Lib.hid hbc
  have HO := Lib.hid hbo
  have HF := Lib.hid hf
  have HAG := Lib.hid hbl
  have HPR := Lib.hid fun (W : World) (o1 : Option Addr) (n1 c1 : Nat) (f1 : List Int) (h1 : Seen W o1 n1 c1 f1) (o2 : Option Addr) (n2 c2 : Nat) (f2 : List Int) (h2 : Seen W o2 n2 c2 f2) (r1 : Res9 f1) (r2 : Res9 f2) (k1 : n1 ≤ 20) (k2 : n2 ≤ 20) => productR_any hR m2 m9 h1 h2 r1 r2 k1 k2
  have HSU := Lib.hid fun (W : World) (o1 : Option Addr) (n1 c1 : Nat) (f1 : List Int) (h1 : Seen W o1 n1 c1 f1) (o2 : Option Addr) (n2 c2 : Nat) (f2 : List Int) (h2 : Seen W o2 n2 c2 f2) (r1 : Res9 f1) (r2 : Res9 f2) (k1 : n1 ≤ 20) (k2 : n2 ≤ 20) => sumR_any hR m2 m9 h1 h2 r1 r2 k1 k2
  have HN9 := Lib.hid hn
  clear hno hnc h1 h2 hf hn hbl hbo hbc g h0 hR
  refine (callsIn_wide (n := 4)).1 ?_
  refine callsIn_of_wp_marks Try.func97 rfl trivial ?_ rfl
  simp only [Try.ntmps97, List.size_toArray, List.length_cons, List.length_nil, Nat.reduceAdd, Nat.reduceSub, Array.replicate_succ, Array.replicate_zero, List.push_toArray, List.append_toArray, List.nil_append, List.cons_append]
  refine wpIn_wide.2 ?_
  go_wp2_with fail
  refine (backward8_made _ _ _ _).mono ?_
  rintro e W8 ⟨rfl, rfl⟩
  go_wp2_with fail
  obtain ⟨W9, hW9⟩ : ∃ W9, (((w.alloc (.cells #[.int .i64 p, .int .i64 q] 25)).alloc (.cells #[.int .i64 d] 2)).alloc (.cells #[.slice none 0 0] 26)).alloc (.cells #[.slice o f.length c] 26) = W9 := ⟨_, rfl⟩
  have b1 := below_a8 w (.cells #[.int .i64 p, .int .i64 q] 25)
  have b2 := b1.alloc (by simp) (.cells #[.int .i64 d] 2)
  have b3 := b2.alloc (by simp; omega) (.cells #[.slice none 0 0] 26)
  have b4 := b3.alloc (by simp; omega) (.cells #[.slice o f.length c] 26)
  have r1 : RingAt (w.alloc (.cells #[.int .i64 p, .int .i64 q] 25)) w.heap.size p q := World.alloc_heap_new w _
  have r4 := ringAt_below (ringAt_below (ringAt_below r1 (below_a8 _ (.cells #[.int .i64 d] 2))) (below_a8 _ (.cells #[.slice none 0 0] 26))) (below_a8 _ (.cells #[.slice o f.length c] 26))
  have x2 := Boxed.new (w.alloc (.cells #[.int .i64 p, .int .i64 q] 25)) 2 (.int .i64 d)
  have x4 := boxed_below8 (boxed_below8 x2 (below_a8 _ (.cells #[.slice none 0 0] 26))) (below_a8 _ (.cells #[.slice o f.length c] 26))
  have y3 := Boxed.new ((w.alloc (.cells #[.int .i64 p, .int .i64 q] 25)).alloc (.cells #[.int .i64 d] 2)) 26 (.slice none 0 0)
  have y4 := boxed_below8 y3 (below_a8 _ (.cells #[.slice o f.length c] 26))
  have z4 := Boxed.new (((w.alloc (.cells #[.int .i64 p, .int .i64 q] 25)).alloc (.cells #[.int .i64 d] 2)).alloc (.cells #[.slice none 0 0] 26)) 26 (.slice o f.length c)
  rw [World.size_alloc] at x4
  rw [World.size_alloc, World.size_alloc] at y4
  rw [World.size_alloc, World.size_alloc, World.size_alloc] at z4
  rw [hW9] at b4 r4 x4 y4 z4
  have HB := Lib.hid b4
  have HRA := Lib.hid r4
  have HX := Lib.hid x4
  have HY := Lib.hid y4
  have HKB := Lib.hid z4
  clear b1 b2 b3 b4 r1 r4 x2 x4 y3 y4 z4
  go_wp2_with fail
  rw [hW9]
  clear hW9
  refine (wpIn_wide (n := 4)).1 ?_
  have hsz := HB.out.size
  have hkl : w.heap.size + 1 + 1 + 1 < W9.heap.size := HKB.out.lt
  have hgl := HAG.out
  refine wpIn_rangeBb (F := Fence.wide) (n := 4) (P := Try.prog) (w := W9) rfl (by omega) (gf := 109) (ba := #[]) (lb := #[.pointer (some ⟨w.heap.size + 1 + 1 + 1, 0, none⟩)]) rfl trivial (enters_of Try.func109 (by kernel_rfl) rfl)
    (backwardO_by 3 (by omega) o bf (w.heap.size + 1 + 1 + 1) c f HO.out HN9.out) (fun _ => rfl)
    (BdI w M p q d f) (fun _ _ => False)
    (fun y => { tmps := #[.agg #[.int .i64 p, .int .i64 q], .slice o f.length c, .int .i64 d, .pointer (some ⟨w.heap.size, 0, none⟩), undef, .pointer (some ⟨w.heap.size + 1, 0, none⟩), .slice none 0 0, .pointer (some ⟨w.heap.size + 1 + 1, 0, none⟩), undef, .int .i64 y.2, .slice o f.length c, .func (.func 109) #[] #[.pointer (some ⟨w.heap.size + 1 + 1 + 1, 0, none⟩)], .int .i64 y.1, .int .i64 y.2, undef, undef, undef, undef, undef, undef, undef, undef, undef, undef, undef, undef, undef], defers := [] })
    ?ip ?xp ?fp ?fq ?ft ?is ?xs ?sk ?h0 ?s0 ?assign ?body ?done ?stop
  case ip => intro pre W k u u' h hk hu hc; exact bdI_put h (by omega) hu hc
  case xp => intro _ _ _ _ _ h; exact h.elim
  case fp => intro A W k u u' hf hk hu hc; exact fr8_put hf (by omega) (by omega)
  case fq => intro W k u u' hk hu hc; exact fr8_put (fun _ _ => rfl) (by omega) (by omega)
  case ft => intro A B C h k; exact fr8_trans h k
  case is => intro pre A B h hs; exact bdI_below h hs
  case xs => intro _ _ _ h; exact h.elim
  case sk => intro A B k u hs hk hu hc; exact (hs.block k (Array.getElem?_eq_some_iff.1 hu).1).trans hu
  case h0 =>
    intro oo oo'
    have hbb : Below W9.heap.size W9 ((W9.alloc oo).alloc oo') := (below_a8 W9 oo).alloc (by simp) oo'
    exact ⟨ringAt_below HRA.out hbb, boxed_below8 HX.out hbb, ⟨_, boxed_below8 HY.out hbb, intRow_nil _ _⟩, HB.out.trans (hbb.mono hsz), by have := hbb.size; omega⟩
  case s0 =>
    intro oo oo'
    have hbb : Below W9.heap.size W9 ((W9.alloc oo).alloc oo') := (below_a8 W9 oo).alloc (by simp) oo'
    exact ⟨boxed_below8 HKB.out hbb, fun k hk => HC.out _ (HB.out.trans (hbb.mono hsz)) k hk⟩
  case assign =>
    intro lp y W K hK
    gi_wp2
    exact hK
  case body =>
    rintro lp pre y W hsp ⟨hra, hx, ⟨v, hv, hrow⟩, hb, hWs⟩
    obtain ⟨hk, hy⟩ := bk8_last hsp
    have hpl : pre.length < f.length := hk
    have hyr := HF.out.rng (f.length - 1 - pre.length)
    rw [← hy] at hyr
    obtain ⟨z, hz⟩ : ∃ z, y.2 = z := ⟨_, rfl⟩
    rw [hz] at hyr hy ⊢
    have hbl := bhL_len M d p f pre.length
    have hbm := bhL_mod (M := M) (by omega) d p f pre.length
    have hnext : bhL M d p f (pre ++ [y]).length = redL M (addL (prodL M (bhL M d p f pre.length) [d, p]) [z] 1) := by rw [List.length_append, List.length_singleton, bhL, hy]
    have HNX := Lib.hid hnext
    obtain ⟨B, hB⟩ : ∃ B, bhL M d p f pre.length = B := ⟨_, rfl⟩
    rw [hB] at hrow hbl hbm HNX
    have hpl2 := prodL_len M B [d, p]
    have e2 : ([d, p] : List Int).length = 2 := rfl
    have hpm2 : ModP M (prodL M B [d, p]) := redL_mod (by omega) _
    obtain ⟨o1, c1, rfl⟩ := row_slice hrow
    obtain ⟨r0, r1⟩ := ringAt_cells hra
    have q2 := hx.cell
    have q3 := hv.cell
    have hbs := hb.size
    have HRA2 := Lib.hid hra
    have HX2 := Lib.hid hx
    have HV2 := Lib.hid hv
    have HB2 := Lib.hid hb
    have HSEEN := Lib.hid (row_seen hrow (by omega))
    have HRB := Lib.hid (modP_res9 m9 hbm)
    have HRB2 := Lib.hid (modP_res9 m9 hpm2)
    have HR2 := Lib.hid (res_two (d := d) (p := p) d0 (by omega) (by omega) (by omega))
    have HRZ := Lib.hid (res_one (d := z) hyr.1 (by omega))
    have HFB := Lib.hid (HBF.out (by omega))
    obtain ⟨B2, hB2⟩ : ∃ B2, prodL M B [d, p] = B2 := ⟨_, rfl⟩
    have HB2E := Lib.hid hB2
    rw [hB2] at hpl2 HNX HRB2
    have hl20 : B.length ≤ 20 := by omega
    have hl21 : B2.length ≤ 20 := by omega
    have hnc : w.heap.size + 1 + 1 < W.heap.size := by omega
    clear hsp hk hy hpl hnext hB hpm2 hbm hra hx hv hb hrow hz
    gi_wp2_with (first
      | (refine ⟨trivial, ?_⟩; gi_at_call 113; refine (CallsIn.inRound lp (callsIn_wide.2 (HPR.out _ _ _ _ _ (seen_al HSEEN.out _) _ _ _ _ (seen_two11 W d p 2) HRB.out HR2.out hl20 (by omega)))).mono ?_; rw [HB2E.out]; rintro e W2 ⟨v1, rfl, hr1, hb1⟩
         obtain ⟨o2, c2, rfl⟩ := row_slice hr1
         have hb1' := (below_a8 W (.cells #[.int .i64 d, .int .i64 p] 2)).trans (hb1.mono (by simp))
         have hv2 := boxed_below8 HV2.out hb1'
         have hv3 := hv2.set (.slice o2 B2.length c2)
         have hra3 := ringAt_set (ringAt_below HRA2.out hb1') (a := ⟨w.heap.size + 1 + 1, 0, none⟩) (by show w.heap.size ≠ w.heap.size + 1 + 1; omega) (.slice o2 B2.length c2)
         have hx3 := boxed_set8 (boxed_below8 HX2.out hb1') (a := ⟨w.heap.size + 1 + 1, 0, none⟩) (by show w.heap.size + 1 ≠ w.heap.size + 1 + 1; omega) (.slice o2 B2.length c2)
         have hseen3 := row_seen (row_set11 hr1 (a := ⟨w.heap.size + 1 + 1, 0, none⟩) (by show w.heap.size + 1 + 1 < (W.alloc _).heap.size; simp; omega) (.slice o2 B2.length c2)) (by omega)
         have hs1 := hb1'.size
         have hone := seen_one12 (W2.setCell ⟨w.heap.size + 1 + 1, 0, none⟩ (.slice o2 B2.length c2)) z 2
         rw [World.size_setCell] at hone
         have HONE := Lib.hid hone
         clear hone
         have p2 := hv2.cell
         have p2f := hv2.frozen
         have p3 := hv3.cell
         obtain ⟨s0, s1⟩ := ringAt_cells hra3
         have HST := Lib.hid (And.intro hb1' (And.intro hv3 (And.intro hra3 (And.intro hx3 hseen3))))
         clear hb1' hv2 hv3 hra3 hx3 hseen3 hb1 hr1 q2 q3 r0 r1)
      | (refine ⟨trivial, ?_⟩; gi_at_call 114; refine (CallsIn.inRound lp (callsIn_wide.2 (HSU.out _ _ _ _ _ (seen_al HST.out.2.2.2.2 _) _ _ _ _ HONE.out HRB2.out HRZ.out hl21 (by omega)))).mono ?_; rintro e W5 ⟨v2, rfl, hr2, hb2⟩
         obtain ⟨o3, c3, rfl⟩ := row_slice hr2
         obtain ⟨hb1', hv3, hra3, hx3, hseen3⟩ := HST.out
         obtain ⟨W3, hW3⟩ : ∃ W3, W2.setCell ⟨w.heap.size + 1 + 1, 0, none⟩ (.slice o2 B2.length c2) = W3 := ⟨_, rfl⟩
         have hk3 : KeepsOthers W2 W3 := by rw [← hW3]; exact KeepsOthers.setCell _ _ _
         have hh3 : ∀ j, j ≠ w.heap.size + 1 + 1 → W3.heap[j]? = W2.heap[j]? := fun j hj => by rw [← hW3]; exact Below.heap_setCell _ _ _ _ hj
         have hz3 : W3.heap.size = W2.heap.size := by rw [← hW3]; exact World.size_setCell _ _ _
         have hB3 : Below w.heap.size w W3 := by rw [← hW3]; exact (HB2.out.trans (hb1'.mono hbs)).setCell (p := ⟨w.heap.size + 1 + 1, 0, none⟩) (show w.heap.size ≤ w.heap.size + 1 + 1 by omega) _
         rw [hW3] at hr2 hb2 hv3 hra3 hx3 hseen3
         have hb2' := (below_a8 W3 (.cells #[.int .i64 z] 2)).trans (hb2.mono (by simp))
         have hv5 := boxed_below8 hv3 hb2'
         have hx5 := boxed_below8 hx3 hb2'
         have hra5 := ringAt_below hra3 hb2'
         have hB5 := hB3.trans (hb2'.mono hB3.size)
         have t2 := hv5.cell
         have t2f := hv5.frozen
         have hs5 := hb2'.size
         have hF5 : Fr8 bf (w.heap.size + 1 + 1 + 1) W W5 := by
           intro j hj
           have hj1 : j < W.heap.size := by have := HFB.out; rcases hj with rfl | rfl <;> omega
           have hj2 : j ≠ w.heap.size + 1 + 1 := by have := HFB.out; rcases hj with rfl | rfl <;> omega
           rw [hb2'.block j (by omega), hh3 j hj2, hb1'.block j hj1]
         have hK5 : KeepsOthers W W5 := (keeps_below8 hb1').trans (hk3.trans (keeps_below8 hb2'))
         have HFIN := Lib.hid (And.intro hF5 (And.intro hK5 (And.intro hv5 (And.intro hx5 (And.intro hra5 (And.intro hB5 hr2))))))
         have hQ5 : w.heap.size + 1 + 1 + 1 + 1 ≤ W5.heap.size := by omega
         clear hF5 hK5 hv5 hx5 hra5 hB5 hr2 hb2 hb2' hB3 hh3 hk3 hv3 hra3 hx3 hseen3 hb1' HST p3 p2 p2f s0 s1))
    obtain ⟨hF5, hK5, hv5, hx5, hra5, hB5, hr2⟩ := HFIN.out
    refine ⟨hK5.trans (KeepsOthers.setCell _ _ _), ?_, ringAt_set hra5 (by show w.heap.size ≠ w.heap.size + 1 + 1; omega) _, boxed_set8 hx5 (by show w.heap.size + 1 ≠ w.heap.size + 1 + 1; omega) _, ⟨_, hv5.set _, ?_⟩, hB5.setCell (p := ⟨w.heap.size + 1 + 1, 0, none⟩) (show w.heap.size ≤ w.heap.size + 1 + 1 by omega) _, by rw [World.size_setCell]; exact hQ5⟩
    · exact fr8_trans hF5 fun j hj => Below.heap_setCell _ _ _ _ (by show j ≠ w.heap.size + 1 + 1; have := HFB.out; rcases hj with rfl | rfl <;> omega)
    · rw [HNX.out]
      exact intRow_lower (row_set11 hr2 (a := ⟨w.heap.size + 1 + 1, 0, none⟩) (by show w.heap.size + 1 + 1 < (W3.alloc _).heap.size; simp; omega) _) (by simp; omega)
  case done =>
    rintro D xs W hD rfl ⟨hra, hx, ⟨v, hv, hrow⟩, hb, hWs⟩ hK
    rw [bk8_length] at hrow
    obtain ⟨o1, c1, rfl⟩ := row_slice hrow
    have q2 := hv.cell
    have HB9 := Lib.hid hb
    have HKD := Lib.hid hK
    have HRW := Lib.hid hrow
    have hDw : w.heap.size ≤ D := by omega
    clear hra hx hv hb hK hrow
    go_wp2_with fail
    refine ⟨by simp, .inl ⟨_, _, rfl, run_takeDeferred HKD.out, ?_⟩⟩
    refine ⟨.slice o1 (bhL M d p f f.length).length c1, by simp [results, Try.results97, go_sem], ?_⟩
    exact ⟨_, rfl, intRow_lower (row_put8 HRW.out HKD.out rfl) (by omega), below_put8 HB9.out hDw⟩
  case stop => intro _ _ _ _ _ h; exact h.elim
end Go.Proofs.Ytckpeoadglkbgaa
namespace Go.Proofs.Ytckpeoadglkbgaa
open Go.RowKit
set_option linter.unusedVariables false
set_option linter.unusedSimpArgs false
set_option maxRecDepth 20000
theorem simple_of {p a : Int} {f : List Int} (hp : 0 < p) (h : simB p f a = true) : SimpleR p f a := by
  simp only [simB, Bool.and_eq_true, beq_iff_eq, Bool.not_eq_true', beq_eq_false_iff_ne] at h
  exact ⟨(vM_zero hp f a).1 h.1, fun k => h.2 ((vM_zero hp _ a).2 k)⟩
theorem step_unit {p n a x : Int} {k : Nat} {f : List Int} (h0 : ringM p n ≠ 0) (h : OnWay p n.toNat f a k x) (hs : SimpleR p f a) :
    p ^ n.toNat ∣ bezX (vM (p ^ n.toNat) (derL f) x) (p ^ n.toNat) % p ^ n.toNat * vM (p ^ n.toNat) (derL f) x - 1 := by
  obtain ⟨hp2, _, hn1, _, m2, m9, _⟩ := ringM_bd h0
  have e := (ringM_in h0).2.2.2
  rw [← e]
  obtain ⟨d0, d1⟩ := vM_range (m := ringM p n) (by omega) (derL f) x
  have hD : vM (ringM p n) (derL f) x % p ≠ 0 := by
    intro hz
    refine der_stays h.2.2.1 hs.2 ?_
    obtain ⟨c, hc⟩ := Int.dvd_of_emod_eq_zero hz
    obtain ⟨d, hd⟩ := vM_dvd (ringM p n) (derL f) x
    obtain ⟨t, ht⟩ : p ∣ ringM p n := by
      rw [e]
      exact ⟨p ^ (n.toNat - 1), by rw [← Int.pow_succ']; congr 1; omega⟩
    exact ⟨c - t * d, by rw [hc, ht] at hd; grind⟩
  have h1 := bez_inverse d0 d1 m2 m9 (coprime_ring h0 hD)
  rw [Int.mul_comm] at h1
  have h2 := Int.emod_add_mul_ediv (bezX (vM (ringM p n) (derL f) x) (ringM p n) % ringM p n * vM (ringM p n) (derL f) x) (ringM p n)
  rw [h1] at h2
  exact ⟨_, by rw [← h2, Int.add_comm, Int.add_sub_cancel]⟩
theorem way_next {p n a x : Int} {k : Nat} {f : List Int} (h0 : ringM p n ≠ 0) (hk : 1 ≤ k) (hkn : k ≤ n.toNat) (h : OnWay p n.toNat f a k x) (hs : SimpleR p f a) :
    OnWay p n.toNat f a (min (2 * k) n.toNat) (stepV (ringM p n) f x) := by
  obtain ⟨hp2, _, hn1, _, m2, m9, _⟩ := ringM_bd h0
  have e := (ringM_in h0).2.2.2
  have := onway_step hp2 hk hkn h (step_unit h0 h hs) (by rw [← e]; omega)
  unfold stepV
  rw [e]
  exact this
set_option maxHeartbeats 1000000 in
theorem l11Lift_any (p n a : Int) (h0 : ringM p n ≠ 0) (a0 : 0 ≤ a) (a1 : a < p) {o : Option Addr} {k c : Nat} {f : List Int} {w : World} (h : Seen w o k c f) (hp : polyB f = true) (hs : SimpleR p f a) :
    Calls Try.prog 58 #[.agg #[.int .i64 p, .int .i64 n], .slice o k c, .int .i64 a] w fun e w' => ∃ x, e = .returned (.int .i64 x) ∧ LiftOf p n.toNat f a x ∧ Below w.heap.size w w' := by
  obtain ⟨hp2, hp97, hn1, hn2, hm1, hm2, _⟩ := ringM_bd h0
  have H := Lib.hid (And.intro (ringM_in h0).1 (And.intro hn1 (show n ≤ 1000 by omega)))
  have HS := Lib.hid h
  have HP := Lib.hid hp
  have HQ := Lib.hid hs
  have H0 := Lib.hid h0
  have hst := Lib.hid (onway_start (n := n.toNat) hp2 (by omega) a0 a1 hs)
  have HM := Lib.hid (ringM_in h0).2.2.2
  clear h hp hs h0
  go_enter Try.func58, Try.ntmps58
  go_wp2_with (go_at_call 66; refine (l02Modulus_any _ _ _ H.out.1 H.out.2.1 H.out.2.2).mono ?_; rintro e wn ⟨rfl, rfl⟩)
  go_loopw [2, 8] (fun v i wr => ∃ (x N : Int) (j : Nat), v = .int .i64 x ∧ i = .int .i64 N ∧ N = (j : Int) ∧ 1 ≤ j ∧ j ≤ 60 ∧ OnWay p n.toNat f a (min j n.toNat) x ∧ Below w.heap.size w wr ∧ wr.cell? ⟨w.heap.size, 0, none⟩ = some (.int .i64 p) ∧ wr.cell? ⟨w.heap.size, 1, none⟩ = some (.int .i64 n)) (fun _ i _ => (60 - intOf i).toNat)
  case atStart => exact ⟨a, 1, 1, rfl, rfl, rfl, by omega, by omega, by rw [show min 1 n.toNat = 1 by omega]; exact hst.out, (Below.refl _ _).alloc (Nat.le_refl _) _, World.cell?_alloc_new _ _ _ _ ▸ rfl, World.cell?_alloc_new _ _ _ _ ▸ rfl⟩
  case round =>
    obtain ⟨x, N, j, rfl, rfl, hN, hj1, hj2, hW, hB, c0, c1⟩ := hrel
    by_cases hlt : N < n
    · have hjn : j < n.toNat := by omega
      rw [show min j n.toNat = j by omega] at hW
      have HN := Lib.hid (way_next H0.out hj1 (by omega) hW HQ.out)
      have hx0 := hW.1
      have hx1 : x ≤ 1000000000 := by have := hW.2.1; have := HM.out; omega
      have HB := Lib.hid hB
      have w1 : IntKind.i64.wrap (2 * N) = 2 * N := IntWalk.i64_in _ (by omega)
      have HNJ := Lib.hid hN
      clear hW hN
      go_wp2_with (go_at_call 65; refine (l11Step_any _ _ hm1 hm2 hx0 hx1 (seen_below HS.out HB.out) HP.out).mono ?_; rintro e wn ⟨rfl, hb3⟩)
      obtain ⟨hB2, d0, d1⟩ := keep11 ⟨HB.out, c0, c1⟩ hb3
      exact ⟨⟨_, _, 2 * j, rfl, rfl, by have := HNJ.out; push_cast; omega, by omega, by omega, HN.out, hB2, d0, d1⟩, by have := HNJ.out; simp only [intOf]; omega⟩
    · have HL := Lib.hid (show LiftOf p n.toNat f a x by rw [show min j n.toNat = n.toNat by omega] at hW; exact onway_lift hW)
      have HB := Lib.hid hB
      clear hW hN hB
      go_wp2_with fail
      go_ret
      exact ⟨x, rfl, HL.out, HB.out⟩
end Go.Proofs.Ytckpeoadglkbgaa
namespace Go.Proofs.Ytckpeoadglkbgaa
open Go.RowKit
set_option linter.unusedVariables false
set_option linter.unusedSimpArgs false
set_option maxRecDepth 20000
def lifC (p n : Int) (f : List Int) (a : Int) : Int := if ringM p n = 0 then 1 else if polyB f = false then 1 else if 0 ≤ a ∧ a < p then (if simB p f a then 0 else 5) else 2
/-- the answer of LiftRoot: there is only one such number -/
def LifP (p n : Int) (f : List Int) (a : Int) (w : World) (e : Ending) (w' : World) : Prop :=
  ∃ x, e = .returned (.tuple #[.int .i64 x, .int .i64 (lifC p n f a)]) ∧ (lifC p n f a = 0 → LiftOf p n.toNat f a x) ∧ (lifC p n f a ≠ 0 → x = 0) ∧ Below w.heap.size w w'
theorem lifC_zero {p n a : Int} {f : List Int} (h : lifC p n f a = 0) : ringM p n ≠ 0 ∧ polyB f = true ∧ 0 ≤ a ∧ a < p ∧ simB p f a = true := by
  unfold lifC at h
  split at h
  · omega
  · split at h
    · omega
    · rename_i h0 h1
      split at h
      · rename_i h2
        split at h
        · rename_i h3; exact ⟨h0, by simpa using h1, h2.1, h2.2, h3⟩
        · omega
      · omega
theorem lif_one {p n a x y : Int} {f : List Int} (h : lifC p n f a = 0) (hx : LiftOf p n.toNat f a x) (hy : LiftOf p n.toNat f a y) : x = y := by
  obtain ⟨h0, _, _, _, h4⟩ := lifC_zero h
  obtain ⟨hp2, _⟩ := ringM_bd h0
  exact lift_one (small_prime (ringM_in h0).1).2.2 (simple_of (by omega) h4) hx hy
set_option maxHeartbeats 1000000 in
theorem specLiftRoot_any (p n a : Int) {o : Option Addr} {k c : Nat} {f : List Int} {w : World} (h : Seen w o k c f) :
    Calls Try.prog 16 #[.agg #[.int .i64 p, .int .i64 n], .slice o k c, .int .i64 a] w (LifP p n f a w) := by
  have HS := Lib.hid h
  clear h
  unfold LifP
  by_cases h0 : ringM p n = 0
  · have hd := ringB_f h0
    rw [show lifC p n f a = 1 by simp [lifC, h0]]
    clear h0
    go_enter Try.func16, Try.ntmps16
    go_wp2_with (first | (go_at_call 47; refine (specIsRing_any _ _ _).mono ?_; rintro e wn ⟨rfl, hb⟩; have hH := keep_first hb; obtain ⟨hB, c0, c1⟩ := hH))
    go_ret2
    exact ⟨0, rfl, by simp, by simp, hB⟩
  have hd := ringB_t h0
  obtain ⟨hp2, hp97, hn1, hn2, hm1, hm2, _⟩ := ringM_bd h0
  have H0 := Lib.hid h0
  cases hp : polyB f
  · rw [show lifC p n f a = 1 by simp [lifC, h0, hp]]
    clear h0
    go_enter Try.func16, Try.ntmps16
    go_wp2_with (first | (go_at_call 47; refine (specIsRing_any _ _ _).mono ?_; rintro e wn ⟨rfl, hb⟩; have hH := keep_first hb; obtain ⟨hB, c0, c1⟩ := hH) | (go_at_call 48; refine (specIsPoly_any (seen_below HS.out hB)).mono ?_; rw [hp]; rintro e w2 ⟨rfl, rfl⟩))
    go_ret2
    exact ⟨0, rfl, by simp, by simp, hB⟩
  have HP := Lib.hid hp
  have hp9 : p ≤ 1000000000 := by omega
  have hw1 : IntKind.i64.wrap (p - 1) = p - 1 := IntWalk.i64_in _ (by omega)
  by_cases ha : 0 ≤ a ∧ a < p
  · have hi : inB a 0 (p - 1) = true := inB_t ha.1 (by omega)
    have ha0 := ha.1
    have ha1 := ha.2
    have ha9 : a ≤ 1000000000 := by omega
    cases hsm : simB p f a
    · rw [show lifC p n f a = 5 by simp [lifC, h0, hp, ha, hsm]]
      clear h0 ha
      go_enter Try.func16, Try.ntmps16
      go_wp2_with (first | (go_at_call 47; refine (specIsRing_any _ _ _).mono ?_; rintro e wn ⟨rfl, hb⟩; have hH := keep_first hb; obtain ⟨hB, c0, c1⟩ := hH) | (go_at_call 48; refine (specIsPoly_any (seen_below HS.out hB)).mono ?_; rw [hp]; rintro e w2 ⟨rfl, rfl⟩) | (go_at_call 56; refine (in_any _ _ _ _).mono ?_; rw [hi]; rintro e w2 ⟨rfl, rfl⟩) | (go_at_call 57; refine (l11Simple_any _ _ hp2 hp9 ha0 ha9 (seen_below HS.out hB) HP.out).mono ?_; rw [hsm]; rintro e wn ⟨rfl, hb2⟩; have hH := keep_next ⟨hB, c0, c1⟩ hb2; clear hB c0 c1; obtain ⟨hB, c0, c1⟩ := hH))
      go_ret2
      exact ⟨0, rfl, by simp, by simp, hB⟩
    · have HQ := Lib.hid (simple_of (by omega) hsm)
      rw [show lifC p n f a = 0 by simp [lifC, h0, hp, ha, hsm]]
      clear h0 ha
      go_enter Try.func16, Try.ntmps16
      go_wp2_with (first | (go_at_call 47; refine (specIsRing_any _ _ _).mono ?_; rintro e wn ⟨rfl, hb⟩; have hH := keep_first hb; obtain ⟨hB, c0, c1⟩ := hH) | (go_at_call 48; refine (specIsPoly_any (seen_below HS.out hB)).mono ?_; rw [hp]; rintro e w2 ⟨rfl, rfl⟩) | (go_at_call 56; refine (in_any _ _ _ _).mono ?_; rw [hi]; rintro e w2 ⟨rfl, rfl⟩) | (go_at_call 57; refine (l11Simple_any _ _ hp2 hp9 ha0 ha9 (seen_below HS.out hB) HP.out).mono ?_; rw [hsm]; rintro e wn ⟨rfl, hb2⟩; have hH := keep_next ⟨hB, c0, c1⟩ hb2; clear hB c0 c1; obtain ⟨hB, c0, c1⟩ := hH) | (go_at_call 58; refine (l11Lift_any _ _ _ H0.out ha0 ha1 (seen_below HS.out hB) HP.out HQ.out).mono ?_; rintro e wn ⟨x, rfl, HX, hb3⟩))
      go_ret2
      exact ⟨x, rfl, fun _ => HX, by simp, hB.trans (hb3.mono hB.size)⟩
  · have hi : inB a 0 (p - 1) = false := inB_f (by omega)
    rw [show lifC p n f a = 2 by simp [lifC, h0, hp, ha]]
    clear h0 ha
    go_enter Try.func16, Try.ntmps16
    go_wp2_with (first | (go_at_call 47; refine (specIsRing_any _ _ _).mono ?_; rintro e wn ⟨rfl, hb⟩; have hH := keep_first hb; obtain ⟨hB, c0, c1⟩ := hH) | (go_at_call 48; refine (specIsPoly_any (seen_below HS.out hB)).mono ?_; rw [hp]; rintro e w2 ⟨rfl, rfl⟩) | (go_at_call 56; refine (in_any _ _ _ _).mono ?_; rw [hi]; rintro e w2 ⟨rfl, rfl⟩))
    go_ret2
    exact ⟨0, rfl, by simp, by simp, hB⟩
end Go.Proofs.Ytckpeoadglkbgaa
namespace Go.Proofs.Ytckpeoadglkbgaa
open Go.RowKit
set_option linter.unusedVariables false
set_option linter.unusedSimpArgs false
set_option maxRecDepth 20000
def cntRC (p n : Int) (f : List Int) : Int := if ringM p n = 0 then 1 else if polyB f = false then 1 else if 100000 < ringM p n then 3 else 0
def cntRV (p n : Int) (f : List Int) : Int := if cntRC p n f = 0 then ((rootsA (ringM p n) f).length : Int) else 0
theorem rootsM_len (m : Int) (f : List Int) : ∀ k : Nat, (rootsM m f k).length ≤ k
  | 0 => by simp [rootsM]
  | k + 1 => by
    have := rootsM_len m f k
    rw [rootsM, List.length_append]
    split <;> simp <;> omega
set_option maxHeartbeats 1000000 in
theorem specCountR_any (p n : Int) {o : Option Addr} {k c : Nat} {f : List Int} {w : World} (h : Seen w o k c f) :
    Calls Try.prog 30 #[.agg #[.int .i64 p, .int .i64 n], .slice o k c] w fun e w' => e = .returned (.tuple #[.int .i64 (cntRV p n f), .int .i64 (cntRC p n f)]) ∧ Below w.heap.size w w' := by
  have HS := Lib.hid h
  clear h
  by_cases h0 : ringM p n = 0
  · have hd := ringB_f h0
    have e1 : cntRC p n f = 1 := by simp [cntRC, h0]
    rw [show cntRV p n f = 0 by simp [cntRV, e1], e1]
    clear h0 e1
    go_enter Try.func30, Try.ntmps30
    go_wp2_with (go_at_call 47; refine (specIsRing_any _ _ _).mono ?_; rintro e wn ⟨rfl, hb⟩; have hH := keep_first hb; obtain ⟨hB, c0, c1⟩ := hH)
    go_ret2
    exact ⟨rfl, hB⟩
  have hd := ringB_t h0
  obtain ⟨hp2, hp97, hn1, hn2, hm1, hm2, _⟩ := ringM_bd h0
  have H := Lib.hid (And.intro (ringM_in h0).1 (And.intro hn1 (show n ≤ 1000 by omega)))
  cases hp : polyB f
  · have e1 : cntRC p n f = 1 := by simp [cntRC, h0, hp]
    rw [show cntRV p n f = 0 by simp [cntRV, e1], e1]
    clear h0 e1
    go_enter Try.func30, Try.ntmps30
    go_wp2_with (first | (go_at_call 47; refine (specIsRing_any _ _ _).mono ?_; rintro e wn ⟨rfl, hb⟩; have hH := keep_first hb; obtain ⟨hB, c0, c1⟩ := hH) | (go_at_call 48; refine (specIsPoly_any (seen_below HS.out hB)).mono ?_; rw [hp]; rintro e w2 ⟨rfl, rfl⟩))
    go_ret2
    exact ⟨rfl, hB⟩
  have HF := Lib.hid (poly_cof9 hp)
  by_cases hl : 100000 < ringM p n
  · have e1 : cntRC p n f = 3 := by simp [cntRC, h0, hp, hl]
    rw [show cntRV p n f = 0 by simp [cntRV, e1], e1]
    clear h0 e1
    go_enter Try.func30, Try.ntmps30
    go_wp2_with (first | (go_at_call 47; refine (specIsRing_any _ _ _).mono ?_; rintro e wn ⟨rfl, hb⟩; have hH := keep_first hb; obtain ⟨hB, c0, c1⟩ := hH) | (go_at_call 48; refine (specIsPoly_any (seen_below HS.out hB)).mono ?_; rw [hp]; rintro e w2 ⟨rfl, rfl⟩) | (go_at_call 66; refine (l02Modulus_any _ _ _ H.out.1 H.out.2.1 H.out.2.2).mono ?_; rintro e wn ⟨rfl, rfl⟩))
    go_ret2
    exact ⟨rfl, hB⟩
  · have e1 : cntRC p n f = 0 := by simp [cntRC, h0, hp, hl]
    rw [show cntRV p n f = ((rootsA (ringM p n) f).length : Int) by simp [cntRV, e1], e1]
    clear h0 e1
    go_enter Try.func30, Try.ntmps30
    go_wp2_with (first | (go_at_call 47; refine (specIsRing_any _ _ _).mono ?_; rintro e wn ⟨rfl, hb⟩; have hH := keep_first hb; obtain ⟨hB, c0, c1⟩ := hH) | (go_at_call 48; refine (specIsPoly_any (seen_below HS.out hB)).mono ?_; rw [hp]; rintro e w2 ⟨rfl, rfl⟩) | (go_at_call 66; refine (l02Modulus_any _ _ _ H.out.1 H.out.2.1 H.out.2.2).mono ?_; rintro e wn ⟨rfl, rfl⟩))
    obtain ⟨m, hgm⟩ : ∃ m, ringM p n = m := ⟨_, rfl⟩
    have HGM := Lib.hid hgm
    rw [hgm] at hm1 hm2 hl
    rw [hgm]
    clear hgm
    obtain ⟨M, hM⟩ : ∃ M : Nat, m = M := ⟨m.toNat, by omega⟩
    have HA := Lib.hid (show rootsA m f = rootsM m f M by unfold rootsA; congr 1; omega)
    have HM := Lib.hid hM
    clear hM
    go_loop [7, 8] (fun a i => ∃ j : Nat, i = .int .i64 (j : Int) ∧ (j : Int) ≤ m ∧ a = .int .i64 ((rootsM m f j).length : Int)) (fun _ i => M - (intOf i).toNat)
    case atStart => exact ⟨0, rfl, by omega, rfl⟩
    case round =>
      obtain ⟨j, rfl, hj, rfl⟩ := hrel
      by_cases hlt : (j : Int) < m
      · have hlen := rootsM_len m f j
        have hs : rootsM m f (j + 1) = rootsM m f j ++ (if vM m f j = 0 then [(j : Int)] else []) := rfl
        have HV := Lib.hid (fun W hW => l11Value_any m (j : Int) hm1 hm2 (by omega) (by omega) (w := W) (seen_below HS.out hW) HF.out)
        by_cases hv : vM m f j = 0
        · have hv' : (vM m f j == 0) = true := by simp [hv]
          have HE := Lib.hid (show (rootsM m f (j + 1)).length = (rootsM m f j).length + 1 by rw [hs, if_pos hv]; simp)
          clear hs hv
          generalize vM m f j = V at *
          generalize (rootsM m f j).length = L at *
          go_wp2_with (go_at_call 63; refine (HV.out _ hB).mono ?_; rintro e wn ⟨rfl, rfl⟩)
          exact ⟨⟨j + 1, by first | rfl | go_num, by omega, by rw [HE.out]; first | rfl | go_num⟩, by have := HM.out; simp [intOf]; omega⟩
        · have hv' : (vM m f j == 0) = false := by simpa using hv
          have HE := Lib.hid (show (rootsM m f (j + 1)).length = (rootsM m f j).length by rw [hs, if_neg hv]; simp)
          clear hs hv
          generalize vM m f j = V at *
          generalize (rootsM m f j).length = L at *
          go_wp2_with (go_at_call 63; refine (HV.out _ hB).mono ?_; rintro e wn ⟨rfl, rfl⟩)
          exact ⟨⟨j + 1, by first | rfl | go_num, by omega, by rw [HE.out]⟩, by have := HM.out; simp [intOf]; omega⟩
      · have HE := Lib.hid (show rootsM m f j = rootsA m f by rw [HA.out]; congr 1; have := HM.out; omega)
        have HE2 := Lib.hid (congrArg List.length HE.out)
        generalize (rootsM m f j).length = L at *
        go_wp2_with fail
        go_ret2
        exact ⟨by rw [HGM.out, ← HE2.out]; rfl, hB⟩
end Go.Proofs.Ytckpeoadglkbgaa
namespace Go.Proofs.Ytckpeoadglkbgaa
open Go.RowKit
set_option linter.unusedVariables false
set_option linter.unusedSimpArgs false
set_option maxRecDepth 20000
theorem red_cof9 {M : Int} (m2 : 2 ≤ M) (m9 : M ≤ 1000000000) (f : List Int) : Cof9 (redL M f) := fun i => by
  have := (redL_mod (p := M) (by omega) f).rng i
  omega
theorem red_len9 {M : Int} {f : List Int} (h : f.length ≤ 1100000) : (redL M f).length ≤ 1100000 := Nat.le_trans (redL_le M f) h
set_option maxHeartbeats 1000000 in
theorem slopeR_any {p q M : Int} (hR : ringM p q = M) (m2 : 2 ≤ M) (m9 : M ≤ 1000000000) {x : Int} (x0 : 0 ≤ x) (x1 : x < M) {o : Option Addr} {n c : Nat} {f : List Int} {w : World} (h : Seen w o n c f) (hp : polyB f = true) :
    Calls Try.prog 60 #[.agg #[.int .i64 p, .int .i64 q], .slice o n c, .int .i64 x] w fun e w' => e = .returned (.int .i64 (vM M (derL f) x)) ∧ Below w.heap.size w w' := by
  have HS := Lib.hid h
  have hn9 : n ≤ 9 := by have := (polyB_of hp).1; have := h.1; omega
  have HF := Lib.hid (poly_cof9 hp)
  have HD := Lib.hid (red_cof9 m2 m9 (derL f))
  have hd := red_len9 (M := M) (der_len9 hp)
  have HE := Lib.hid (vM_red (m := M) (by omega) (derL f) x)
  clear h hp
  go_enter Try.func60, Try.ntmps60
  go_wp2_with fail
  have hst := keep_start (w := w) (a := .int .i64 p) (b := .int .i64 q) (T := 25) 1
  have HDer := Lib.hid fun (W : World) (hw : Below w.heap.size w W) => derivativeR_any hR m2 m9 (seen_below HS.out hw) HF.out hn9
  go_region_held3 (fun W' => Below w.heap.size w W' ∧ W'.cell? ⟨w.heap.size, 0, none⟩ = some (.int .i64 p) ∧ W'.cell? ⟨w.heap.size, 1, none⟩ = some (.int .i64 q)) (first | exact hst | exact keep11 ‹_› hq1 | exact keep11 ‹_› hq2 | assumption)
    (first | (go_at_call 87; refine (HDer.out _ (And.left ‹_›)).mono ?_; rintro e w2 ⟨v, rfl, hr2, hq1⟩; obtain ⟨o2, c2, rfl, HS2⟩ := seen_row hr2 hd) | (go_at_call 67; with_reducible refine (valueAtR_any hR m2 m9 x0 x1 HS2 HD.out).mono ?_; rintro e w3 ⟨rfl, hq2⟩))
  go_wp2_with fail
  go_ret
  exact ⟨ret_int HE.out, And.left ‹_›⟩
set_option maxHeartbeats 2000000 in
theorem newtonR_any {p q M : Int} (hR : ringM p q = M) (m2 : 2 ≤ M) (m9 : M ≤ 1000000000) {x : Int} (x0 : 0 ≤ x) (x1 : x < M) {o : Option Addr} {n c : Nat} {f : List Int} {w : World} (h : Seen w o n c f) (hp : polyB f = true) :
    Calls Try.prog 61 #[.agg #[.int .i64 p, .int .i64 q], .slice o n c, .int .i64 x] w fun e w' => e = .returned (.int .i64 (stepV M f x)) ∧ Below w.heap.size w w' := by
  have HS := Lib.hid h
  have HF := Lib.hid (poly_cof9 hp)
  have HP := Lib.hid hp
  obtain ⟨v0, v1⟩ := vM_range (m := M) (by omega) f x
  obtain ⟨d0, d1⟩ := vM_range (m := M) (by omega) (derL f) x
  have i0 : 0 ≤ bezX (vM M (derL f) x) M % M := Int.emod_nonneg _ (by omega)
  have i1 : bezX (vM M (derL f) x) M % M < M := Int.emod_lt_of_pos _ (by omega)
  have HE := Lib.hid (show stepV M f x = (x - vM M f x * (bezX (vM M (derL f) x) M % M)) % M from rfl)
  obtain ⟨p0, p1⟩ := prod_nine v0 (show vM M f x ≤ 1000000000 by omega) i0 (show bezX (vM M (derL f) x) M % M ≤ 1000000000 by omega)
  have w1 : IntKind.i64.wrap (vM M f x * (bezX (vM M (derL f) x) M % M)) = vM M f x * (bezX (vM M (derL f) x) M % M) := IntWalk.i64_in _ (by omega)
  have w2 : IntKind.i64.wrap (x - vM M f x * (bezX (vM M (derL f) x) M % M)) = x - vM M f x * (bezX (vM M (derL f) x) M % M) := IntWalk.i64_in _ (by omega)
  have hvd : valueB (vM M (derL f) x) = true := valueB_t (by omega) (by omega)
  have hvm : valueB M = true := valueB_t (by omega) (by omega)
  have HM := Lib.hid fun w => modulusR_any hR w
  clear h hp
  go_enter Try.func61, Try.ntmps61
  go_wp2_with (go_at_call 71; refine (HM.out _).mono ?_; rintro e wn ⟨rfl, hb⟩; have hH := keep_first hb; clear hb; obtain ⟨hB, c0, c1⟩ := hH)
  have hst : Below w.heap.size w wn.drew ∧ wn.drew.cell? ⟨w.heap.size, 0, none⟩ = some (.int .i64 p) ∧ wn.drew.cell? ⟨w.heap.size, 1, none⟩ = some (.int .i64 q) := ⟨below_drewN hB 1, c0, c1⟩
  have HV := Lib.hid fun (W : World) (hw : Below w.heap.size w W) => valueAtR_any hR m2 m9 x0 x1 (seen_below HS.out hw) HF.out
  have HL := Lib.hid fun (W : World) (hw : Below w.heap.size w W) => slopeR_any hR m2 m9 x0 x1 (seen_below HS.out hw) HP.out
  go_region_held3 (fun W' => Below w.heap.size w W' ∧ W'.cell? ⟨w.heap.size, 0, none⟩ = some (.int .i64 p) ∧ W'.cell? ⟨w.heap.size, 1, none⟩ = some (.int .i64 q)) (first | exact hst | exact keep11 ‹_› hq1 | exact keep11 ‹_› hq2 | assumption)
    (first | (go_at_call 67; with_reducible refine (HV.out _ (And.left ‹_›)).mono ?_; rintro e w3 ⟨rfl, hq1⟩) | (go_at_call 60; with_reducible refine (HL.out _ (And.left ‹_›)).mono ?_; rintro e w3 ⟨rfl, hq2⟩) | (go_at_call 89; refine (inverseBy_any _ _ _ hvd hvm m2 m9).mono ?_; rintro e w3 ⟨rfl, rfl⟩) | (go_at_call 88; refine (remainder8_any _ _ _ m2 m9).mono ?_; rintro e w3 ⟨rfl, rfl⟩))
  go_wp2_with fail
  go_ret
  exact ⟨ret_int HE.out.symm, And.left ‹_›⟩
section
variable {P : Program} {ops : Array Oper} {Q : Exit → Act → World → Prop} {md : Region.Mode} {S : World → Prop}
theorem take_at11 {i d : Nat} {oi : Oper} {v : Value} {fuel : Nat} {listed : Array Bool} {a : Act} {w : World} (hi : ops[i]? = some oi) (hd : oi.dst = some d)
    (hs : Region.noSelect ops = true) (hf : Region.free md ops listed i = true) (hr : (Region.ready md ops listed).contains i = true)
    (hQ : ∀ c a w, Q (.panic c) (a.put oi.dst v) w → Q (.panic c) a w) (hy : YieldsIf P ops S oi v a) (hS : S w)
    (h : wpAnyH P md ops Q S fuel (listed.setIfInBounds i true) (a.put (some d) v) w) : wpAnyH P md ops Q S (fuel + 1) listed a w :=
  wpAnyH_take hi hs hf hr hQ hy hS (by rw [hd]; exact h)
end
theorem simB_ring {M p : Int} (hm : 0 < M) (hp : 0 < p) (hd : p ∣ M) (f : List Int) (a : Int) : simB p f a = ((vM M f a % p == 0) && !(vM M (derL f) a % p == 0)) := by
  rw [simB, vM_mod hm hp hd, vM_mod hm hp hd]
theorem ring_dvd {p q : Int} (h : ringM p q ≠ 0) : p ∣ ringM p q := by
  rw [(ringM_in h).2.2.2]
  obtain ⟨_, _, h1, _⟩ := ringM_bd h
  have := pow_div (p := p) (show 1 ≤ q.toNat by omega)
  rwa [Int.pow_succ, Int.pow_zero, Int.one_mul] at this
set_option maxHeartbeats 2000000 in
theorem simpleR_any {p q M : Int} (hR : ringM p q = M) (h0 : ringM p q ≠ 0) {a : Int} (x0 : 0 ≤ a) (x1 : a < M) {o : Option Addr} {n c : Nat} {f : List Int} {w : World} (h : Seen w o n c f) (hp : polyB f = true) :
    Calls Try.prog 54 #[.agg #[.int .i64 p, .int .i64 q], .slice o n c, .int .i64 a] w fun e w' => e = .returned (.bool (simB p f a)) ∧ Below w.heap.size w w' := by
  obtain ⟨hp2, hp97, _, _, m2, m9, _⟩ := ringM_bd h0
  have hdv := ring_dvd h0
  rw [hR] at m2 m9 hdv
  have HS := Lib.hid h
  have HF := Lib.hid (poly_cof9 hp)
  have HP := Lib.hid hp
  obtain ⟨v0, v1⟩ := vM_range (m := M) (by omega) f a
  obtain ⟨d0, d1⟩ := vM_range (m := M) (by omega) (derL f) a
  have HE := Lib.hid (simB_ring (M := M) (p := p) (by omega) (by omega) hdv f a)
  have HV := Lib.hid fun (W : World) (hw : Below w.heap.size w W) => valueAtR_any hR m2 m9 x0 x1 (seen_below HS.out hw) HF.out
  have HL := Lib.hid fun (W : World) (hw : Below w.heap.size w W) => slopeR_any hR m2 m9 x0 x1 (seen_below HS.out hw) HP.out
  have HU2 := Lib.hid fun (W : World) => isUnit_any p q (vM M (derL f) a) W hp2 d0
  have hst := keep_start (w := w) (a := .int .i64 p) (b := .int .i64 q) (T := 25) 1
  clear h hp hdv
  cases hv : (vM M f a % p == 0)
  · have HE2 := Lib.hid (show simB p f a = false by rw [HE.out, hv]; rfl)
    have HU : RowKit.Hid (∀ W : World, Calls Try.prog 59 #[.agg #[.int .i64 p, .int .i64 q], .int .i64 (vM M f a)] W fun e w' => e = .returned (.bool true) ∧ Below W.heap.size W w') := Lib.hid fun W => by
      have := isUnit_any p q (vM M f a) W hp2 v0
      rw [hv] at this; exact this
    go_enter Try.func54, Try.ntmps54
    go_wp2_with fail
    refine wp_region_held_drew (S := fun W' => Below w.heap.size w W' ∧ W'.cell? ⟨w.heap.size, 0, none⟩ = some (.int .i64 p) ∧ W'.cell? ⟨w.heap.size, 1, none⟩ = some (.int .i64 q)) (by kernel_rfl) hst (fun hHeld => ?_)
    refine take_at11 (i := 0) (d := 7) (v := .agg #[.int .i64 p, .int .i64 q]) rfl rfl (by kernel_rfl) (by kernel_rfl) (by kernel_rfl) (fun _ _ _ h => h) (Or.inl ⟨by rfl, ?_⟩) hHeld ?_
    · intro w' hS; obtain ⟨_, k0, k1⟩ := hS; go_simp
    try simp only [Act.put, List.setIfInBounds_toArray, List.set_cons_zero, List.set_cons_succ]
    refine take_at11 (i := 1) (d := 8) (v := .agg #[.int .i64 p, .int .i64 q]) rfl rfl (by kernel_rfl) (by kernel_rfl) (by kernel_rfl) (fun _ _ _ h => h) (Or.inl ⟨by rfl, ?_⟩) hHeld ?_
    · intro w' hS; obtain ⟨_, k0, k1⟩ := hS; go_simp
    try simp only [Act.put, List.setIfInBounds_toArray, List.set_cons_zero, List.set_cons_succ]
    refine take_at11 (i := 2) (d := 9) (v := .slice o n c) rfl rfl (by kernel_rfl) (by kernel_rfl) (by kernel_rfl) (fun _ _ _ h => h) (Or.inl ⟨by rfl, ?_⟩) hHeld ?_
    · intro w' hS; go_simp
    try simp only [Act.put, List.setIfInBounds_toArray, List.set_cons_zero, List.set_cons_succ]
    refine take_at11 (i := 3) (d := 10) (v := .int .i64 a) rfl rfl (by kernel_rfl) (by kernel_rfl) (by kernel_rfl) (fun _ _ _ h => h) (Or.inl ⟨by rfl, ?_⟩) hHeld ?_
    · intro w' hS; go_simp
    try simp only [Act.put, List.setIfInBounds_toArray, List.set_cons_zero, List.set_cons_succ]
    refine wpAnyH_ready (rs := [4]) (by kernel_rfl) (by simp) ?_
    refine AllReadyH.cons rfl (fun K hK => ?_) AllReadyH.nil
    go_simp
    go_at_call 67; refine (HV.out _ hHeld.1).mono ?_; rintro e w3 ⟨rfl, hb⟩
    go_simp
    refine hK.out _ _ (keep11 hHeld hb) (fun hHeld => ?_)
    clear hK K hb
    try simp only [Act.put, List.setIfInBounds_toArray, List.set_cons_zero, List.set_cons_succ]
    refine wpAnyH_ready (rs := [5]) (by kernel_rfl) (by simp) ?_
    refine AllReadyH.cons rfl (fun K hK => ?_) AllReadyH.nil
    go_simp
    go_at_call 59; refine (HU.out _).mono ?_; rintro e w4 ⟨rfl, hb⟩
    go_simp
    refine hK.out _ _ (keep11 hHeld hb) (fun hHeld => ?_)
    clear hK K hb
    try simp only [Act.put, List.setIfInBounds_toArray, List.set_cons_zero, List.set_cons_succ]
    refine take_at11 (i := 6) (d := 13) (v := .bool false) rfl rfl (by kernel_rfl) (by kernel_rfl) (by kernel_rfl) (fun _ _ _ h => h) (Or.inl ⟨by rfl, ?_⟩) hHeld ?_
    · intro w' hS; go_simp
    try simp only [Act.put, List.setIfInBounds_toArray, List.set_cons_zero, List.set_cons_succ]
    refine take_at11 (i := 7) (d := 14) (v := .bool false) rfl rfl (by kernel_rfl) (by kernel_rfl) (by kernel_rfl) (fun _ _ _ h => h) (Or.inl ⟨by rfl, ?_⟩) hHeld ?_
    · intro w' hS; go_simp
    try simp only [Act.put, List.setIfInBounds_toArray, List.set_cons_zero, List.set_cons_succ]
    refine take_at11 (i := 8) (d := 15) (v := undef) rfl rfl (by kernel_rfl) (by kernel_rfl) (by kernel_rfl) (fun _ _ _ h => h) (Or.inr ⟨by kernel_rfl, rfl⟩) hHeld ?_
    try simp only [Act.put, List.setIfInBounds_toArray, List.set_cons_zero, List.set_cons_succ]
    refine take_at11 (i := 9) (d := 16) (v := undef) rfl rfl (by kernel_rfl) (by kernel_rfl) (by kernel_rfl) (fun _ _ _ h => h) (Or.inr ⟨by kernel_rfl, rfl⟩) hHeld ?_
    try simp only [Act.put, List.setIfInBounds_toArray, List.set_cons_zero, List.set_cons_succ]
    refine take_at11 (i := 10) (d := 17) (v := undef) rfl rfl (by kernel_rfl) (by kernel_rfl) (by kernel_rfl) (fun _ _ _ h => h) (Or.inr ⟨by kernel_rfl, rfl⟩) hHeld ?_
    try simp only [Act.put, List.setIfInBounds_toArray, List.set_cons_zero, List.set_cons_succ]
    refine take_at11 (i := 11) (d := 18) (v := undef) rfl rfl (by kernel_rfl) (by kernel_rfl) (by kernel_rfl) (fun _ _ _ h => h) (Or.inr ⟨by kernel_rfl, rfl⟩) hHeld ?_
    try simp only [Act.put, List.setIfInBounds_toArray, List.set_cons_zero, List.set_cons_succ]
    refine take_at11 (i := 12) (d := 19) (v := undef) rfl rfl (by kernel_rfl) (by kernel_rfl) (by kernel_rfl) (fun _ _ _ h => h) (Or.inr ⟨by kernel_rfl, rfl⟩) hHeld ?_
    try simp only [Act.put, List.setIfInBounds_toArray, List.set_cons_zero, List.set_cons_succ]
    refine take_at11 (i := 13) (d := 20) (v := undef) rfl rfl (by kernel_rfl) (by kernel_rfl) (by kernel_rfl) (fun _ _ _ h => h) (Or.inr ⟨by kernel_rfl, rfl⟩) hHeld ?_
    try simp only [Act.put, List.setIfInBounds_toArray, List.set_cons_zero, List.set_cons_succ]
    refine take_at11 (i := 14) (d := 21) (v := .bool false) rfl rfl (by kernel_rfl) (by kernel_rfl) (by kernel_rfl) (fun _ _ _ h => h) (Or.inl ⟨by rfl, ?_⟩) hHeld ?_
    · intro w' hS; go_simp
    try simp only [Act.put, List.setIfInBounds_toArray, List.set_cons_zero, List.set_cons_succ]
    refine take_at11 (i := 15) (d := 6) (v := .bool false) rfl rfl (by kernel_rfl) (by kernel_rfl) (by kernel_rfl) (fun _ _ _ h => h) (Or.inl ⟨by rfl, ?_⟩) hHeld ?_
    · intro w' hS; go_simp
    try simp only [Act.put, List.setIfInBounds_toArray, List.set_cons_zero, List.set_cons_succ]
    refine wpAnyH_done (by kernel_rfl) ?_ _
    go_wp2_with fail
    go_ret
    exact ⟨ret_bool HE2.out.symm, hHeld.1⟩
  · have HE2 := Lib.hid (show simB p f a = !(vM M (derL f) a % p == 0) by rw [HE.out, hv]; rfl)
    have HU : RowKit.Hid (∀ W : World, Calls Try.prog 59 #[.agg #[.int .i64 p, .int .i64 q], .int .i64 (vM M f a)] W fun e w' => e = .returned (.bool false) ∧ Below W.heap.size W w') := Lib.hid fun W => by
      have := isUnit_any p q (vM M f a) W hp2 v0
      rw [hv] at this; exact this
    go_enter Try.func54, Try.ntmps54
    go_wp2_with fail
    go_region_held3 (fun W' => Below w.heap.size w W' ∧ W'.cell? ⟨w.heap.size, 0, none⟩ = some (.int .i64 p) ∧ W'.cell? ⟨w.heap.size, 1, none⟩ = some (.int .i64 q)) (first | exact hst | exact keep11 ‹_› hq1 | exact keep11 ‹_› hq2 | exact keep11 ‹_› hq3 | exact keep11 ‹_› hq4 | assumption)
      (first | (go_at_call 67; with_reducible refine (HV.out _ (And.left ‹_›)).mono ?_; rintro e w3 ⟨rfl, hq1⟩) | (go_at_call 59; with_reducible refine (HU.out _).mono ?_; rintro e w3 ⟨rfl, hq2⟩) | (go_at_call 60; with_reducible refine (HL.out _ (And.left ‹_›)).mono ?_; rintro e w3 ⟨rfl, hq3⟩) | (go_at_call 59; with_reducible refine (HU2.out _).mono ?_; rintro e w3 ⟨rfl, hq4⟩))
    go_wp2_with fail
    go_ret
    exact ⟨ret_bool HE2.out.symm, And.left ‹_›⟩
/-- how often p divides the value, up to n -/
def wayN (p : Int) (f : List Int) (x : Int) : Nat → Nat
  | 0 => 0
  | k + 1 => if p ^ (k + 1) ∣ pval f x then k + 1 else wayN p f x k
theorem wayN_le (p : Int) (f : List Int) (x : Int) : ∀ k, wayN p f x k ≤ k
  | 0 => Nat.le_refl _
  | k + 1 => by
    have := wayN_le p f x k
    rw [wayN]; split <;> omega
theorem wayN_dvd (p : Int) (f : List Int) (x : Int) : ∀ k, p ^ wayN p f x k ∣ pval f x
  | 0 => by rw [wayN, Int.pow_zero]; exact Int.one_dvd _
  | k + 1 => by
    rw [wayN]
    split
    · assumption
    · exact wayN_dvd p f x k
theorem wayN_ge {p : Int} {f : List Int} {x : Int} {j : Nat} (h : p ^ j ∣ pval f x) : ∀ k, j ≤ k → j ≤ wayN p f x k
  | 0, hk => by omega
  | k + 1, hk => by
    rw [wayN]
    split
    · exact hk
    · rename_i hn
      rcases Nat.lt_or_eq_of_le hk with h1 | h1
      · exact wayN_ge h k (by omega)
      · subst h1; exact absurd h hn
end Go.Proofs.Ytckpeoadglkbgaa
namespace Go.Proofs.Ytckpeoadglkbgaa
open Go.RowKit
set_option linter.unusedVariables false
set_option linter.unusedSimpArgs false
set_option maxRecDepth 20000
/-- the lifts of the simple roots below k, in order -/
def LiftsTo (p n : Int) (f : List Int) : Nat → List Int → Prop
  | 0, l => l = []
  | k + 1, l => if simB p f (k : Int) = true then ∃ l' x, LiftsTo p n f k l' ∧ LiftOf p n.toNat f (k : Int) x ∧ l = l' ++ [x] else LiftsTo p n f k l
theorem liftsTo_one {p n : Int} {f : List Int} (h0 : ringM p n ≠ 0) : ∀ {k : Nat} {l m : List Int}, LiftsTo p n f k l → LiftsTo p n f k m → l = m
  | 0, l, m, h, h' => by rw [show l = [] from h, show m = [] from h']
  | k + 1, l, m, h, h' => by
    unfold LiftsTo at h h'
    by_cases hs : simB p f (k : Int) = true
    · rw [if_pos hs] at h h'
      obtain ⟨l1, x, a1, a2, rfl⟩ := h
      obtain ⟨m1, y, b1, b2, rfl⟩ := h'
      obtain ⟨hp2, _⟩ := ringM_bd h0
      rw [liftsTo_one h0 a1 b1, lift_one (small_prime (ringM_in h0).1).2.2 (simple_of (by omega) hs) a2 b2]
    · rw [if_neg hs] at h h'
      exact liftsTo_one h0 h h'
theorem liftsTo_len {p n : Int} {f : List Int} : ∀ {k : Nat} {l : List Int}, LiftsTo p n f k l → l.length ≤ k
  | 0, l, h => by rw [show l = [] from h]; simp
  | k + 1, l, h => by
    unfold LiftsTo at h
    split at h
    · obtain ⟨l1, x, a1, _, rfl⟩ := h
      have := liftsTo_len a1
      simp; omega
    · have := liftsTo_len h; omega
/-- the world behind the ring's cell -/
def alR (w : World) (p n : Int) : World := w.alloc (.cells #[.int .i64 p, .int .i64 n] 25)
theorem alR_keep {w wr : World} {p n : Int} (h : Below (alR w p n).heap.size (alR w p n) wr) : Below w.heap.size w wr ∧ wr.cell? ⟨w.heap.size, 0, none⟩ = some (.int .i64 p) ∧ wr.cell? ⟨w.heap.size, 1, none⟩ = some (.int .i64 n) := keep_first h
theorem alR_size (w : World) (p n : Int) : w.heap.size ≤ (alR w p n).heap.size := by unfold alR; simp
theorem row_next11 {b : Nat} {w w' : World} {v : Value} {l : List Int} (h : IntRow b w v l) (hb : Below w.heap.size w w') : IntRow b w' v l :=
  World.ownsRow.kept (row := none) h ⟨hb.os, hb.tape, hb.output, hb.size, fun j hj _ => hb.block j hj⟩ (by cases hv : v.ownBlock <;> simp)
def simC (p n : Int) (f : List Int) : Int := if ringM p n = 0 then 1 else if polyB f = false then 1 else 0
def SimP (p n : Int) (f : List Int) (w : World) (e : Ending) (w' : World) : Prop :=
  ∃ v l, e = .returned (.tuple #[v, .int .i64 (simC p n f)]) ∧ IntRow w.heap.size w' v l ∧ (simC p n f = 0 → LiftsTo p n f p.toNat l) ∧ (simC p n f ≠ 0 → l = []) ∧ Below w.heap.size w w'
set_option maxHeartbeats 2000000 in
theorem specSimple_any (p n : Int) {o : Option Addr} {k c : Nat} {f : List Int} {w : World} (h : Seen w o k c f) :
    Calls Try.prog 19 #[.agg #[.int .i64 p, .int .i64 n], .slice o k c] w (SimP p n f w) := by
  have HS := Lib.hid h
  clear h
  unfold SimP
  by_cases h0 : ringM p n = 0
  · have hd := ringB_f h0
    rw [show simC p n f = 1 by simp [simC, h0]]
    clear h0
    go_enter Try.func19, Try.ntmps19
    go_wp2_with (go_at_call 47; refine (specIsRing_any _ _ _).mono ?_; rintro e wn ⟨rfl, hb⟩; have hH := keep_first hb; obtain ⟨hB, c0, c1⟩ := hH)
    go_ret2
    exact ⟨_, [], rfl, intRow_nil _ _, by simp, by simp, hB⟩
  have hd := ringB_t h0
  obtain ⟨hp2, hp97, hn1, hn2, hm1, hm2, _⟩ := ringM_bd h0
  cases hp : polyB f
  · rw [show simC p n f = 1 by simp [simC, h0, hp]]
    clear h0
    go_enter Try.func19, Try.ntmps19
    go_wp2_with (first | (go_at_call 47; refine (specIsRing_any _ _ _).mono ?_; rintro e wn ⟨rfl, hb⟩; have hH := keep_first hb; obtain ⟨hB, c0, c1⟩ := hH) | (go_at_call 48; refine (specIsPoly_any (seen_below HS.out hB)).mono ?_; rw [hp]; rintro e w2 ⟨rfl, rfl⟩))
    go_ret2
    exact ⟨_, [], rfl, intRow_nil _ _, by simp, by simp, hB⟩
  obtain ⟨i0, hi, hz0, hz1, hz2⟩ := info_parts Try.infoInt64
  have HI := Lib.hid hi
  have HZ0 := Lib.hid hz0
  have HZ1 := Lib.hid hz1
  have HZ2 := Lib.hid hz2
  have HP := Lib.hid hp
  have H0 := Lib.hid h0
  have hp9 : p ≤ 1000000000 := by omega
  rw [show simC p n f = 0 by simp [simC, h0, hp]]
  obtain ⟨P, hP⟩ : ∃ P : Nat, p = P := ⟨p.toNat, by omega⟩
  have HPN := Lib.hid (And.intro (show p.toNat = P by omega) hP)
  clear hi hz0 hz1 hz2 hP h0
  go_enter Try.func19, Try.ntmps19
  go_wp2_with (first | (go_at_call 47; refine (specIsRing_any _ _ _).mono ?_; rintro e wn ⟨rfl, hb⟩; have hH := keep_first hb; obtain ⟨hB, c0, c1⟩ := hH) | (go_at_call 48; refine (specIsPoly_any (seen_below HS.out hB)).mono ?_; rw [hp]; rintro e w2 ⟨rfl, rfl⟩))
  have HB0 := Lib.hid (show Below (alR w p n).heap.size (alR w p n) wn from hb)
  clear hb hB c0 c1
  go_loopw [6, 7] (fun v d wr => ∃ (j : Nat) (l : List Int), d = .int .i64 j ∧ (j : Int) ≤ p ∧ LiftsTo p n f j l ∧ IntRow (alR w p n).heap.size wr v l ∧ Below (alR w p n).heap.size (alR w p n) wr) (fun _ d _ => P - (intOf d).toNat)
  case atStart => exact ⟨0, [], rfl, by omega, rfl, intRow_lower (intRow_made wn) HB0.out.size, HB0.out.alloc HB0.out.size _⟩
  case round =>
    obtain ⟨j, l, rfl, hj, hL, hrow, hBB⟩ := hrel
    obtain ⟨hB, c0, c1⟩ := alR_keep hBB
    have bl := liftsTo_len hL
    have HL := Lib.hid hL
    have HW := Lib.hid hrow
    have HB := Lib.hid hB
    have HBB := Lib.hid hBB
    clear hL hrow hB hBB
    by_cases hlt : (j : Int) < p
    · have hj0 : (0 : Int) ≤ (j : Int) := by omega
      have hj9 : (j : Int) ≤ 1000000000 := by omega
      have HV := Lib.hid (l11Simple_any p (j : Int) hp2 hp9 hj0 hj9 (seen_below HS.out HB.out) HP.out)
      by_cases hs : simB p f (j : Int) = true
      · have HQ := Lib.hid (simple_of (by omega) hs)
        have HSI := Lib.hid hs
        clear hs
        go_wp2_with (first | (go_at_call 57; refine HV.out.mono ?_; rw [HSI.out]; rintro e w2 ⟨rfl, hb2⟩; obtain ⟨hB2, d0, d1⟩ := keep11 ⟨HB.out, c0, c1⟩ hb2) | (go_at_call 58; refine (l11Lift_any p n (j : Int) H0.out hj0 hlt (seen_below HS.out hB2) HP.out HQ.out).mono ?_; rintro e w3 ⟨x, rfl, HX, hb3⟩; have HB3 := Lib.hid (HBB.out.trans ((hb2.mono HBB.out.size).trans (hb3.mono (Nat.le_trans HBB.out.size hb2.size)))); have HW3 := Lib.hid (row_next11 (row_next11 HW.out hb2) hb3); clear HV HW) | (at_builtin; refine wpList_append_own _ rfl (.tmp 28) (.tmp 33) 26 rfl (alR w p n).heap.size 2 i0 (.int .i64 0) 1 8 Try.underlying26 HI.out HZ0.out HZ1.out HZ2.out rfl (by decide) _ _ _ rfl (HW3.out.alloc _) ⟨w3.heap.size, 0, none⟩ 1 1 [.int .i64 x] rfl rfl ?c1 ?c2 ?c3 ?c4 ?c5 ?_))
        try (case c1 => first | exact news_one _ _ _ | simp [Addr.add])
        try (case c2 => first | exact one_one _ | rfl)
        case c3 => unfold maxLen; omega
        case c4 => omega
        case c5 => have := HB3.out.size; first | omega | (simp; omega)
        intro v' w1 hown hgrow _
        have HO2 := Lib.hid (intRow_snoc hown)
        have HG2 := Lib.hid (below_appendI HB3.out HW3.out hgrow)
        have HL2 := Lib.hid (show LiftsTo p n f (j + 1) (l ++ [x]) by unfold LiftsTo; rw [if_pos HSI.out]; exact ⟨l, x, HL.out, HX, rfl⟩)
        clear hown hgrow
        go_wp2_with fail
        go_roundw
        case rel => exact ⟨j + 1, _, by first | rfl | go_num, by omega, HL2.out, HO2.out, HG2.out⟩
        case measure => have := HPN.out.2; simp [intOf]; omega
      · have hs' : simB p f (j : Int) = false := by simpa using hs
        have HL2 := Lib.hid (show LiftsTo p n f (j + 1) l by unfold LiftsTo; rw [if_neg hs]; exact HL.out)
        clear hs
        go_wp2_with (go_at_call 57; refine HV.out.mono ?_; rw [hs']; rintro e w2 ⟨rfl, hb2⟩)
        have HW2 := Lib.hid (row_next11 HW.out hb2)
        have HB2 := Lib.hid (HBB.out.trans (hb2.mono HBB.out.size))
        clear HV
        exact ⟨⟨j + 1, l, by first | rfl | go_num, by omega, HL2.out, HW2.out, HB2.out⟩, by have := HPN.out.2; simp [intOf]; omega⟩
    · have HK := Lib.hid (show LiftsTo p n f p.toNat l by rw [HPN.out.1, show P = j by have := HPN.out.2; omega]; exact HL.out)
      have HR := Lib.hid (intRow_lower HW.out (alR_size w p n))
      clear HW HL
      go_wp2_with fail
      go_ret2
      exact ⟨_, rfl, l, HR.out, HK.out, HB.out⟩
end Go.Proofs.Ytckpeoadglkbgaa
namespace Go.Proofs.Ytckpeoadglkbgaa
open Go.RowKit
set_option linter.unusedVariables false
def pw (p e : Int) : Int := p ^ e.toNat
theorem pw_zero (p : Int) : pw p 0 = 1 := by simp [pw]
theorem pw_one (p : Int) : pw p 1 = p := by simp [pw, Int.pow_succ]
theorem pw_add {p a b : Int} (ha : 0 ≤ a) (hb : 0 ≤ b) : pw p (a + b) = pw p a * pw p b := by
  unfold pw; rw [show (a + b).toNat = a.toNat + b.toNat by omega, Int.pow_add]
theorem pw_ge1 {p a : Int} (hp : 2 ≤ p) : 1 ≤ pw p a := pow_ge1 hp _
theorem pw_mono {p a b : Int} (hp : 2 ≤ p) (h : a ≤ b) : pw p a ≤ pw p b := pow_le hp (by omega)
theorem pw_29 {p a : Int} (hp : 2 ≤ p) (h : pw p a ≤ 1000000000) : a ≤ 29 := by have := pow_29 hp h; omega
theorem ringM_pw {p n : Int} (hs : smallB p = true) (hn : 1 ≤ n) (h : pw p n ≤ 1000000000) : ringM p n = pw p n := by
  unfold ringM; rw [hs, decide_eq_true hn, decide_eq_true (show p ^ n.toNat ≤ 1000000000 from h)]; rfl
theorem pw_ringM {p n : Int} (h : ringM p n ≠ 0) : ringM p n = pw p n := (ringM_in h).2.2.2
/-- a valid number -/
def POk (p v u n : Int) : Prop :=
  smallB p = true ∧ -60 ≤ v ∧ v ≤ 60 ∧ 0 ≤ n ∧ pw p n ≤ 1000000000 ∧ (n = 0 ∧ u = 0 ∨ 1 ≤ n ∧ 1 ≤ u ∧ u < pw p n ∧ u % p ≠ 0)
def unitB (p u n : Int) : Bool := decide (ringM p n ≠ 0) && (inB u 1 (ringM p n - 1) && !(u % p == 0))
def padB (p v u n : Int) : Bool := smallB p && (inB v (-60) 60 && (if n = 0 then u == 0 else unitB p u n))
theorem padB_ok {p v u n : Int} (h : padB p v u n = true) : POk p v u n := by
  unfold padB at h
  simp only [Bool.and_eq_true] at h
  obtain ⟨h1, h2, h3⟩ := h
  have hv : -60 ≤ v ∧ v ≤ 60 := by simpa [inB] using h2
  have hp := smallB_bd h1
  split at h3
  · rename_i h0
    subst h0
    exact ⟨h1, hv.1, hv.2, by omega, by rw [pw_zero]; omega, .inl ⟨rfl, by simpa using h3⟩⟩
  · unfold unitB at h3
    simp only [Bool.and_eq_true, decide_eq_true_eq] at h3
    obtain ⟨h4, h5, h6⟩ := h3
    have e := pw_ringM h4
    obtain ⟨_, _, b1, _, _, b2, _⟩ := ringM_bd h4
    have hu : 1 ≤ u ∧ u ≤ ringM p n - 1 := by simpa [inB] using h5
    exact ⟨h1, hv.1, hv.2, by omega, by omega, .inr ⟨b1, hu.1, by omega, by simpa using h6⟩⟩
theorem ok_padB {p v u n : Int} (h : POk p v u n) : padB p v u n = true := by
  obtain ⟨h1, h2, h3, h4, h5, h6⟩ := h
  unfold padB
  rw [h1, inB_t h2 h3]
  rcases h6 with ⟨rfl, rfl⟩ | ⟨h7, h8, h9, h10⟩
  · rfl
  · have e := ringM_pw h1 h7 h5
    have hp := pw_ge1 (a := n) (smallB_bd h1).1
    rw [if_neg (by omega), unitB, decide_eq_true (by omega), inB_t h8 (by omega)]
    simp [h10]
theorem padB_false {p v u n : Int} (h : ¬ POk p v u n) : padB p v u n = false := by
  cases hb : padB p v u n
  · rfl
  · exact absurd (padB_ok hb) h
theorem pok_bd {p v u n : Int} (h : POk p v u n) : 2 ≤ p ∧ p ≤ 97 ∧ 0 ≤ n ∧ n ≤ 29 ∧ 1 ≤ pw p n ∧ pw p n ≤ 1000000000 ∧ 0 ≤ u ∧ u < pw p n ∧ u ≤ 1000000000 := by
  obtain ⟨h1, h2, h3, h4, h5, h6⟩ := h
  obtain ⟨hp, hq⟩ := smallB_bd h1
  have := pw_29 hp h5
  have hg := pw_ge1 (a := n) hp
  rcases h6 with ⟨rfl, rfl⟩ | ⟨h7, h8, h9, h10⟩
  · exact ⟨hp, hq, by omega, by omega, hg, h5, by omega, by omega, by omega⟩
  · exact ⟨hp, hq, by omega, by omega, hg, h5, by omega, by omega, by omega⟩
theorem pok_ring {p v u n : Int} (h : POk p v u n) (hn : n ≠ 0) : ringM p n = pw p n ∧ ringM p n ≠ 0 ∧ 1 ≤ n ∧ 1 ≤ u ∧ u < ringM p n ∧ u % p ≠ 0 := by
  have hb := pok_bd h
  obtain ⟨h1, h2, h3, h4, h5, h6⟩ := h
  rcases h6 with ⟨h0, _⟩ | ⟨h7, h8, h9, h10⟩
  · exact absurd h0 hn
  · have e := ringM_pw h1 h7 h5
    exact ⟨e, by omega, h7, h8, by omega, h10⟩
theorem pok_zero {p v u n : Int} (h : POk p v u n) (hn : n = 0) : u = 0 := by
  rcases h.2.2.2.2.2 with ⟨_, h⟩ | ⟨h, _⟩
  · exact h
  · omega
/-- the code of two numbers -/
def twoC (p v u n q v' u' n' : Int) : Int := if padB p v u n && padB q v' u' n' then (if p = q then 0 else 5) else 1
theorem twoC_zero {p v u n q v' u' n' : Int} (h : twoC p v u n q v' u' n' = 0) : POk p v u n ∧ POk q v' u' n' ∧ p = q := by
  unfold twoC at h
  split at h
  · rename_i hb
    simp only [Bool.and_eq_true] at hb
    split at h
    · rename_i e; exact ⟨padB_ok hb.1, padB_ok hb.2, e⟩
    · omega
  · omega
theorem twoC_ok {p v u n v' u' n' : Int} (h : POk p v u n) (h' : POk p v' u' n') : twoC p v u n p v' u' n' = 0 := by
  simp [twoC, ok_padB h, ok_padB h']
/-- a power that is a modulus of a number -/
theorem pw_part {p n e : Int} (hp : 2 ≤ p) (h : pw p n ≤ 1000000000) (he : e ≤ n) : 1 ≤ pw p e ∧ pw p e ≤ 1000000000 := by
  have := pw_mono (p := p) hp he
  have := pw_ge1 (a := e) hp
  omega
/-- the sum where the first valuation is at most the second -/
def addE (v n v' n' : Int) : Int := min (v + n) (v' + n')
def addS (p v u n v' u' n' : Int) : Int := if v' < addE v n v' n' then u + u' * pw p (v' - v) else u
def addR (p v u n v' u' n' : Int) : Int := addS p v u n v' u' n' % pw p (addE v n v' n' - v)
def add0 (p v u n v' u' n' : Int) : Int × Int × Int :=
  if addR p v u n v' u' n' = 0 then (addE v n v' n', 0, 0)
  else (v + valCount (addR p v u n v' u' n') p, valRest (addR p v u n v' u' n') p, addE v n v' n' - (v + valCount (addR p v u n v' u' n') p))
def addT (p v u n v' u' n' : Int) : Int × Int × Int := if v' < v then add0 p v' u' n' v u n else add0 p v u n v' u' n'
theorem addT_swap {p v u n v' u' n' : Int} (h : v' < v) : addT p v u n v' u' n' = add0 p v' u' n' v u n := by simp [addT, h]
theorem addT_stay {p v u n v' u' n' : Int} (h : ¬ v' < v) : addT p v u n v' u' n' = add0 p v u n v' u' n' := by simp [addT, h]
/-- what the walk of a sum needs -/
theorem add_facts {p v u n v' u' n' : Int} (h : POk p v u n) (h' : POk p v' u' n') (hv : v ≤ v') :
    v ≤ addE v n v' n' ∧ addE v n v' n' ≤ v + n ∧ 0 ≤ addE v n v' n' - v ∧ addE v n v' n' - v ≤ 29 ∧ -60 ≤ addE v n v' n' ∧ addE v n v' n' ≤ 89 ∧
    1 ≤ pw p (addE v n v' n' - v) ∧ pw p (addE v n v' n' - v) ≤ 1000000000 ∧
    0 ≤ addS p v u n v' u' n' ∧ addS p v u n v' u' n' ≤ 1000000001000000000 ∧
    0 ≤ addR p v u n v' u' n' ∧ addR p v u n v' u' n' < 1000000000 ∧
    (v' < addE v n v' n' → 1 ≤ pw p (v' - v) ∧ pw p (v' - v) ≤ 1000000000 ∧ 0 ≤ u' * pw p (v' - v) ∧ u' * pw p (v' - v) ≤ 1000000000000000000) := by
  obtain ⟨hp, hq, hn0, hn1, hm0, hm1, hu0, hu1, hu2⟩ := pok_bd h
  obtain ⟨_, _, hn0', hn1', hm0', hm1', hu0', hu1', hu2'⟩ := pok_bd h'
  have hb := h.2.1
  have hb2 := h.2.2.1
  have e1 : addE v n v' n' ≤ v + n := Int.min_le_left ..
  have e2 : v ≤ addE v n v' n' := by unfold addE; omega
  have hP := pw_part (p := p) (n := n) (e := addE v n v' n' - v) hp hm1 (by omega)
  have hX : v' < addE v n v' n' → 1 ≤ pw p (v' - v) ∧ pw p (v' - v) ≤ 1000000000 ∧ 0 ≤ u' * pw p (v' - v) ∧ u' * pw p (v' - v) ≤ 1000000000000000000 := by
    intro hlt
    have hQ := pw_part (p := p) (n := n) (e := v' - v) hp hm1 (by omega)
    refine ⟨hQ.1, hQ.2, Int.mul_nonneg hu0' (by omega), ?_⟩
    have := Int.mul_le_mul hu2' hQ.2 (by omega) (by omega)
    omega
  have hS : 0 ≤ addS p v u n v' u' n' ∧ addS p v u n v' u' n' ≤ 1000000001000000000 := by
    unfold addS
    split
    · rename_i hlt; obtain ⟨_, _, a, b⟩ := hX hlt; omega
    · omega
  have r1 := Int.emod_nonneg (addS p v u n v' u' n') (show pw p (addE v n v' n' - v) ≠ 0 by omega)
  have r2 := Int.emod_lt_of_pos (addS p v u n v' u' n') (show 0 < pw p (addE v n v' n' - v) by omega)
  exact ⟨e2, e1, by omega, by omega, by omega, by omega, hP.1, hP.2, hS.1, hS.2, r1, by unfold addR; omega, hX⟩
theorem spec_sum {p u u' a b : Int} (hp : 2 ≤ p) (ha : 0 ≤ a) (hb : 0 ≤ b) : (u + u' % pw p b * pw p a) % pw p (a + b) = (u + u' * pw p a) % pw p (a + b) := by
  apply emod_of_dvd_sub
  rw [pw_add ha hb]
  refine ⟨-(u' / pw p b), ?_⟩
  have := Int.emod_add_mul_ediv u' (pw p b)
  have e : u' % pw p b = u' - pw p b * (u' / pw p b) := by omega
  rw [e]; grind
theorem addE_comm (v n v' n' : Int) : addE v n v' n' = addE v' n' v n := by unfold addE; omega
theorem add_comm_pad {p v u n v' u' n' : Int} (h : POk p v u n) (h' : POk p v' u' n') : addT p v u n v' u' n' = addT p v' u' n' v u n := by
  by_cases h1 : v' < v
  · rw [addT_swap h1, addT_stay (by omega)]
  · by_cases h2 : v < v'
    · rw [addT_stay h1, addT_swap h2]
    · obtain rfl : v = v' := by omega
      rw [addT_stay h1, addT_stay h1]
      have hR : addR p v u n v u' n' = addR p v u' n' v u n := by
        have hE := addE_comm v n v n'
        unfold addR addS
        rw [← hE]
        split
        · rw [show v - v = 0 by omega, pw_zero, Int.mul_one, Int.mul_one, Int.add_comm]
        · have hp := (pok_bd h).2.2.1
          have hp' := (pok_bd h').2.2.1
          have e0 : addE v n v n' - v = 0 := by rename_i hlt; unfold addE at hlt ⊢; omega
          rw [e0, pw_zero]; omega
      unfold add0
      rw [hR, addE_comm v n v n']
/-- the end of a sum -/
theorem add_end (p v u n v' u' n' : Int) : (addT p v u n v' u' n').1 + (addT p v u n v' u' n').2.2 = addE v n v' n' := by
  have h0 : ∀ v u n v' u' n' : Int, (add0 p v u n v' u' n').1 + (add0 p v u n v' u' n').2.2 = addE v n v' n' := by
    intro v u n v' u' n'
    unfold add0
    split
    · simp
    · simp only; omega
  by_cases h1 : v' < v
  · rw [addT_swap h1, h0, addE_comm]
  · rw [addT_stay h1, h0]
/-- the opposite unit -/
def negU (p u n : Int) : Int := -u % pw p n
theorem negU_zero {p v u n : Int} (h : POk p v u n) (hn : n = 0) : negU p u n = u := by
  have := pok_zero h hn
  subst hn; subst this; unfold negU; rw [pw_zero]; rfl
theorem negU_sub {p v u n : Int} (h : POk p v u n) (hn : n ≠ 0) : negU p u n = ringM p n - u := by
  obtain ⟨e, h0, h1, h2, h3, h4⟩ := pok_ring h hn
  unfold negU
  rw [← e, ← Int.add_emod_right, Int.emod_eq_of_lt (by omega) (by omega)]; omega
theorem dvd_ringM {p n : Int} (h : ringM p n ≠ 0) : p ∣ ringM p n := by
  obtain ⟨j, _, e, _⟩ := ringM_succ h
  rw [e]; exact ⟨p ^ j, Int.mul_comm _ _⟩
theorem emod_ringM {p n a : Int} (h : ringM p n ≠ 0) : a % ringM p n % p = a % p := Int.emod_emod_of_dvd _ (dvd_ringM h)
theorem neg_ok {p v u n : Int} (h : POk p v u n) : POk p v (negU p u n) n := by
  by_cases hn : n = 0
  · rw [negU_zero h hn]; exact h
  · obtain ⟨e, h0, h1, h2, h3, h4⟩ := pok_ring h hn
    have hs := negU_sub h hn
    refine ⟨h.1, h.2.1, h.2.2.1, h.2.2.2.1, h.2.2.2.2.1, .inr ⟨h1, by omega, by omega, ?_⟩⟩
    unfold negU
    rw [← e, emod_ringM h0]
    intro hz
    apply h4
    have hd := Int.dvd_of_emod_eq_zero hz
    exact Int.emod_eq_zero_of_dvd (Int.dvd_neg.1 hd)
/-- a number and its opposite, the second with fewer digits: a zero -/
theorem add_neg {p v u n k : Int} (h : POk p v u n) (hk0 : 0 ≤ k) (hkn : k ≤ n) (hk : k = n ∨ 1 ≤ k) : addT p v u n v (negU p (u % pw p k) k) k = (v + k, 0, 0) := by
  have hp := (pok_bd h).1
  have hE : addE v n v k = v + k := by unfold addE; omega
  have hz : addR p v u n v (negU p (u % pw p k) k) k = 0 := by
    unfold addR addS
    rw [hE, show v + k - v = k by omega]
    split
    · rw [show v - v = 0 by omega, pw_zero, Int.mul_one]
      unfold negU
      have a := Int.emod_add_mul_ediv u (pw p k)
      have b := Int.emod_add_mul_ediv (-(u % pw p k)) (pw p k)
      refine Int.emod_eq_zero_of_dvd ⟨u / pw p k - -(u % pw p k) / pw p k, ?_⟩
      rw [Int.mul_sub]; omega
    · rename_i hlt
      obtain rfl : k = 0 := by omega
      rw [pw_zero]; omega
  rw [addT_stay (by omega), add0, if_pos hz, hE]
/-- how often p divides n, and what remains -/
theorem pad_rel {n p : Int} (hp : 2 ≤ p) : ∀ (f : Nat) (m c : Int), VRel n p m c → m * p ^ c.toNat = n → m.natAbs ≤ f →
    valRest n p * p ^ (valCount n p).toNat = n ∧ (valRest n p).tmod p ≠ 0 ∧ c ≤ valCount n p ∧ valCount n p ≤ n.natAbs := by
  intro f
  induction f with
  | zero => intro m c h _ hf; have := h.1; omega
  | succ f ih =>
    intro m c h hm hf
    by_cases h0 : m.tmod p = 0
    · obtain ⟨h2, h3⟩ := vRel_step hp h h0
      have e := Int.tmod_add_mul_tdiv m p
      rw [h0] at e
      have hc := h.2.1
      obtain ⟨a, b, c', d⟩ := ih _ _ h2 (by
        rw [← hm, show (c + 1).toNat = c.toNat + 1 by omega, Int.pow_succ]
        have e2 : m = p * m.tdiv p := by omega
        calc m.tdiv p * (p ^ c.toNat * p) = (p * m.tdiv p) * p ^ c.toNat := by grind
          _ = m * p ^ c.toNat := by rw [← e2]) (by omega)
      exact ⟨a, b, by omega, d⟩
    · obtain ⟨e1, e2⟩ := vRel_end h h0
      rw [← e1, ← e2]
      exact ⟨hm, h0, Int.le_refl _, by have := h.2.2.1; omega⟩
theorem pad_val {n p : Int} (hp : 2 ≤ p) (h0 : n ≠ 0) (h1 : n.natAbs ≤ 1000000000000) :
    valRest n p * pw p (valCount n p) = n ∧ (valRest n p).tmod p ≠ 0 ∧ 0 ≤ valCount n p ∧ valCount n p ≤ 39 := by
  obtain ⟨a, b, c, d⟩ := pad_rel hp n.natAbs n 0 (vRel_start h0 h1) (by simp) (Nat.le_refl _)
  refine ⟨a, b, c, ?_⟩
  have hr : 1 ≤ (valRest n p).natAbs := by
    have : valRest n p ≠ 0 := by intro hz; rw [hz] at b; simp at b
    omega
  have e : (valRest n p).natAbs * (p ^ (valCount n p).toNat).natAbs = n.natAbs := by rw [← Int.natAbs_mul, a]
  have hle : (p ^ (valCount n p).toNat).natAbs ≤ n.natAbs := by
    have := Nat.mul_le_mul_right (p ^ (valCount n p).toNat).natAbs hr
    omega
  refine Classical.byContradiction fun hn => ?_
  have g1 := two_pow_le hp (valCount n p).toNat
  have g2 := pow_le (p := 2) (by omega) (show 40 ≤ (valCount n p).toNat by omega)
  have g3 : (2 : Int) ^ 40 = 1099511627776 := by decide
  have g4 := pow_ge1 hp (valCount n p).toNat
  omega
/-- it divides on exactly while fewer than valCount steps are done -/
theorem pad_more {n p m c : Int} (hp : 2 ≤ p) (h : VRel n p m c) : (m.tmod p = 0 ↔ c < valCount n p) ∧ c ≤ valCount n p := by
  have le : ∀ (f : Nat) (m c : Int), VRel n p m c → m.natAbs ≤ f → c ≤ valCount n p := by
    intro f
    induction f with
    | zero => intro m c h hf; have := h.1; omega
    | succ f ih =>
      intro m c h hf
      by_cases h0 : m.tmod p = 0
      · obtain ⟨h2, h3⟩ := vRel_step hp h h0
        have := ih _ _ h2 (by omega)
        omega
      · have := (vRel_end h h0).1; omega
  refine ⟨⟨fun h0 => ?_, fun hlt => ?_⟩, le _ m c h (Nat.le_refl _)⟩
  · obtain ⟨h2, h3⟩ := vRel_step hp h h0
    have := le _ _ _ h2 (Nat.le_refl _)
    omega
  · by_cases h0 : m.tmod p = 0
    · exact h0
    · have := (vRel_end h h0).1; omega
/-- what the walk of a sum needs when the sum is not 0 -/
theorem add_rest {p v u n v' u' n' : Int} (h : POk p v u n) (h' : POk p v' u' n') (hv : v ≤ v') (h0 : addR p v u n v' u' n' ≠ 0) :
    (addR p v u n v' u' n').natAbs ≤ 1000000000000 ∧ 0 ≤ valCount (addR p v u n v' u' n') p ∧ valCount (addR p v u n v' u' n') p ≤ 39 := by
  obtain ⟨_, _, _, _, _, _, _, _, _, _, r0, r1, _⟩ := add_facts h h' hv
  have hb : (addR p v u n v' u' n').natAbs ≤ 1000000000000 := by omega
  obtain ⟨_, _, c0, c1⟩ := pad_val (pok_bd h).1 h0 hb
  exact ⟨hb, c0, c1⟩
end Go.Proofs.Ytckpeoadglkbgaa
namespace Go.Proofs.Ytckpeoadglkbgaa
open Go.RowKit
set_option linter.unusedVariables false
set_option linter.unusedSimpArgs false
set_option maxRecDepth 20000
/-- the exponent of the greatest power of p, up to the modulus, that divides a residue -/
def partV (p n v : Int) : Int := if v = 0 then n else valCount v p
set_option maxHeartbeats 1000000 in
theorem l11Part_any (p n v : Int) (w : World) (hp2 : 2 ≤ p) (v0 : 0 ≤ v) (v9 : v ≤ 1000000000) :
    Calls Try.prog 79 #[.agg #[.int .i64 p, .int .i64 n], .int .i64 v] w fun e w' => e = .returned (.int .i64 (partV p n v)) ∧ Below w.heap.size w w' := by
  have hB := (Below.refl w.heap.size w).alloc (Nat.le_refl _) (.cells #[.int .i64 p, .int .i64 n] 25)
  by_cases hv : v = 0
  · have hk : (v == 0) = true := by simp [hv]
    rw [show partV p n v = n by simp [partV, hv]]
    clear hv
    go_enter Try.func79, Try.ntmps79
    go_wp2_with fail
    go_ret
    exact ⟨rfl, hB⟩
  · have hk : (v == 0) = false := by simp [hv]
    have hna : v.natAbs ≤ 1000000000000 := by omega
    have HV := Lib.hid hv
    rw [show partV p n v = valCount v p by simp [partV, hv]]
    clear hv
    go_enter Try.func79, Try.ntmps79
    go_wp2_with (go_at_call 102; refine (l01Val_any _ _ _ hp2 HV.out hna).mono ?_; rintro e w' ⟨rfl, rfl⟩)
    go_ret
    exact ⟨rfl, hB⟩
theorem partV_bd {p n v : Int} (hp : 2 ≤ p) (hn1 : 1 ≤ n) (hn2 : n ≤ 29) (v0 : 0 ≤ v) (v9 : v ≤ 1000000000) : 0 ≤ partV p n v ∧ partV p n v ≤ 39 := by
  unfold partV
  split
  · omega
  · rename_i h
    obtain ⟨_, _, a, b⟩ := pad_val (n := v) hp h (by omega)
    exact ⟨a, b⟩
/-- whether Hensel's general condition holds -/
def stabB (p n : Int) (f : List Int) (x : Int) : Bool := decide (2 * partV p n (vM (ringM p n) (derL f) x) < partV p n (vM (ringM p n) f x))
def stabV (p n : Int) (f : List Int) (x : Int) : Bool := if henC p n f x = 0 then stabB p n f x else false
set_option maxHeartbeats 2000000 in
theorem specStable_any (p n x : Int) {o : Option Addr} {k c : Nat} {f : List Int} {w : World} (h : Seen w o k c f) :
    Calls Try.prog 36 #[.agg #[.int .i64 p, .int .i64 n], .slice o k c, .int .i64 x] w fun e w' => e = .returned (.tuple #[.bool (stabV p n f x), .int .i64 (henC p n f x)]) ∧ Below w.heap.size w w' := by
  have HS := Lib.hid h
  clear h
  by_cases hr : henC p n f x = 0
  · obtain ⟨hp, h0, hx0, hx1⟩ := henC_zero hr
    obtain ⟨hp2, _, hn1, hn2, hm1, hm2, _⟩ := ringM_bd h0
    have H := Lib.hid (And.intro (ringM_in h0).1 (And.intro hn1 (show n ≤ 1000 by omega)))
    have HF := Lib.hid (poly_cof9 hp)
    have HD := Lib.hid (der_cof9 hp)
    have hd := der_len9 hp
    have HP := Lib.hid hp
    have hx9 : x ≤ 1000000000 := by omega
    obtain ⟨a0, a1⟩ := vM_range (m := ringM p n) (by omega) f x
    obtain ⟨b0, b1⟩ := vM_range (m := ringM p n) (by omega) (derL f) x
    have a9 : vM (ringM p n) f x ≤ 1000000000 := by omega
    have b9 : vM (ringM p n) (derL f) x ≤ 1000000000 := by omega
    obtain ⟨e0, e1⟩ := partV_bd (n := n) hp2 hn1 hn2 b0 b9
    have w1 : IntKind.i64.wrap (2 * partV p n (vM (ringM p n) (derL f) x)) = 2 * partV p n (vM (ringM p n) (derL f) x) := IntWalk.i64_in _ (by omega)
    rw [show stabV p n f x = stabB p n f x by simp [stabV, hr], hr]
    have HR := Lib.hid hr
    have HST := Lib.hid (show stabB p n f x = decide (2 * partV p n (vM (ringM p n) (derL f) x) < partV p n (vM (ringM p n) f x)) from rfl)
    clear h0 hr hp
    go_enter Try.func36, Try.ntmps36
    go_wp2_with (first | (go_at_call 62; refine (l11Code_any _ _ _ (seen_al HS.out _)).mono ?_; rintro e wn ⟨rfl, hb⟩; have hH := keep_first hb; obtain ⟨hB, c0, c1⟩ := hH; rw [HR.out]) | (go_at_call 66; refine (l02Modulus_any _ _ _ H.out.1 H.out.2.1 H.out.2.2).mono ?_; rintro e wn ⟨rfl, rfl⟩))
    have hst : Below w.heap.size w wn.drew ∧ wn.drew.cell? ⟨w.heap.size, 0, none⟩ = some (.int .i64 p) ∧ wn.drew.cell? ⟨w.heap.size, 1, none⟩ = some (.int .i64 n) := ⟨below_drewN hB 1, c0, c1⟩
    have HDer := Lib.hid fun (W : World) (hw : Below w.heap.size w W) => l06Der_any (seen_below HS.out hw) HP.out
    have HVal := Lib.hid fun (W : World) (hw : Below w.heap.size w W) => l11Value_any (ringM p n) x hm1 hm2 hx0 hx9 (seen_below HS.out hw) HF.out
    go_region_held3 (fun W' => Below w.heap.size w W' ∧ W'.cell? ⟨w.heap.size, 0, none⟩ = some (.int .i64 p) ∧ W'.cell? ⟨w.heap.size, 1, none⟩ = some (.int .i64 n)) (first | exact hst | exact keep11 ‹_› hq1 | exact keep11 ‹_› hq2 | exact keep11 ‹_› hq3 | assumption)
      (first | (go_at_call 63; with_reducible refine (HVal.out _ (And.left ‹_›)).mono ?_; rintro e w1 ⟨rfl, rfl⟩) | (go_at_call 79; with_reducible refine (l11Part_any p n (vM (ringM p n) f x) _ hp2 a0 a9).mono ?_; rintro e w1 ⟨rfl, hq1⟩) | (go_at_call 64; refine (HDer.out _ (And.left ‹_›)).mono ?_; rintro e w2 ⟨v, rfl, hr2, hq2⟩; obtain ⟨o2, c2, rfl, HS2⟩ := seen_row hr2 hd) | (go_at_call 63; with_reducible refine (l11Value_any _ _ hm1 hm2 hx0 hx9 HS2 HD.out).mono ?_; rintro e w3 ⟨rfl, rfl⟩) | (go_at_call 79; with_reducible refine (l11Part_any p n (vM (ringM p n) (derL f) x) _ hp2 b0 b9).mono ?_; rintro e w3 ⟨rfl, hq3⟩))
    go_wp2_with fail
    go_ret2
    exact ⟨by rw [HST.out]; rfl, (And.left ‹_›)⟩
  · rw [show stabV p n f x = false by simp [stabV, hr]]
    have hk : (henC p n f x == 0) = false := by simp [hr]
    clear hr
    go_enter Try.func36, Try.ntmps36
    go_wp2_with (go_at_call 62; refine (l11Code_any _ _ _ (seen_al HS.out _)).mono ?_; rintro e wn ⟨rfl, hb⟩; have hH := keep_first hb; obtain ⟨hB, c0, c1⟩ := hH)
    go_ret2
    exact ⟨rfl, hB⟩
end Go.Proofs.Ytckpeoadglkbgaa
namespace Go.Proofs.Ytckpeoadglkbgaa
open Go.RowKit
set_option linter.unusedVariables false
set_option maxRecDepth 20000
set_option linter.unusedSimpArgs false
/-- sum on the way: k entries of the second list are added -/
def addW (f g : List Int) (k : Nat) : List Int := tabL 9 fun i => f.getD i 0 + (if i < k then g.getD i 0 else 0)
theorem addW_zero (f g : List Int) : addW f g 0 = padL f := tabL_ext fun i _ => by rw [if_neg (by omega), Int.add_zero]
theorem addW_length (f g : List Int) (k : Nat) : (addW f g k).length = 9 := tabL_length _ _
theorem addW_at {f g : List Int} {k : Nat} (hk : k < 9) : (addW f g k).getD k 0 = f.getD k 0 := by
  unfold addW; rw [tabL_getD hk, if_neg (Nat.lt_irrefl _), Int.add_zero]
theorem addW_step {f g : List Int} {k : Nat} (hk : k < 9) : (addW f g k).set k (f.getD k 0 + g.getD k 0) = addW f g (k + 1) := by
  unfold addW
  rw [tab_set _ hk]
  refine tabL_ext fun i hi => ?_
  by_cases e : i = k
  · subst e; rw [if_pos rfl, if_pos (by omega)]
  · rw [if_neg e]
    by_cases h2 : i < k
    · rw [if_pos h2, if_pos (by omega)]
    · rw [if_neg h2, if_neg (by omega)]
theorem addW_end {f g : List Int} (hf : f.length ≤ 9) (hg : g.length ≤ 9) : trimL (addW f g g.length) = trimL (addL f g 1) := by
  rw [← add_pad hf hg]
  refine congrArg trimL (tabL_ext fun i _ => ?_)
  by_cases h : i < g.length
  · rw [if_pos h]
  · rw [if_neg h, getD_out (l := g) (by omega)]
def derW (f : List Int) (k : Nat) : List Int := tabL 9 fun j => if j + 1 < k then ((j : Int) + 1) * f.getD (j + 1) 0 else 0
theorem derW_one (f : List Int) : derW f 1 = tabL 9 fun _ => 0 := tabL_ext fun i _ => by rw [if_neg (by omega)]
theorem derW_step {f : List Int} {k m : Nat} (hk : k < 9) (hm : m + 1 = k) : (derW f k).set m ((k : Int) * f.getD k 0) = derW f (k + 1) := by
  unfold derW
  rw [tab_set _ (by omega)]
  refine tabL_ext fun i hi => ?_
  by_cases e : i = m
  · subst e; rw [if_pos rfl, if_pos (by omega), ← hm]; push_cast; rfl
  · rw [if_neg e]
    by_cases h2 : i + 1 < k
    · rw [if_pos h2, if_pos (by omega)]
    · rw [if_neg h2, if_neg (by omega)]
theorem derW_end {f : List Int} {k : Nat} (hf : f.length ≤ 9) (hk : k = f.length ∨ k = 1 ∧ f.length = 0) : trimL (derW f k) = trimL (derL f) := by
  rw [← der_pad hf]
  refine congrArg trimL (tabL_ext fun i _ => ?_)
  rcases hk with rfl | ⟨rfl, h⟩
  · rfl
  · rw [if_neg (by omega), if_neg (by omega)]
def revW (f : List Int) (k : Nat) : List Int := tabL 9 fun j => if f.length ≤ j + k ∧ j < f.length then f.getD (f.length - 1 - j) 0 else 0
theorem revW_zero (f : List Int) : revW f 0 = tabL 9 fun _ => 0 := tabL_ext fun i _ => by rw [if_neg (by omega)]
theorem revW_step {f : List Int} {k m : Nat} (hf : f.length ≤ 9) (hm : m + k + 1 = f.length) : (revW f k).set m (f.getD k 0) = revW f (k + 1) := by
  unfold revW
  rw [tab_set _ (by omega)]
  refine tabL_ext fun i hi => ?_
  by_cases e : i = m
  · subst e; rw [if_pos rfl, if_pos (by omega), show f.length - 1 - i = k by omega]
  · rw [if_neg e]
    by_cases h2 : f.length ≤ i + k ∧ i < f.length
    · rw [if_pos h2, if_pos (by omega)]
    · rw [if_neg h2, if_neg (by omega)]
theorem revW_end {f : List Int} (hf : f.length ≤ 9) : trimL (revW f f.length) = trimL (revL f) := by
  rw [← rev_pad hf]
  refine congrArg trimL (tabL_ext fun i _ => ?_)
  by_cases h : i < f.length
  · rw [if_pos ⟨by omega, h⟩, if_pos h]
  · rw [if_neg (by omega), if_neg h]
end Go.Proofs.Ytckpeoadglkbgaa
namespace Go.Proofs.Ytckpeoadglkbgaa
open Go.RowKit
set_option linter.unusedVariables false
set_option linter.unusedSimpArgs false
set_option maxRecDepth 20000
set_option maxHeartbeats 2000000 in
theorem liftR_any {p q a : Int} (h0 : ringM p q ≠ 0) (a0 : 0 ≤ a) (a1 : a < p) {o : Option Addr} {n c : Nat} {f : List Int} {w : World} (h : Seen w o n c f) (hp : polyB f = true) (hs : SimpleR p f a) :
    Calls Try.prog 55 #[.agg #[.int .i64 p, .int .i64 q], .slice o n c, .int .i64 a] w fun e w' => ∃ x, e = .returned (.int .i64 x) ∧ LiftOf p q.toNat f a x ∧ Below w.heap.size w w' := by
  obtain ⟨hp2, hp97, hn1, hn2, hm1, hm2, _⟩ := ringM_bd h0
  have HM := Lib.hid (ringM_in h0).2.2.2
  have HS := Lib.hid h
  have HF := Lib.hid (poly_cof9 hp)
  have HP := Lib.hid hp
  have HQ := Lib.hid hs
  have H0 := Lib.hid h0
  have hst := Lib.hid (onway_start (n := q.toNat) hp2 (by omega) a0 a1 hs)
  obtain ⟨M, hR⟩ : ∃ M, ringM p q = M := ⟨_, rfl⟩
  have HR := Lib.hid hR
  have m2 : 2 ≤ M := by omega
  have m9 : M ≤ 1000000000 := by omega
  have HV := Lib.hid fun (x : Int) (x0 : 0 ≤ x) (x1 : x < M) (W : World) (hw : Below w.heap.size w W) => valueAtR_any hR m2 m9 x0 x1 (seen_below h hw) HF.out
  have HN := Lib.hid fun (x : Int) (x0 : 0 ≤ x) (x1 : x < M) (W : World) (hw : Below w.heap.size w W) => newtonR_any hR m2 m9 x0 x1 (seen_below h hw) HP.out
  clear h hp hs h0 hR
  go_enter Try.func55, Try.ntmps55
  go_wp2_with fail
  go_loopw [2] (fun v wr => ∃ (x : Int), v = .int .i64 x ∧ OnWay p q.toNat f a 1 x ∧ Below w.heap.size w wr ∧ wr.cell? ⟨w.heap.size, 0, none⟩ = some (.int .i64 p) ∧ wr.cell? ⟨w.heap.size, 1, none⟩ = some (.int .i64 q)) (fun v _ => q.toNat - wayN p f (intOf v) q.toNat)
  case atStart => exact ⟨a, rfl, hst.out, (Below.refl _ _).alloc (Nat.le_refl _) _, World.cell?_alloc_new _ _ _ _ ▸ rfl, World.cell?_alloc_new _ _ _ _ ▸ rfl⟩
  case round =>
    obtain ⟨x, rfl, hW, hB, c0, c1⟩ := hrel
    have x0 := hW.1
    have x1 : x < M := by have := hW.2.1; have := HM.out; have := HR.out; omega
    have HB := Lib.hid hB
    have hq1 : 1 ≤ q.toNat := by omega
    by_cases hz : vM M f x = 0
    · have hk : (vM M f x != 0) = false := by simp [hz]
      have HL := Lib.hid (show LiftOf p q.toNat f a x by
        refine onway_lift ⟨hW.1, hW.2.1, hW.2.2.1, ?_⟩
        rw [← HM.out, HR.out]
        exact (vM_zero (by omega) f x).1 hz)
      have hv := HV.out x x0 x1 wr hB
      rw [hz] at hv
      have HVX := Lib.hid hv
      clear hW hB hv hz
      go_wp2_with (go_at_call 67; refine HVX.out.mono ?_; rintro e wn ⟨rfl, hb⟩; have hb1 := keep11 ⟨HB.out, c0, c1⟩ hb; clear hb)
      go_ret
      exact ⟨x, rfl, HL.out, hb1.1⟩
    · have hk : (vM M f x == 0) = false := by simp [hz]
      have hk2 : (vM M f x != 0) = true := by simp [hz]
      have hK1 : 1 ≤ wayN p f x q.toNat := wayN_ge hW.2.2.2 _ hq1
      have hK2 := wayN_le p f x q.toNat
      have hK3 : wayN p f x q.toNat < q.toNat := by
        rcases Nat.lt_or_eq_of_le hK2 with h1 | h1
        · exact h1
        · exfalso
          apply hz
          rw [vM_zero (by omega), ← HR.out, HM.out]
          have := wayN_dvd p f x q.toNat
          rwa [h1] at this
      have hN := way_next H0.out hK1 hK2 ⟨hW.1, hW.2.1, hW.2.2.1, wayN_dvd p f x q.toNat⟩ HQ.out
      rw [HR.out] at hN
      have hN2 := wayN_ge hN.2.2.2 q.toNat (Nat.min_le_right _ _)
      have HD := Lib.hid (show q.toNat - wayN p f (stepV M f x) q.toNat < q.toNat - wayN p f x q.toNat by omega)
      have HW := Lib.hid (show OnWay p q.toNat f a 1 (stepV M f x) from ⟨hN.1, hN.2.1, hN.2.2.1, Int.dvd_trans (pow_div (by omega)) hN.2.2.2⟩)
      have HVX := Lib.hid (HV.out x x0 x1 wr hB)
      clear hW hB hN hN2 hK1 hK2 hK3
      go_wp2_with (first | (go_at_call 67; refine HVX.out.mono ?_; rintro e wn ⟨rfl, hb⟩; obtain ⟨hB1, d0, d1⟩ := keep11 ⟨HB.out, c0, c1⟩ hb; clear hb) | (go_at_call 61; refine (HN.out x x0 x1 _ hB1).mono ?_; rintro e wn2 ⟨rfl, hb⟩; have hb2 := keep11 ⟨hB1, d0, d1⟩ hb; clear hb))
      exact ⟨⟨_, rfl, HW.out, hb2⟩, HD.out⟩
theorem gN_bd {M : Int} (m2 : 2 ≤ M) (m9 : M ≤ 1000000000) (l : List Int) (k : Nat) : 1 ≤ gN M l k ∧ gN M l k ≤ 1000000000 := by
  have h1 := gN_pos (m := M) (by omega) l k
  have h2 := gN_le (m := M) (by omega) l k
  omega
set_option maxHeartbeats 1000000 in
theorem partR_any {p q M : Int} (hR : ringM p q = M) (m2 : 2 ≤ M) (m9 : M ≤ 1000000000) {o : Option Addr} {n c : Nat} {l : List Int} {w : World} (h : Seen w o n c l) (hc : Cof9 l) :
    Calls Try.prog 78 #[.agg #[.int .i64 p, .int .i64 q], .slice o n c] w fun e w' => e = .returned (.int .i64 (gN M l l.length)) ∧ Below w.heap.size w w' := by
  have HS := Lib.hid h
  have hn9 := h.2.1
  have HL := Lib.hid h.1
  have HC := Lib.hid hc
  have HM := Lib.hid fun w => modulusR_any hR w
  clear h hc
  go_enter Try.func78, Try.ntmps78
  go_wp2_with (go_at_call 71; refine (HM.out _).mono ?_; rintro e wn ⟨rfl, hb⟩; have hH := keep_first hb; clear hb; obtain ⟨hB, c0, c1⟩ := hH)
  have HB := Lib.hid hB
  clear hB
  go_loopw [5, 12] (fun a i wr => ∃ k : Nat, k ≤ n ∧ i = .int .i64 k ∧ a = .int .i64 (gN M l k) ∧ ∃ m, wr = wn.drewN m) (fun _ i _ => n - (intOf i).toNat)
  case atStart => exact ⟨0, Nat.zero_le _, rfl, rfl, 0, rfl⟩
  case round =>
    obtain ⟨k, hk, rfl, rfl, m, rfl⟩ := hrel
    by_cases hlt : k < n
    · obtain ⟨hl', hn', hno', hnc', a', h1', h2'⟩ := seen_below HS.out HB.out
      obtain ⟨rfl, hag'⟩ := h1' (by omega)
      have b2 : (wn.drewN m).cell? ⟨a', k, none⟩ = _ := h2' k hlt
      have HH := Lib.hid (show gN M l (k + 1) = ((Int.gcd (gN M l k) (l.getD k 0) : Nat) : Int) from rfl)
      obtain ⟨a0, a1⟩ := gN_bd m2 m9 l k
      obtain ⟨z0, z1⟩ := HC.out k
      clear hl' hn' hno' h1' h2'
      generalize gN M l k = a at *
      generalize l.getD k 0 = z at *
      go_wp2_with fail
      refine (gd_any _ _ _ (by omega) (by omega) (by omega) (by omega)).mono ?_
      rintro e w' ⟨rfl, m', rfl⟩
      go_wp2_with fail
      exact ⟨⟨k + 1, by omega, by go_num, by rw [HH.out], m + m', by first | rfl | rw [World.drewN_drewN]⟩, by simp only [intOf]; omega⟩
    · have hkn : gN M l k = gN M l l.length := by rw [← HL.out, show k = n by omega]
      rw [hkn]
      clear hkn
      go_wp2_with fail
      go_ret
      exact ⟨rfl, below_drewN HB.out m⟩
/-! checks -/
theorem henC_poly {p q x : Int} {f : List Int} (h : polyB f = true) : henC p q f x = rgC p q x := by simp [henC, h]
set_option maxHeartbeats 1000000 in
theorem checkRoots1_any (p q a : Int) {b : Nat} {o : Option Addr} {n c : Nat} {f : List Int} {w : World} (h : Seen w o n c f) (hc : w.cell? ⟨b, 0, none⟩ = some (.int .i64 a)) (hlt : b < w.heap.size) :
    Calls Try.prog 53 #[.agg #[.int .i64 p, .int .i64 q], .slice o n c, .slice (some ⟨b, 0, none⟩) 1 1] w fun e w' => e = .returned (.int .i64 (henC p q f a)) ∧ Below w.heap.size w w' := by
  have HS := Lib.hid h
  have hB := (Below.refl w.heap.size w).alloc (Nat.le_refl _) (.cells #[.int .i64 p, .int .i64 q] 25)
  have HC := Lib.hid (show (w.alloc (.cells #[.int .i64 p, .int .i64 q] 25)).cell? ⟨b, 0, none⟩ = some (.int .i64 a) by rw [hB.cell (p := ⟨b, 0, none⟩) hlt]; exact hc)
  have HLT := Lib.hid (show b < (w.alloc (.cells #[.int .i64 p, .int .i64 q] 25)).heap.size by simp; omega)
  clear h hc hlt hB
  cases hp : polyB f
  · rw [show henC p q f a = 1 by simp [henC, hp]]
    go_enter Try.func53, Try.ntmps53
    go_wp2_with (go_at_call 86; refine (implIsPoly_any (seen_al HS.out _)).mono ?_; rw [hp]; rintro e w2 ⟨rfl, rfl⟩)
    go_ret
    exact ⟨rfl, (Below.refl _ _).alloc (Nat.le_refl _) _⟩
  · rw [henC_poly hp]
    go_enter Try.func53, Try.ntmps53
    go_wp2_with (first | (go_at_call 86; refine (implIsPoly_any (seen_al HS.out _)).mono ?_; rw [hp]; rintro e w2 ⟨rfl, rfl⟩) | (go_at_call 76; refine (checkOne_any p q a b _ HC.out HLT.out).mono ?_; rintro e wn ⟨rfl, hb⟩))
    go_ret
    exact ⟨rfl, below_one hb⟩
theorem ringC_sim {p q : Int} {f : List Int} (h : polyB f = true) : simC p q f = ringC p q := by simp [simC, ringC, h]
theorem simC_bad {p q : Int} {f : List Int} (h : polyB f = false) : simC p q f = 1 := by simp [simC, h]
set_option maxHeartbeats 1000000 in
theorem checkRoots0_any (p q : Int) {o : Option Addr} {n c : Nat} {f : List Int} {w : World} (h : Seen w o n c f) :
    Calls Try.prog 53 #[.agg #[.int .i64 p, .int .i64 q], .slice o n c, .slice none 0 0] w fun e w' => e = .returned (.int .i64 (simC p q f)) ∧ Below w.heap.size w w' := by
  have HS := Lib.hid h
  clear h
  cases hp : polyB f
  · rw [simC_bad hp]
    go_enter Try.func53, Try.ntmps53
    go_wp2_with (go_at_call 86; refine (implIsPoly_any (seen_al HS.out _)).mono ?_; rw [hp]; rintro e w2 ⟨rfl, rfl⟩)
    go_ret
    exact ⟨rfl, (Below.refl _ _).alloc (Nat.le_refl _) _⟩
  · rw [ringC_sim hp]
    go_enter Try.func53, Try.ntmps53
    go_wp2_with (first | (go_at_call 86; refine (implIsPoly_any (seen_al HS.out _)).mono ?_; rw [hp]; rintro e w2 ⟨rfl, rfl⟩) | (go_at_call 76; refine (checkNil_any p q _).mono ?_; rintro e wn ⟨rfl, hb⟩))
    go_ret
    exact ⟨rfl, below_one hb⟩
end Go.Proofs.Ytckpeoadglkbgaa
namespace Go.Proofs.Ytckpeoadglkbgaa
open Go.RowKit Go.Shelf
set_option linter.unusedVariables false
set_option linter.unusedSimpArgs false
set_option maxRecDepth 20000
theorem Try.infoCls : (Try.prog.info? 87).map (fun i => (i.zero, i.size, i.bytes)) = some (some (.agg #[.int .i64 0, .int .i64 0]), 2, 16) := by kernel_rfl
/-- a row of classes of the call's own memory -/
def ClsRow (base : Nat) (w : World) (v : Value) (l : List (Int × Int)) : Prop := w.ownsRow base 87 2 v l.length (pc l)
theorem clsRow_nil (base : Nat) (w : World) : ClsRow base w (.slice none 0 0) [] := World.ownsRow_nil _ _ _ _
theorem clsRow_snoc {base : Nat} {w' : World} {v' : Value} {acc : List (Int × Int)} {a b : Int} (h : w'.ownsRow base 87 2 v' (acc.length + 1) (pc acc ++ [.int .i64 a, .int .i64 b])) : ClsRow base w' v' (acc ++ [(a, b)]) := by
  unfold ClsRow; rw [pc_snoc, List.length_append]; exact h
theorem news_twoC (w : World) (a b : Value) (T : TypeId) : ∀ j u, [a, b][j]? = some u → (w.alloc (.cells #[a, b] T)).cell? ((⟨w.heap.size, 0, none⟩ : Addr).add j) = some u := by
  intro j u h
  match j, h with
  | 0, h => simp at h; subst h; simp [Addr.add]
  | 1, h => simp at h; subst h; simp [Addr.add]
theorem one_twoC {k l : IntKind} (a b : Int) : ∀ u ∈ [Value.int k a, Value.int l b], u.oneCell' = true := by
  intro u hu; simp at hu; rcases hu with rfl | rfl <;> rfl
theorem own_slice {w : World} {b n sz : Nat} {T : TypeId} {v : Value} {xs : List Value} (h : w.ownsRow b T sz v n xs) : ∃ o c, v = .slice o n c := by
  rcases h.2 with ⟨rfl, rfl⟩ | ⟨g, cap, cur, rfl, _⟩
  · exact ⟨none, 0, rfl⟩
  · exact ⟨_, cap, rfl⟩
/-- what stays: all cells but those of classes and of the box bc -/
structure KpT (bc : Nat) (W W' : World) : Prop where
  size : W.heap.size ≤ W'.heap.size
  keep : ∀ (j : Nat) (arr : Array Value) (T : TypeId) (fr : Nat × Nat), W.heap[j]? = some (.cells arr T fr) → T ≠ 87 → j ≠ bc → W'.heap[j]? = some (.cells arr T fr)
theorem kpT_refl (bc : Nat) (W : World) : KpT bc W W := ⟨Nat.le_refl _, fun _ _ _ _ h _ _ => h⟩
theorem KpT.trans {bc : Nat} {A B C : World} (h : KpT bc A B) (k : KpT bc B C) : KpT bc A C := ⟨Nat.le_trans h.size k.size, fun j arr T fr e hT hj => k.keep j arr T fr (h.keep j arr T fr e hT hj) hT hj⟩
theorem kpT_below {bc : Nat} {A B : World} (h : Below A.heap.size A B) : KpT bc A B := ⟨h.size, fun j arr T fr e _ _ => (h.block j (Array.getElem?_eq_some_iff.1 e).1).trans e⟩
theorem kpT_grown {b n : Nat} {xs : List Value} {bc : Nat} {A B : World} {v : Value} (hr : A.ownsRow b 87 2 v n xs) (hg : A.grownBy B v.ownBlock) : KpT bc A B :=
  ⟨hg.size, fun j arr T fr e hT _ => by
    refine (hg.block j (Array.getElem?_eq_some_iff.1 e).1 fun ej => ?_).trans e
    rcases hr.2 with ⟨rfl, _⟩ | ⟨g, cap, cur, rfl, _, hgb, _⟩
    · simp [Value.ownBlock] at ej
    · have : j = g := by simpa [Value.ownBlock] using ej
      subst this
      rw [hgb] at e; cases e; exact hT rfl⟩
theorem kpT_set (A : World) (b : Nat) (v : Value) : KpT b A (A.setCell ⟨b, 0, none⟩ v) := ⟨Nat.le_of_eq (World.size_setCell _ _ _).symm, fun j arr T fr e _ hj => (Below.heap_setCell _ _ _ _ hj).trans e⟩
theorem kpT_int {bc b : Nat} {A B : World} {v : Value} {l : List Int} (h : KpT bc A B) (hr : IntRow b A v l) (hb : bc < b) : IntRow b B v l := by
  refine ⟨hr.1, ?_⟩
  rcases hr.2 with hn | ⟨g, cap, cur, rfl, hbg, hgg, rest⟩
  · exact .inl hn
  · exact .inr ⟨g, cap, cur, rfl, hbg, h.keep g cur _ _ hgg (by decide) (by omega), rest⟩
theorem kpT_ring {bc b : Nat} {A B : World} {p q : Int} (h : KpT bc A B) (hr : RingAt A b p q) (hb : b ≠ bc) : RingAt B b p q := h.keep b _ _ _ hr (by decide) hb
theorem kpT_boxed {bc b : Nat} {A B : World} {T : TypeId} {v : Value} (h : KpT bc A B) (hr : Boxed A b T v) (hb : b ≠ bc) (hT : T ≠ 87) : Boxed B b T v := h.keep b _ _ _ hr hT hb
/-- the function itself, with what it captured -/
def fnV (w0 : World) : Value := (.func (.func 96) #[] #[.pointer (some ⟨w0.heap.size + 1, 0, none⟩), .pointer (some ⟨w0.heap.size, 0, none⟩), .pointer (some ⟨w0.heap.size + 1 + 1, 0, none⟩)])
/-- what the walk needs of memory -/
structure WkI (w0 : World) (p q : Int) (W : World) (v : Value) (L : List (Int × Int)) : Prop where
  ring : RingAt W w0.heap.size p q
  box : Boxed W (w0.heap.size + 1) 72 v
  row : ClsRow (w0.heap.size + 1 + 1 + 1) W v L
  fn : Boxed W (w0.heap.size + 1 + 1) 90 (fnV w0)
  bel : Below w0.heap.size w0 W
  sz : w0.heap.size + 1 + 1 + 1 ≤ W.heap.size
/-- .. while operations draw their order -/
def WkS (w0 : World) (p q : Int) (W : World) : Prop := Below w0.heap.size w0 W ∧ W.cell? ⟨w0.heap.size, 0, none⟩ = some (.int .i64 p) ∧ W.cell? ⟨w0.heap.size, 1, none⟩ = some (.int .i64 q) ∧ W.cell? ⟨w0.heap.size + 1 + 1, 0, none⟩ = some (.func (.func 96) #[] #[.pointer (some ⟨w0.heap.size + 1, 0, none⟩), .pointer (some ⟨w0.heap.size, 0, none⟩), .pointer (some ⟨w0.heap.size + 1 + 1, 0, none⟩)])
theorem wkI_S {w0 W : World} {p q : Int} {v : Value} {L : List (Int × Int)} (h : WkI w0 p q W v L) : WkS w0 p q W := ⟨h.bel, (ringAt_cells h.ring).1, (ringAt_cells h.ring).2, h.fn.cell⟩
theorem wkS_next {w0 W W' : World} {p q : Int} (h : WkS w0 p q W) (hb : Below W.heap.size W W') : WkS w0 p q W' := by
  obtain ⟨h1, h2, h3, h4⟩ := h
  exact ⟨h1.trans (hb.mono h1.size), by rw [hb.cell (World.block_lt_of_cell? _ _ h2)]; exact h2, by rw [hb.cell (World.block_lt_of_cell? _ _ h3)]; exact h3, by rw [hb.cell (World.block_lt_of_cell? _ _ h4)]; exact h4⟩
theorem wkS_drew {w0 W : World} {p q : Int} (h : WkS w0 p q W) : WkS w0 p q W.drew := ⟨below_drewN h.1 1, h.2.1, h.2.2.1, h.2.2.2⟩
theorem wkI_below {w0 W W' : World} {p q : Int} {v : Value} {L : List (Int × Int)} (h : WkI w0 p q W v L) (hb : Below W.heap.size W W') : WkI w0 p q W' v L :=
  ⟨ringAt_below h.ring hb, boxed_below8 h.box hb, World.ownsRow.kept (row := none) h.row ⟨hb.os, hb.tape, hb.output, hb.size, fun j hj _ => hb.block j hj⟩ (by cases hv : v.ownBlock <;> simp), boxed_below8 h.fn hb, h.bel.trans (hb.mono h.bel.size), Nat.le_trans h.sz hb.size⟩
theorem wkI_drew {w0 W : World} {p q : Int} {v : Value} {L : List (Int × Int)} (h : WkI w0 p q W v L) : WkI w0 p q W.drew v L := wkI_below h (below_drewN (Below.refl _ _) 1)
/-- the class put behind the others -/
theorem wkI_append {w0 W w1 : World} {p q a b : Int} {v v' : Value} {L : List (Int × Int)} {tmp : Obj} (h : WkI w0 p q W v L)
    (hown : w1.ownsRow (w0.heap.size + 1 + 1 + 1) 87 2 v' (L.length + 1) (pc L ++ [.int .i64 a, .int .i64 b])) (hgrow : (W.alloc tmp).grownBy w1 v.ownBlock) :
    Boxed w1 (w0.heap.size + 1) 72 v ∧ WkI w0 p q (w1.setCell ⟨w0.heap.size + 1, 0, none⟩ v') v' (L ++ [(a, b)]) ∧ KpT (w0.heap.size + 1) W (w1.setCell ⟨w0.heap.size + 1, 0, none⟩ v') := by
  have hr' : (W.alloc tmp).ownsRow (w0.heap.size + 1 + 1 + 1) 87 2 v L.length (pc L) := World.ownsRow.alloc h.row tmp
  have k1 : KpT (w0.heap.size + 1) W w1 := (kpT_below (below_a8 W tmp)).trans (kpT_grown hr' hgrow)
  have k2 := k1.trans (kpT_set w1 (w0.heap.size + 1) v')
  have hb1 : Boxed w1 (w0.heap.size + 1) 72 v := by
    have ha := boxed_below8 h.box (below_a8 W tmp)
    refine (hgrow.block _ ha.lt fun ej => ?_).trans ha
    rcases hr'.2 with ⟨rfl, _⟩ | ⟨g, cap, cur, rfl, hbg, hgb, _⟩
    · simp [Value.ownBlock] at ej
    · have : w0.heap.size + 1 = g := by simpa [Value.ownBlock] using ej
      omega
  refine ⟨hb1, ⟨kpT_ring k2 h.ring (by omega), hb1.set v', ?_, kpT_boxed k2 h.fn (by omega) (by decide), ?_, Nat.le_trans h.sz k2.size⟩, k2⟩
  · have := clsRow_snoc hown
    refine ⟨this.1, ?_⟩
    rcases this.2 with hn | ⟨g, cap, cur, rfl, hbg, hgg, rest⟩
    · exact .inl hn
    · exact .inr ⟨g, cap, cur, rfl, hbg, (Below.heap_setCell _ _ _ _ (by show g ≠ w0.heap.size + 1; omega)).trans hgg, rest⟩
  · refine Below.setCell (p := ⟨w0.heap.size + 1, 0, none⟩) ?_ (show w0.heap.size ≤ w0.heap.size + 1 by omega) v'
    exact below_grown (h.bel.alloc h.bel.size tmp) hr' hgrow (by omega) (by have := h.bel.size; simp; omega)
theorem rem_zero {v n : Int} (hn : 0 < n) (hv : 0 ≤ v) : (v.tmod n == 0) = decide (n ∣ v) := by
  rw [Int.tmod_eq_emod_of_nonneg hv]
  by_cases h : n ∣ v
  · rw [decide_eq_true h, Int.emod_eq_zero_of_dvd h]; rfl
  · rw [decide_eq_false h]
    simp only [beq_eq_false_iff_ne]
    exact fun e => h (Int.dvd_of_emod_eq_zero e)
/-- what a call answers -/
def WkP (w0 : World) (p q M : Int) (f : List Int) (x s : Int) (r : Nat) (W : World) (L : List (Int × Int)) (e : Ending) (W' : World) : Prop :=
  (∃ u, e = .returned u) ∧ ∃ v' C, WkI w0 p q W' v' (L ++ C) ∧ KpT (w0.heap.size + 1) W W' ∧ Each (expL M C) (RootAt M f s x) ∧ (∀ c ∈ C, ClsOk M c) ∧ (C.length : Int) ≤ p ^ r
set_option maxHeartbeats 2000000 in
theorem walk_leaf {p q M : Int} {f : List Int} {n : Nat} (hM : p ^ n = M) (hp : PrimeP p) (m9 : M ≤ 1000000000) {w0 W : World} {v : Value} {L : List (Int × Int)} {x s : Int} {k : Nat} {o : Option Addr} {c : Nat} (h : TrI p n f [] x s k) (hW : WkI w0 p q W v L) (hL : (L.length : Int) ≤ 1000000000) :
    Calls Try.prog 96 #[.slice o 0 c, .int .i64 x, .int .i64 s, .pointer (some ⟨w0.heap.size + 1, 0, none⟩), .pointer (some ⟨w0.heap.size, 0, none⟩), .pointer (some ⟨w0.heap.size + 1 + 1, 0, none⟩)] W (WkP w0 p q M f x s (n - k) W L) := by
  obtain ⟨i0, hi, hz0, hz1, hz2⟩ := info_parts Try.infoCls
  have HI := Lib.hid hi
  have HZ0 := Lib.hid hz0
  have HZ1 := Lib.hid hz1
  have HZ2 := Lib.hid hz2
  have HW := Lib.hid hW
  have q1 := hW.box.cell
  have HE := Lib.hid (tr_leaf hp.1 h)
  have HO := Lib.hid (tr_ok h)
  have HP := Lib.hid (pow_pos11 hp.1 (n - k))
  rw [hM] at HE HO
  clear hi hz0 hz1 hz2 hW h
  go_enter Try.func96, Try.ntmps96
  go_wp2_with (at_builtin; refine wpList_append_own _ rfl (.tmp 14) (.tmp 18) 72 rfl (w0.heap.size + 1 + 1 + 1) 87 i0 (.agg #[.int .i64 0, .int .i64 0]) 2 16 Try.underlying72 HI.out HZ0.out HZ1.out HZ2.out rfl (by decide) _ _ _ rfl (World.ownsRow.alloc HW.out.row _) ⟨W.heap.size, 0, none⟩ 1 1 [.int .i64 x, .int .i64 s] rfl rfl ?c1 ?c2 ?c3 ?c4 ?c5 ?_)
  case c1 => exact news_twoC _ _ _ _
  case c2 => exact one_twoC _ _
  case c3 => unfold maxLen; omega
  case c4 => omega
  case c5 => have := HW.out.sz; first | omega | (simp; omega)
  intro v' w1 hown hgrow _
  obtain ⟨o3, c3, rfl⟩ := own_slice hown
  obtain ⟨hb1, hI, hK⟩ := wkI_append HW.out hown hgrow
  have q2 := hb1.cell
  have q2f := hb1.frozen
  have HI2 := Lib.hid hI
  have HK2 := Lib.hid hK
  clear hown hgrow hb1 hI hK q1
  go_wp2_with fail
  go_end0
  exact ⟨⟨_, rfl⟩, _, [(x, s)], HI2.out, HK2.out, HE.out, (fun c hc => by rw [List.mem_singleton] at hc; subst hc; exact HO.out), by have := HP.out; show ((1 : Nat) : Int) ≤ _; omega⟩
set_option maxHeartbeats 8000000 in
theorem walk_any {p q M : Int} {f : List Int} (hR : ringM p q = M) (h0 : ringM p q ≠ 0) {w0 : World} : ∀ (r k : Nat), k + r = q.toNat → ∀ (W : World) (v : Value) (L : List (Int × Int)) (x s : Int) (b : Nat) (o : Option Addr) (n c : Nat) (g : List Int),
    TrI p q.toNat f g x s k → WkI w0 p q W v L → IntRow b W (.slice o n c) g → w0.heap.size + 1 < b → n ≤ 9 → (L.length : Int) + p ^ r ≤ M →
    Calls Try.prog 96 #[.slice o n c, .int .i64 x, .int .i64 s, .pointer (some ⟨w0.heap.size + 1, 0, none⟩), .pointer (some ⟨w0.heap.size, 0, none⟩), .pointer (some ⟨w0.heap.size + 1 + 1, 0, none⟩)] W (WkP w0 p q M f x s r W L) := by
  obtain ⟨hp2, hp97, hn1, hn2, m2, m9, hpm⟩ := ringM_bd h0
  have hpp := (small_prime (ringM_in h0).1).2.2
  have hMq := (ringM_in h0).2.2.2
  rw [hR] at m2 m9 hpm hMq
  intro r
  induction r with
  | zero =>
    intro k hk W v L x s b o n c g hT hW hg hb hn9 hL
    obtain rfl : k = q.toNat := by omega
    have hgl := row_len hg
    by_cases hg0 : g = []
    · subst hg0
      obtain rfl : n = 0 := by simpa using hgl.symm
      have := walk_leaf (p := p) (q := q) (M := M) (f := f) (n := q.toNat) hMq.symm hpp m9 (o := o) (c := c) hT hW (by have := pow_pos11 hp2 0; omega)
      rwa [Nat.sub_self] at this
    · obtain ⟨j, h1, h2, _⟩ := tr_low hpp hT hg0
      omega
  | succ r ih =>
    intro k hk W v L x s b o n c g hT hW hg hb hn9 hL
    have hgl := row_len hg
    by_cases hg0 : g = []
    · subst hg0
      obtain rfl : n = 0 := by simpa using hgl.symm
      have := walk_leaf (p := p) (q := q) (M := M) (f := f) (n := q.toNat) hMq.symm hpp m9 (o := o) (c := c) hT hW (by have := pow_pos11 hp2 (r + 1); omega)
      rwa [show q.toNat - k = r + 1 by omega] at this
    · obtain ⟨j0, hj1, hj2, hj3⟩ := tr_low hpp hT hg0
      have hn0 : n ≠ 0 := fun e => hg0 (List.length_eq_zero_iff.1 (hgl.trans e))
      rw [← hMq] at hj3
      have hs : s = p ^ k := hT.hq
      have hs0 : 0 < s := by rw [hs]; exact pow_pos11 hp2 k
      have hx0 := hT.x0
      have hx1 := hT.x1
      have hsp : s * p ≤ M := by
        rw [hs, ← Int.pow_succ, hMq]
        show p ^ (k + 1) ≤ p ^ q.toNat
        rcases Nat.lt_or_eq_of_le (show k + 1 ≤ q.toNat by omega) with h | h
        · have := pow_lt11 hp2 h; omega
        · rw [h]; exact Int.le_refl _
      have hsp2 : 2 * s ≤ s * p := by
        have := Int.mul_le_mul_of_nonneg_left hp2 (show 0 ≤ s by omega)
        rw [Int.mul_comm]; omega
      obtain ⟨NX, hNX⟩ : ∃ NX, p ^ (j0 + 1) = NX := ⟨_, rfl⟩
      have hNM : NX ∣ M := by rw [← hNX, hMq]; exact pow_div (by omega)
      have hNX0 : 0 < NX := by rw [← hNX]; exact pow_pos11 hp2 _
      have hNX9 : NX ≤ 1000000000 := by have := Int.le_of_dvd (by omega) hNM; omega
      have hPN : p ^ j0 * p = NX := by rw [← hNX, Int.pow_succ]
      obtain ⟨P, hP⟩ : ∃ P, p ^ j0 = P := ⟨_, rfl⟩
      rw [hP] at hPN
      have hwN : IntKind.i64.wrap NX = NX := IntWalk.i64_in _ (by omega)
      have hwP : IntKind.i64.wrap (P * p) = NX := by rw [hPN]; exact hwN
      have hnz : (NX == 0) = false := by simp; omega
      have hnn : ¬ ((n : Int) = 0) := by omega
      have HT := Lib.hid hT
      have HG := Lib.hid hg
      have HW := Lib.hid hW
      have hgm := hT.mod
      rw [← hMq] at hgm
      have hgc := Lib.hid (show Cof9 g from fun i => by have := hgm.rng i; omega)
      have hgl9 : g.length ≤ 1100000 := by omega
      subst hgl
      have HPA := Lib.hid fun (W' : World) (hw : Below W.heap.size W W') => partR_any hR m2 m9 (row_seen (row_below hg hw (Nat.le_refl _)) hgl9) hgc.out
      rw [hj3, hP] at HPA
      have HVA := Lib.hid fun (W' : World) (hw : IntRow b W' (.slice o g.length c) g) (d : Int) (d0 : 0 ≤ d) (d1 : d < M) => valueAtR_any hR m2 m9 d0 d1 (row_seen hw hgl9) hgc.out
      have HBE := Lib.hid fun (W' : World) (hw : IntRow b W' (.slice o g.length c) g) (d : Int) (d0 : 0 ≤ d) (d1 : d < p) => behind_any hR h0 d0 d1 (row_seen hw hgl9) hgm hn9
      have HSK := Lib.hid fun (d : Nat) (hd : ¬ NX ∣ pval g d) => tr_skip hp2 hT hj2 (by rw [← hMq]; exact hj3) (d := (d : Int)) (by rw [hNX]; exact hd)
      have HDN := Lib.hid fun (d : Nat) (d1 : (d : Int) < p) (hd : NX ∣ pval g d) => tr_down hpp hT hj1 hj2 (by rw [← hMq]; exact hj3) (d := (d : Int)) (by omega) d1 (by rw [hNX]; exact hd) (by rw [← hMq]; exact bhL_mod (by omega) (d : Int) p g g.length) (by rw [← hMq]; exact bhL_all (d : Int) p g)
      rw [← hMq] at HSK
      have HNP := Lib.hid (And.intro hNM (And.intro hMq hs))
      have HIHH := Lib.hid ih
      have HBB := Lib.hid hb
      have HLL := Lib.hid hL
      have HKR := Lib.hid hk
      have HH0 := Lib.hid h0
      have HRR := Lib.hid hR
      have c0 := (ringAt_cells hW.ring).1
      have c1 := (ringAt_cells hW.ring).2
      obtain ⟨pr, hpr⟩ : ∃ pr, p ^ r = pr := ⟨_, rfl⟩
      have HPR := Lib.hid hpr
      have hpr0 : 0 < pr := by rw [← hpr]; exact pow_pos11 hp2 r
      have hpr1 : p ^ (r + 1) = p * pr := by rw [Int.pow_succ, hpr, Int.mul_comm]
      rw [hpr1] at HLL
      have HPR1 := Lib.hid hpr1
      clear hT hg hW hj1 hj2 hj3 hs hNX hNM hPN hP hMq ih hb hL hk h0 hR hgm hg0 hpr hpr1 hpp hn0
      go_enter Try.func96, Try.ntmps96
      go_wp2_with fail
      have hst : Below W.heap.size W W.drew ∧ W.drew.cell? ⟨w0.heap.size, 0, none⟩ = some (.int .i64 p) ∧ W.drew.cell? ⟨w0.heap.size, 1, none⟩ = some (.int .i64 q) := ⟨below_drewN (Below.refl _ _) 1, c0, c1⟩
      go_region_held3 (fun W' => Below W.heap.size W W' ∧ W'.cell? ⟨w0.heap.size, 0, none⟩ = some (.int .i64 p) ∧ W'.cell? ⟨w0.heap.size, 1, none⟩ = some (.int .i64 q)) (first | exact hst | exact keep11 ‹_› hq1 | assumption)
        (first | (go_at_call 78; with_reducible refine (HPA.out _ (And.left ‹_›)).mono ?_; rintro e w3 ⟨rfl, hq1⟩))
      obtain ⟨hB0, d0, d1⟩ := ‹Below W.heap.size W w3 ∧ _›
      have HB0 := Lib.hid hB0
      clear hst hB0 c0 c1 hq1
      have c0 := d0
      have c1 := d1
      clear d0 d1
      go_wp2_with fail
      go_loopw [28] (fun i wr => ∃ (d : Nat) (v' : Value) (C : List (Int × Int)), i = .int .i64 (d : Int) ∧ (d : Int) ≤ p ∧ WkI w0 p q wr v' (L ++ C) ∧ KpT (w0.heap.size + 1) W wr ∧ Each (expL M C) (RootTo M f p s x d) ∧ (∀ c ∈ C, ClsOk M c) ∧ (C.length : Int) ≤ d * pr) (fun i _ => (p - intOf i).toNat)
      case atStart => exact ⟨0, v, [], rfl, by omega, by rw [List.append_nil]; exact wkI_below HW.out HB0.out, kpT_below HB0.out, ⟨List.nodup_nil, fun y => ⟨(fun h => by cases h), (fun h => absurd h (rootTo_zero _ _ _ _ _ _))⟩⟩, (fun c hc => by cases hc), by simp⟩
      case round =>
        obtain ⟨j, v', C, rfl, hj, hI, hK, hE, hO, hLC⟩ := hrel
        have c0 := (ringAt_cells hI.ring).1
        have c1 := (ringAt_cells hI.ring).2
        have HII := Lib.hid hI
        have HKK := Lib.hid hK
        have HEE := Lib.hid hE
        have HOO := Lib.hid hO
        have HLC := Lib.hid hLC
        have HGR := Lib.hid (kpT_int hK HG.out HBB.out)
        clear hI hK hE hO hLC
        by_cases hlt : (j : Int) < p
        · have hj0 : (0 : Int) ≤ (j : Int) := by omega
          have HVX := Lib.hid (HVA.out wr HGR.out (j : Int) hj0 (by omega))
          obtain ⟨v0, v1⟩ := vM_range (m := M) (by omega) g (j : Int)
          have hdv : NX ∣ vM M g (j : Int) ↔ NX ∣ pval g (j : Int) := by
            obtain ⟨t, ht⟩ := vM_dvd M g (j : Int)
            obtain ⟨u, hu⟩ := HNP.out.1
            constructor
            · rintro ⟨a, ha⟩; exact ⟨a - u * t, by rw [ha, hu] at ht; grind⟩
            · rintro ⟨a, ha⟩; exact ⟨a + u * t, by rw [ha, hu] at ht; grind⟩
          obtain ⟨V, hV⟩ : ∃ V, vM M g (j : Int) = V := ⟨_, rfl⟩
          rw [hV] at HVX v0 v1 hdv
          have hrz := rem_zero hNX0 v0
          have hmul : (j : Int) * pr + pr = ((j + 1 : Nat) : Int) * pr := by push_cast; rw [Int.add_mul, Int.one_mul]
          have htm : V.tmod NX = V % NX := Int.tmod_eq_emod_of_nonneg v0
          have hV0 := Int.emod_nonneg V (show NX ≠ 0 by omega)
          have hV1 := Int.emod_lt_of_pos V hNX0
          have wE : IntKind.i64.wrap (V % NX) = V % NX := IntWalk.i64_in _ (by omega)
          rw [htm] at hrz
          have HMU := Lib.hid hmul
          by_cases hd : NX ∣ pval g (j : Int)
          · have hkz : (V % NX == 0) = true := by rw [hrz, decide_eq_true (hdv.2 hd)]
            have hTr := HDN.out j hlt hd
            obtain ⟨G, hG⟩ : ∃ G, bhL M (j : Int) p g g.length = G := ⟨_, rfl⟩
            rw [hG] at hTr
            have hGl : G.length ≤ 9 := by rw [← hG]; exact Nat.le_trans (bhL_len M (j : Int) p g g.length) hn9
            have hGm : (x + (j : Int) * s) < s * p := by
              have := hTr.x1; omega
            have hG0 : 0 ≤ (j : Int) * s := Int.mul_nonneg hj0 (by omega)
            have ws1 : IntKind.i64.wrap ((j : Int) * s) = (j : Int) * s := IntWalk.i64_in _ (by omega)
            have ws2 : IntKind.i64.wrap (x + (j : Int) * s) = x + (j : Int) * s := IntWalk.i64_in _ (by omega)
            have ws3 : IntKind.i64.wrap (s * p) = s * p := IntWalk.i64_in _ (by omega)
            have hbnd : ((L ++ C).length : Int) + pr ≤ M := by
              have h1 := HLC.out
              have h2 := HLL.out
              have h3 := Int.mul_le_mul_of_nonneg_right (show (j : Int) + 1 ≤ p by omega) (show 0 ≤ pr by omega)
              rw [Int.add_mul, Int.one_mul] at h3
              rw [List.length_append]; push_cast; omega
            have HTT := Lib.hid hTr
            have HGG := Lib.hid hG
            have HDD := Lib.hid hd
            clear hrz htm hdv hd hTr hG hmul hV0 hV1
            go_wp2_with (go_at_call 67; refine HVX.out.mono ?_; rintro e w4 ⟨rfl, hb4⟩; have HI4 := Lib.hid (wkI_below HII.out hb4); have HK4 := Lib.hid (HKK.out.trans (kpT_below hb4)); obtain ⟨c40, c41⟩ := ringAt_cells HI4.out.ring; clear hb4)
            have hst := wkS_drew (wkI_S HI4.out)
            have HBD := Lib.hid (HBE.out w4.drew (kpT_int (HK4.out.trans (kpT_below (below_drewN (Below.refl _ _) 1))) HG.out HBB.out) (j : Int) hj0 hlt)
            rw [HGG.out] at HBD
            have HI5 := Lib.hid (wkI_drew HI4.out)
            have HIH : RowKit.Hid (∀ (w2 : World) (og : Option Addr) (cg : Nat), IntRow w4.drew.heap.size w2 (.slice og G.length cg) G → Below w4.drew.heap.size w4.drew w2 → Calls Try.prog 96 #[.slice og G.length cg, .int .i64 (x + (j : Int) * s), .int .i64 (s * p), .pointer (some ⟨w0.heap.size + 1, 0, none⟩), .pointer (some ⟨w0.heap.size, 0, none⟩), .pointer (some ⟨w0.heap.size + 1 + 1, 0, none⟩)] w2 (WkP w0 p q M f (x + (j : Int) * s) (s * p) r w2 (L ++ C))) := Lib.hid fun w2 og cg hrg hbg =>
              HIHH.out (k + 1) (by have := HKR.out; omega) w2 v' (L ++ C) (x + (j : Int) * s) (s * p) w4.drew.heap.size og G.length cg G HTT.out (wkI_below HI5.out hbg) hrg (by have := HI5.out.sz; omega) hGl (by rw [HPR.out]; exact hbnd)
            clear hbnd hGl HVX c40 c41
            refine wp_region_held_drew (S := (WkS w0 p q)) (by kernel_rfl) hst (fun hHeld => ?_)
            refine take_at11 (i := 0) (d := 38) (v := (.func (.func 96) #[] #[.pointer (some ⟨w0.heap.size + 1, 0, none⟩), .pointer (some ⟨w0.heap.size, 0, none⟩), .pointer (some ⟨w0.heap.size + 1 + 1, 0, none⟩)])) rfl rfl (by kernel_rfl) (by kernel_rfl) (by kernel_rfl) (fun _ _ _ h => h) (Or.inl ⟨by rfl, ?_⟩) hHeld ?_
            · intro w' hS; obtain ⟨_, k0, k1, k2⟩ := hS; go_simp
            try simp only [Act.put, List.setIfInBounds_toArray, List.set_cons_zero, List.set_cons_succ]
            refine take_at11 (i := 1) (d := 39) (v := .agg #[.int .i64 p, .int .i64 q]) rfl rfl (by kernel_rfl) (by kernel_rfl) (by kernel_rfl) (fun _ _ _ h => h) (Or.inl ⟨by rfl, ?_⟩) hHeld ?_
            · intro w' hS; obtain ⟨_, k0, k1, k2⟩ := hS; go_simp
            try simp only [Act.put, List.setIfInBounds_toArray, List.set_cons_zero, List.set_cons_succ]
            refine take_at11 (i := 2) (d := 40) (v := .slice o g.length c) rfl rfl (by kernel_rfl) (by kernel_rfl) (by kernel_rfl) (fun _ _ _ h => h) (Or.inl ⟨by rfl, ?_⟩) hHeld ?_
            · intro w' hS; go_simp
            try simp only [Act.put, List.setIfInBounds_toArray, List.set_cons_zero, List.set_cons_succ]
            refine take_at11 (i := 3) (d := 41) (v := .int .i64 (j : Int)) rfl rfl (by kernel_rfl) (by kernel_rfl) (by kernel_rfl) (fun _ _ _ h => h) (Or.inl ⟨by rfl, ?_⟩) hHeld ?_
            · intro w' hS; go_simp
            try simp only [Act.put, List.setIfInBounds_toArray, List.set_cons_zero, List.set_cons_succ]
            refine take_at11 (i := 5) (d := 43) (v := .int .i64 x) rfl rfl (by kernel_rfl) (by kernel_rfl) (by kernel_rfl) (fun _ _ _ h => h) (Or.inl ⟨by rfl, ?_⟩) hHeld ?_
            · intro w' hS; go_simp
            try simp only [Act.put, List.setIfInBounds_toArray, List.set_cons_zero, List.set_cons_succ]
            refine take_at11 (i := 6) (d := 44) (v := .int .i64 (j : Int)) rfl rfl (by kernel_rfl) (by kernel_rfl) (by kernel_rfl) (fun _ _ _ h => h) (Or.inl ⟨by rfl, ?_⟩) hHeld ?_
            · intro w' hS; go_simp
            try simp only [Act.put, List.setIfInBounds_toArray, List.set_cons_zero, List.set_cons_succ]
            refine take_at11 (i := 7) (d := 45) (v := .int .i64 s) rfl rfl (by kernel_rfl) (by kernel_rfl) (by kernel_rfl) (fun _ _ _ h => h) (Or.inl ⟨by rfl, ?_⟩) hHeld ?_
            · intro w' hS; go_simp
            try simp only [Act.put, List.setIfInBounds_toArray, List.set_cons_zero, List.set_cons_succ]
            refine take_at11 (i := 8) (d := 46) (v := .int .i64 ((j : Int) * s)) rfl rfl (by kernel_rfl) (by kernel_rfl) (by kernel_rfl) (fun _ _ _ h => h) (Or.inl ⟨by rfl, ?_⟩) hHeld ?_
            · intro w' hS; go_simp
            try simp only [Act.put, List.setIfInBounds_toArray, List.set_cons_zero, List.set_cons_succ]
            refine take_at11 (i := 9) (d := 47) (v := .int .i64 (x + (j : Int) * s)) rfl rfl (by kernel_rfl) (by kernel_rfl) (by kernel_rfl) (fun _ _ _ h => h) (Or.inl ⟨by rfl, ?_⟩) hHeld ?_
            · intro w' hS; go_simp
            try simp only [Act.put, List.setIfInBounds_toArray, List.set_cons_zero, List.set_cons_succ]
            refine take_at11 (i := 10) (d := 48) (v := .int .i64 s) rfl rfl (by kernel_rfl) (by kernel_rfl) (by kernel_rfl) (fun _ _ _ h => h) (Or.inl ⟨by rfl, ?_⟩) hHeld ?_
            · intro w' hS; go_simp
            try simp only [Act.put, List.setIfInBounds_toArray, List.set_cons_zero, List.set_cons_succ]
            refine take_at11 (i := 11) (d := 49) (v := .pointer (some ⟨w0.heap.size, 0, none⟩)) rfl rfl (by kernel_rfl) (by kernel_rfl) (by kernel_rfl) (fun _ _ _ h => h) (Or.inl ⟨by rfl, ?_⟩) hHeld ?_
            · intro w' hS; go_simp
            try simp only [Act.put, List.setIfInBounds_toArray, List.set_cons_zero, List.set_cons_succ]
            refine take_at11 (i := 12) (d := 50) (v := .int .i64 p) rfl rfl (by kernel_rfl) (by kernel_rfl) (by kernel_rfl) (fun _ _ _ h => h) (Or.inl ⟨by rfl, ?_⟩) hHeld ?_
            · intro w' hS; obtain ⟨_, k0, k1, k2⟩ := hS; go_simp
            try simp only [Act.put, List.setIfInBounds_toArray, List.set_cons_zero, List.set_cons_succ]
            refine take_at11 (i := 13) (d := 51) (v := .int .i64 (s * p)) rfl rfl (by kernel_rfl) (by kernel_rfl) (by kernel_rfl) (fun _ _ _ h => h) (Or.inl ⟨by rfl, ?_⟩) hHeld ?_
            · intro w' hS; go_simp
            try simp only [Act.put, List.setIfInBounds_toArray, List.set_cons_zero, List.set_cons_succ]
            refine wpAnyH_ready (rs := [4]) (by kernel_rfl) (by simp) ?_
            refine AllReadyH.cons rfl (fun K hK => ?_) AllReadyH.nil
            go_simp
            go_at_call 97; refine HBD.out.mono ?_; rintro e w2 ⟨vg, rfl, hrg, hbg⟩
            obtain ⟨og, cg, rfl⟩ := row_slice hrg
            go_simp
            refine hK.out _ _ (wkS_next hHeld hbg) (fun hHeld => ?_)
            clear hK K
            try simp only [Act.put, List.setIfInBounds_toArray, List.set_cons_zero, List.set_cons_succ]
            refine wpAnyH_ready (rs := [14]) (by kernel_rfl) (by simp) ?_
            refine AllReadyH.cons rfl (fun K hK => ?_) AllReadyH.nil
            go_simp
            refine (HIH.out w2 _ _ hrg hbg).mono ?_
            rintro e W3 ⟨⟨u, rfl⟩, v3, C3, hI3, hK3, hE3, hO3, hL3⟩
            go_simp
            refine hK.out _ _ (wkI_S hI3) (fun hHeld => ?_)
            clear hK K
            try simp only [Act.put, List.setIfInBounds_toArray, List.set_cons_zero, List.set_cons_succ]
            refine wpAnyH_done (by kernel_rfl) ?_ _
            have HK6 := Lib.hid (HK4.out.trans ((kpT_below (below_drewN (Below.refl _ _) 1)).trans ((kpT_below hbg).trans hK3)))
            have HI6 := Lib.hid hI3
            have HE6 := Lib.hid hE3
            have HO6 := Lib.hid hO3
            have HL6 := Lib.hid hL3
            clear hHeld hI3 hK3 hE3 hO3 hL3 hrg hbg hst
            go_wp2_with fail
            refine ⟨⟨j + 1, v3, C ++ C3, by first | rfl | go_num, by omega, by rw [← List.append_assoc]; exact HI6.out, HK6.out, ?_, ?_, ?_⟩, by simp [intOf]; omega⟩
            · rw [expL_append]; exact digit_each (by omega) hlt HEE.out HE6.out
            · intro c hc
              rcases List.mem_append.1 hc with h | h
              · exact HOO.out c h
              · exact HO6.out c h
            · have h1 := HLC.out
              have h2 := HL6.out
              have h3 := HMU.out
              rw [HPR.out] at h2
              rw [List.length_append]; push_cast at h3 ⊢; omega
          · have hkz : (V % NX == 0) = false := by rw [hrz, decide_eq_false (fun h => hd (hdv.1 h))]
            have HSKK := Lib.hid (to_skip HEE.out (HSK.out j hd))
            clear hrz htm hdv hd hmul hV0 hV1
            go_wp2_with (go_at_call 67; refine HVX.out.mono ?_; rintro e w4 ⟨rfl, hb4⟩; have HI4 := Lib.hid (wkI_below HII.out hb4); have HK4 := Lib.hid (HKK.out.trans (kpT_below hb4)); obtain ⟨c40, c41⟩ := ringAt_cells HI4.out.ring; clear hb4)
            exact ⟨⟨j + 1, v', C, by first | rfl | go_num, by omega, HI4.out, HK4.out, HSKK.out, HOO.out, by have h1 := HLC.out; have h3 := HMU.out; push_cast at h3 ⊢; omega⟩, by simp [intOf]; omega⟩
        · have hjp : p = (j : Int) := by omega
          have HEQ := Lib.hid (HEE.out.congr (R' := RootAt M f s x) fun y => by rw [show j = p.toNat by omega]; exact rootTo_all (by omega))
          have HLQ := Lib.hid (show (C.length : Int) ≤ p ^ (r + 1) by rw [HPR1.out]; have := HLC.out; rw [← hjp] at this; exact this)
          clear HEE HLC hjp
          go_wp2_with fail
          go_end0
          exact ⟨⟨_, rfl⟩, v', C, HII.out, HKK.out, HEQ.out, HOO.out, HLQ.out⟩
end Go.Proofs.Ytckpeoadglkbgaa
namespace Go.Proofs.Ytckpeoadglkbgaa
open Go.RowKit Go.Shelf
set_option linter.unusedVariables false
set_option linter.unusedSimpArgs false
set_option maxRecDepth 20000
/-- a row of classes with all roots -/
def ClsP (M : Int) (f : List Int) (w : World) (e : Ending) (w' : World) : Prop :=
  ∃ v L, e = .returned v ∧ ClsRow w.heap.size w' v L ∧ Each (expL M L) (RootAt M f 1 0) ∧ (∀ c ∈ L, ClsOk M c) ∧ (L.length : Int) ≤ M ∧ Below w.heap.size w w'
set_option maxHeartbeats 4000000 in
theorem classes_any {p q M : Int} (hR : ringM p q = M) (h0 : ringM p q ≠ 0) {o : Option Addr} {n c : Nat} {f : List Int} {w : World} (h : Seen w o n c f) (hn9 : n ≤ 9) :
    Calls Try.prog 73 #[.agg #[.int .i64 p, .int .i64 q], .slice o n c] w (ClsP M f w) := by
  obtain ⟨hp2, hp97, hn1, hn2, m2, m9, hpm⟩ := ringM_bd h0
  have hMq := (ringM_in h0).2.2.2
  rw [hR] at m2 m9 hpm hMq
  have HS := Lib.hid h
  have HH0 := Lib.hid h0
  have HRR := Lib.hid hR
  have HRE := Lib.hid fun (W : World) (hw : Below w.heap.size w W) => reducedR_any hR m2 m9 (seen_below h hw) (by omega)
  have hgl : (redL M f).length ≤ 9 := Nat.le_trans (redL_le M f) (by rw [← h.1]; exact hn9)
  have HT := Lib.hid (tr_start hp2 q.toNat f)
  rw [← hMq] at HT
  have HMQ := Lib.hid hMq
  have hmf : ∀ (fn : Fn) (first cap : Array Value) (w : World), (Instr.makeFunc fn first cap).run Try.prog w = .ok (.func fn first cap) w := fun _ _ _ _ => rfl
  obtain ⟨W3, hW3⟩ : ∃ W3, ((w.alloc (.cells #[.int .i64 p, .int .i64 q] 25)).alloc (.cells #[.slice none 0 0] 72)).alloc (.cells #[.nilFunc] 90) = W3 := ⟨_, rfl⟩
  have b1 := below_a8 w (.cells #[.int .i64 p, .int .i64 q] 25)
  have b2 := b1.alloc (by simp) (.cells #[.slice none 0 0] 72)
  have b3 := b2.alloc (by simp; omega) (.cells #[.nilFunc] 90)
  have r1 : RingAt (w.alloc (.cells #[.int .i64 p, .int .i64 q] 25)) w.heap.size p q := World.alloc_heap_new w _
  have r3 := ringAt_below (ringAt_below r1 (below_a8 _ (.cells #[.slice none 0 0] 72))) (below_a8 _ (.cells #[.nilFunc] 90))
  have x2 := Boxed.new (w.alloc (.cells #[.int .i64 p, .int .i64 q] 25)) 72 (.slice none 0 0)
  have x3 := boxed_below8 x2 (below_a8 _ (.cells #[.nilFunc] 90))
  have y3 := Boxed.new ((w.alloc (.cells #[.int .i64 p, .int .i64 q] 25)).alloc (.cells #[.slice none 0 0] 72)) 90 .nilFunc
  have z3 : W3.heap.size = w.heap.size + 1 + 1 + 1 := by rw [← hW3]; simp
  rw [World.size_alloc] at x3
  rw [World.size_alloc, World.size_alloc] at y3
  rw [hW3] at b3 r3 x3 y3
  have HIS := Lib.hid (show WkI w p q (W3.setCell ⟨w.heap.size + 1 + 1, 0, none⟩ (fnV w)).drew (.slice none 0 0) [] from wkI_drew
    ⟨ringAt_set r3 (by show w.heap.size ≠ w.heap.size + 1 + 1; omega) _, boxed_set8 x3 (by show w.heap.size + 1 ≠ w.heap.size + 1 + 1; omega) _, clsRow_nil _ _, y3.set _, b3.setCell (p := ⟨w.heap.size + 1 + 1, 0, none⟩) (show w.heap.size ≤ w.heap.size + 1 + 1 by omega) _, by rw [World.size_setCell]; omega⟩)
  have y3c := y3.cell
  have y3f := y3.frozen
  have HIH : RowKit.Hid (∀ (w2 : World) (og : Option Addr) (cg : Nat), IntRow (W3.setCell ⟨w.heap.size + 1 + 1, 0, none⟩ (fnV w)).drew.heap.size w2 (.slice og (redL M f).length cg) (redL M f) → Below (W3.setCell ⟨w.heap.size + 1 + 1, 0, none⟩ (fnV w)).drew.heap.size (W3.setCell ⟨w.heap.size + 1 + 1, 0, none⟩ (fnV w)).drew w2 → Calls Try.prog 96 #[.slice og (redL M f).length cg, .int .i64 0, .int .i64 1, .pointer (some ⟨w.heap.size + 1, 0, none⟩), .pointer (some ⟨w.heap.size, 0, none⟩), .pointer (some ⟨w.heap.size + 1 + 1, 0, none⟩)] w2 (WkP w p q M f 0 1 q.toNat w2 [])) := Lib.hid fun w2 og cg hrg hbg =>
    walk_any HRR.out HH0.out q.toNat 0 (by omega) w2 (.slice none 0 0) [] 0 1 (W3.setCell ⟨w.heap.size + 1 + 1, 0, none⟩ (fnV w)).drew.heap.size og (redL M f).length cg (redL M f) HT.out (wkI_below HIS.out hbg) hrg (by show w.heap.size + 1 < (W3.setCell _ _).heap.size; rw [World.size_setCell]; omega) hgl (by rw [← HMQ.out]; simp)
  have hst : WkS w p q (W3.setCell ⟨w.heap.size + 1 + 1, 0, none⟩ (.func (.func 96) #[] #[.pointer (some ⟨w.heap.size + 1, 0, none⟩), .pointer (some ⟨w.heap.size, 0, none⟩), .pointer (some ⟨w.heap.size + 1 + 1, 0, none⟩)])).drew := wkI_S HIS.out
  clear h h0 hR hMq b1 b2 b3 r1 r3 x2 x3 y3 z3
  go_enter Try.func73, Try.ntmps73
  go_wp2_with fail
  clear hW3 y3c y3f
  refine wp_region_held_drew (S := (WkS w p q)) (by kernel_rfl) hst (fun hHeld => ?_)
  refine take_at11 (i := 0) (d := 8) (v := (.func (.func 96) #[] #[.pointer (some ⟨w.heap.size + 1, 0, none⟩), .pointer (some ⟨w.heap.size, 0, none⟩), .pointer (some ⟨w.heap.size + 1 + 1, 0, none⟩)])) rfl rfl (by kernel_rfl) (by kernel_rfl) (by kernel_rfl) (fun _ _ _ h => h) (Or.inl ⟨by rfl, ?_⟩) hHeld ?_
  · intro w' hS; obtain ⟨_, k0, k1, k2⟩ := hS; go_simp
  try simp only [Act.put, List.setIfInBounds_toArray, List.set_cons_zero, List.set_cons_succ]
  refine take_at11 (i := 1) (d := 9) (v := .agg #[.int .i64 p, .int .i64 q]) rfl rfl (by kernel_rfl) (by kernel_rfl) (by kernel_rfl) (fun _ _ _ h => h) (Or.inl ⟨by rfl, ?_⟩) hHeld ?_
  · intro w' hS; obtain ⟨_, k0, k1, k2⟩ := hS; go_simp
  try simp only [Act.put, List.setIfInBounds_toArray, List.set_cons_zero, List.set_cons_succ]
  refine take_at11 (i := 2) (d := 10) (v := .slice o n c) rfl rfl (by kernel_rfl) (by kernel_rfl) (by kernel_rfl) (fun _ _ _ h => h) (Or.inl ⟨by rfl, ?_⟩) hHeld ?_
  · intro w' hS; go_simp
  try simp only [Act.put, List.setIfInBounds_toArray, List.set_cons_zero, List.set_cons_succ]
  refine wpAnyH_ready (rs := [3]) (by kernel_rfl) (by simp) ?_
  refine AllReadyH.cons rfl (fun K hK => ?_) AllReadyH.nil
  go_simp
  go_at_call 98; refine (HRE.out _ hHeld.1).mono ?_; rintro e w2 ⟨vg, rfl, hrg, hbg⟩
  obtain ⟨og, cg, rfl⟩ := row_slice hrg
  go_simp
  refine hK.out _ _ (wkS_next hHeld hbg) (fun hHeld => ?_)
  clear hK K
  try simp only [Act.put, List.setIfInBounds_toArray, List.set_cons_zero, List.set_cons_succ]
  refine wpAnyH_ready (rs := [4]) (by kernel_rfl) (by simp) ?_
  refine AllReadyH.cons rfl (fun K hK => ?_) AllReadyH.nil
  go_simp
  refine (HIH.out w2 _ _ hrg hbg).mono ?_
  rintro e W3 ⟨⟨u, rfl⟩, v3, C3, hI3, hK3, hE3, hO3, hL3⟩
  go_simp
  refine hK.out _ _ (wkI_S hI3) (fun hHeld => ?_)
  clear hK K
  try simp only [Act.put, List.setIfInBounds_toArray, List.set_cons_zero, List.set_cons_succ]
  refine wpAnyH_done (by kernel_rfl) ?_ _
  have q1 := hI3.box.cell
  obtain ⟨o3, c3, rfl⟩ := own_slice hI3.row
  have HI3 := Lib.hid hI3
  have HE3 := Lib.hid hE3
  have HO3 := Lib.hid hO3
  have HL3 := Lib.hid hL3
  clear hHeld hI3 hK3 hE3 hO3 hL3 hrg hbg hst HIH
  go_wp2_with fail
  go_ret
  rw [List.nil_append] at HI3
  refine ⟨_, C3, rfl, ?_, HE3.out, HO3.out, by rw [HMQ.out]; exact HL3.out, HI3.out.bel⟩
  have h := HI3.out.row
  refine ⟨h.1, ?_⟩
  rcases h.2 with hn | ⟨g, cap, cur, e, hbg, rest⟩
  · exact .inl hn
  · exact .inr ⟨g, cap, cur, e, by omega, rest⟩
end Go.Proofs.Ytckpeoadglkbgaa
namespace Go.Proofs.Ytckpeoadglkbgaa
open Go.RowKit
set_option linter.unusedVariables false
set_option linter.unusedSimpArgs false
set_option maxRecDepth 20000
theorem seen_al2 {w : World} {o : Option Addr} {n c : Nat} {l : List Int} (h : Seen w o n c l) (ob ob' : Obj) : Seen ((w.alloc ob).alloc ob') o n c l := seen_al (seen_al h ob) ob'
set_option maxHeartbeats 1000000 in
theorem implValueIn_any (p n x : Int) {o : Option Addr} {k c : Nat} {f : List Int} {w : World} (h : Seen w o k c f) :
    Calls Try.prog 24 #[.agg #[.int .i64 p, .int .i64 n], .slice o k c, .int .i64 x] w fun e w' => e = .returned (.tuple #[.int .i64 (valR p n f x), .int .i64 (henC p n f x)]) ∧ Below w.heap.size w w' := by
  have HS := Lib.hid h
  clear h
  by_cases hr : henC p n f x = 0
  · have hk : (henC p n f x == 0) = true := by simp [hr]
    obtain ⟨hp, h0, hx0, hx1⟩ := henC_zero hr
    obtain ⟨_, _, hn1, hn2, hm1, hm2, _⟩ := ringM_bd h0
    have HF := Lib.hid (poly_cof9 hp)
    rw [show valR p n f x = vM (ringM p n) f x by simp [valR, hr], hr]
    have HR := Lib.hid hr
    have HV := Lib.hid fun (W : World) (hw : Below w.heap.size w W) => valueAtR_any (p := p) (q := n) rfl hm1 hm2 hx0 hx1 (seen_below HS.out hw) HF.out
    clear h0 hr hp hk
    go_enter Try.func24, Try.ntmps24
    go_wp2_with (first | (go_at_call 53; refine (checkRoots1_any p n x (seen_al2 HS.out _ _) ?_ ?_).mono ?_; (exact cell_second _ _ _ _); (exact size_second _ _ _); rintro e' wn ⟨rfl, hb⟩; have hH := keep_alloc hb; obtain ⟨hB, c0, c1⟩ := hH; clear hb; rw [HR.out]) | (go_at_call 67; refine (HV.out _ hB).mono ?_; rintro e wn2 ⟨rfl, hb⟩))
    go_ret2
    exact ⟨rfl, hB.trans (hb.mono hB.size)⟩
  · have hk : (henC p n f x == 0) = false := by simp [hr]
    rw [show valR p n f x = 0 by simp [valR, hr]]
    clear hr
    go_enter Try.func24, Try.ntmps24
    go_wp2_with (first | (go_at_call 53; refine (checkRoots1_any p n x (seen_al2 HS.out _ _) ?_ ?_).mono ?_; (exact cell_second _ _ _ _); (exact size_second _ _ _); rintro e' wn ⟨rfl, hb⟩; have hH := keep_alloc hb; obtain ⟨hB, c0, c1⟩ := hH; clear hb))
    go_ret2
    exact ⟨rfl, hB⟩
set_option maxHeartbeats 2000000 in
theorem implNewton_any (p n x : Int) {o : Option Addr} {k c : Nat} {f : List Int} {w : World} (h : Seen w o k c f) :
    Calls Try.prog 21 #[.agg #[.int .i64 p, .int .i64 n], .slice o k c, .int .i64 x] w fun e w' => e = .returned (.tuple #[.int .i64 (newV p n f x), .int .i64 (newC p n f x)]) ∧ Below w.heap.size w w' := by
  have HS := Lib.hid h
  clear h
  by_cases hr : henC p n f x = 0
  · obtain ⟨hp, h0, hx0, hx1⟩ := henC_zero hr
    obtain ⟨hp2, _, hn1, hn2, hm1, hm2, _⟩ := ringM_bd h0
    obtain ⟨d0, d1⟩ := vM_range (m := ringM p n) (by omega) (derL f) x
    have HP := Lib.hid hp
    have HR := Lib.hid hr
    have HL := Lib.hid fun (W : World) (hw : Below w.heap.size w W) => slopeR_any (p := p) (q := n) rfl hm1 hm2 hx0 hx1 (seen_below HS.out hw) HP.out
    have HN := Lib.hid fun (W : World) (hw : Below w.heap.size w W) => newtonR_any (p := p) (q := n) rfl hm1 hm2 hx0 hx1 (seen_below HS.out hw) HP.out
    have he := vM_mod (m := ringM p n) (p := p) (by omega) (by omega) (ring_dvd h0) (derL f) x
    have HU := Lib.hid fun (W : World) => isUnit_any p n (vM (ringM p n) (derL f) x) W hp2 d0
    by_cases h1 : vM p (derL f) x = 0
    · have e1 : newC p n f x = 5 := by simp [newC, hr, h1]
      have HU2 : RowKit.Hid (∀ W : World, Calls Try.prog 59 #[.agg #[.int .i64 p, .int .i64 n], .int .i64 (vM (ringM p n) (derL f) x)] W fun e w' => e = .returned (.bool false) ∧ Below W.heap.size W w') := Lib.hid fun W => by
        have := HU.out W
        rw [he, h1] at this; exact this
      rw [show newV p n f x = 0 by simp [newV, e1], e1]
      clear h0 hr hp h1 e1 he
      go_enter Try.func21, Try.ntmps21
      go_wp2_with (first | (go_at_call 53; refine (checkRoots1_any p n x (seen_al2 HS.out _ _) ?_ ?_).mono ?_; (exact cell_second _ _ _ _); (exact size_second _ _ _); rintro e' wn ⟨rfl, hb⟩; have hH := keep_alloc hb; obtain ⟨hB, c0, c1⟩ := hH; clear hb; rw [HR.out]))
      have hst : Below w.heap.size w wn.drew ∧ wn.drew.cell? ⟨w.heap.size, 0, none⟩ = some (.int .i64 p) ∧ wn.drew.cell? ⟨w.heap.size, 1, none⟩ = some (.int .i64 n) := ⟨below_drewN hB 1, c0, c1⟩
      go_region_held3 (fun W' => Below w.heap.size w W' ∧ W'.cell? ⟨w.heap.size, 0, none⟩ = some (.int .i64 p) ∧ W'.cell? ⟨w.heap.size, 1, none⟩ = some (.int .i64 n)) (first | exact hst | exact keep11 ‹_› hq1 | exact keep11 ‹_› hq2 | assumption)
        (first | (go_at_call 60; with_reducible refine (HL.out _ (And.left ‹_›)).mono ?_; rintro e w3 ⟨rfl, hq1⟩) | (go_at_call 59; with_reducible refine (HU2.out _).mono ?_; rintro e w3 ⟨rfl, hq2⟩))
      go_wp2_with fail
      go_ret2
      exact ⟨rfl, And.left ‹_›⟩
    · have k1 : (vM p (derL f) x == 0) = false := by simp [h1]
      have e1 : newC p n f x = 0 := by simp [newC, hr, h1]
      have HU2 : RowKit.Hid (∀ W : World, Calls Try.prog 59 #[.agg #[.int .i64 p, .int .i64 n], .int .i64 (vM (ringM p n) (derL f) x)] W fun e w' => e = .returned (.bool true) ∧ Below W.heap.size W w') := Lib.hid fun W => by
        have := HU.out W
        rw [he, k1] at this; exact this
      rw [show newV p n f x = stepV (ringM p n) f x by simp [newV, e1], e1]
      clear h0 hr hp h1 k1 e1 he
      go_enter Try.func21, Try.ntmps21
      go_wp2_with (first | (go_at_call 53; refine (checkRoots1_any p n x (seen_al2 HS.out _ _) ?_ ?_).mono ?_; (exact cell_second _ _ _ _); (exact size_second _ _ _); rintro e' wn ⟨rfl, hb⟩; have hH := keep_alloc hb; obtain ⟨hB, c0, c1⟩ := hH; clear hb; rw [HR.out]))
      have hst : Below w.heap.size w wn.drew ∧ wn.drew.cell? ⟨w.heap.size, 0, none⟩ = some (.int .i64 p) ∧ wn.drew.cell? ⟨w.heap.size, 1, none⟩ = some (.int .i64 n) := ⟨below_drewN hB 1, c0, c1⟩
      go_region_held3 (fun W' => Below w.heap.size w W' ∧ W'.cell? ⟨w.heap.size, 0, none⟩ = some (.int .i64 p) ∧ W'.cell? ⟨w.heap.size, 1, none⟩ = some (.int .i64 n)) (first | exact hst | exact keep11 ‹_› hq1 | exact keep11 ‹_› hq2 | assumption)
        (first | (go_at_call 60; with_reducible refine (HL.out _ (And.left ‹_›)).mono ?_; rintro e w3 ⟨rfl, hq1⟩) | (go_at_call 59; with_reducible refine (HU2.out _).mono ?_; rintro e w3 ⟨rfl, hq2⟩))
      clear hst hB c0 c1
      obtain ⟨hB, c0, c1⟩ := ‹Below _ _ _ ∧ _›
      go_wp2_with (go_at_call 61; with_reducible refine (HN.out _ hB).mono ?_; rintro e w4 ⟨rfl, hq3⟩)
      go_ret2
      exact ⟨rfl, hB.trans (hq3.mono hB.size)⟩
  · have e1 : newC p n f x = henC p n f x := by simp [newC, hr]
    have hk : (henC p n f x == 0) = false := by simp [hr]
    rw [show newV p n f x = 0 by simp [newV, e1, hr], e1]
    clear hr e1
    go_enter Try.func21, Try.ntmps21
    go_wp2_with (first | (go_at_call 53; refine (checkRoots1_any p n x (seen_al2 HS.out _ _) ?_ ?_).mono ?_; (exact cell_second _ _ _ _); (exact size_second _ _ _); rintro e' wn ⟨rfl, hb⟩; have hH := keep_alloc hb; obtain ⟨hB, c0, c1⟩ := hH; clear hb))
    go_ret2
    exact ⟨rfl, hB⟩
theorem lif_bad {p n a : Int} {f : List Int} (h : henC p n f a ≠ 0) : lifC p n f a = henC p n f a := by
  unfold henC rgC at *
  unfold lifC
  cases hp : polyB f
  · simp [hp]
  · simp only [hp, if_true] at h ⊢
    by_cases h0 : ringM p n = 0
    · simp [h0]
    · obtain ⟨_, _, _, _, _, _, h1⟩ := ringM_bd h0
      simp only [h0, if_false] at h ⊢
      by_cases ha : 0 ≤ a ∧ a < ringM p n
      · simp [ha] at h
      · have hb : ¬ (0 ≤ a ∧ a < p) := by omega
        simp [ha, hb]
set_option maxHeartbeats 2000000 in
theorem implLiftRoot_any (p n a : Int) {o : Option Addr} {k c : Nat} {f : List Int} {w : World} (h : Seen w o k c f) :
    Calls Try.prog 15 #[.agg #[.int .i64 p, .int .i64 n], .slice o k c, .int .i64 a] w (LifP p n f a w) := by
  have HS := Lib.hid h
  clear h
  unfold LifP
  by_cases hr : henC p n f a = 0
  · obtain ⟨hp, h0, hx0, hx1⟩ := henC_zero hr
    obtain ⟨hp2, _, hn1, hn2, hm1, hm2, _⟩ := ringM_bd h0
    have HP := Lib.hid hp
    have HR := Lib.hid hr
    have H0 := Lib.hid h0
    have HL := Lib.hid fun (W : World) (hw : Below w.heap.size w W) => simpleR_any (p := p) (q := n) rfl h0 hx0 hx1 (seen_below HS.out hw) HP.out
    by_cases ha : a < p
    · have hnge : ¬ p ≤ a := by omega
      cases hsm : simB p f a
      · rw [show lifC p n f a = 5 by simp [lifC, h0, hp, ha, hx0, hsm]]
        rw [hsm] at HL
        clear h0 hr hp ha
        go_enter Try.func15, Try.ntmps15
        go_wp2_with (first | (go_at_call 53; refine (checkRoots1_any p n a (seen_al2 HS.out _ _) ?_ ?_).mono ?_; (exact cell_second _ _ _ _); (exact size_second _ _ _); rintro e' wn ⟨rfl, hb⟩; have hH := keep_alloc hb; obtain ⟨hB, c0, c1⟩ := hH; clear hb; rw [HR.out]) | (go_at_call 54; refine (HL.out _ hB).mono ?_; rintro e w3 ⟨rfl, hb2⟩; have hH := keep_next ⟨hB, c0, c1⟩ hb2; clear hB c0 c1; obtain ⟨hB, c0, c1⟩ := hH))
        go_ret2
        exact ⟨0, rfl, by simp, by simp, hB⟩
      · have HQ := Lib.hid (simple_of (by omega) hsm)
        rw [show lifC p n f a = 0 by simp [lifC, h0, hp, ha, hx0, hsm]]
        rw [hsm] at HL
        clear h0 hr hp
        go_enter Try.func15, Try.ntmps15
        go_wp2_with (first | (go_at_call 53; refine (checkRoots1_any p n a (seen_al2 HS.out _ _) ?_ ?_).mono ?_; (exact cell_second _ _ _ _); (exact size_second _ _ _); rintro e' wn ⟨rfl, hb⟩; have hH := keep_alloc hb; obtain ⟨hB, c0, c1⟩ := hH; clear hb; rw [HR.out]) | (go_at_call 54; refine (HL.out _ hB).mono ?_; rintro e w3 ⟨rfl, hb2⟩; have hH := keep_next ⟨hB, c0, c1⟩ hb2; clear hB c0 c1; obtain ⟨hB, c0, c1⟩ := hH) | (go_at_call 55; refine (liftR_any H0.out hx0 ha (seen_below HS.out hB) HP.out HQ.out).mono ?_; rintro e wn ⟨x, rfl, HX, hb3⟩))
        go_ret2
        exact ⟨x, rfl, fun _ => HX, by simp, hB.trans (hb3.mono hB.size)⟩
    · have hge : p ≤ a := by omega
      rw [show lifC p n f a = 2 by simp [lifC, h0, hp, ha]]
      clear h0 hr hp ha
      go_enter Try.func15, Try.ntmps15
      go_wp2_with (first | (go_at_call 53; refine (checkRoots1_any p n a (seen_al2 HS.out _ _) ?_ ?_).mono ?_; (exact cell_second _ _ _ _); (exact size_second _ _ _); rintro e' wn ⟨rfl, hb⟩; have hH := keep_alloc hb; obtain ⟨hB, c0, c1⟩ := hH; clear hb; rw [HR.out]))
      go_ret2
      exact ⟨0, rfl, by simp, by simp, hB⟩
  · have e1 := lif_bad hr
    have hk : (henC p n f a == 0) = false := by simp [hr]
    rw [e1]
    have HR := Lib.hid hr
    clear hr e1
    go_enter Try.func15, Try.ntmps15
    go_wp2_with (first | (go_at_call 53; refine (checkRoots1_any p n a (seen_al2 HS.out _ _) ?_ ?_).mono ?_; (exact cell_second _ _ _ _); (exact size_second _ _ _); rintro e' wn ⟨rfl, hb⟩; have hH := keep_alloc hb; obtain ⟨hB, c0, c1⟩ := hH; clear hb))
    go_ret2
    exact ⟨0, rfl, fun h => absurd h HR.out, by simp, hB⟩
end Go.Proofs.Ytckpeoadglkbgaa
namespace Go.Proofs.Ytckpeoadglkbgaa
open Go.RowKit
set_option linter.unusedVariables false
set_option linter.unusedSimpArgs false
set_option maxRecDepth 20000
theorem below_al (w : World) (o : Obj) : Below w.heap.size w (w.alloc o) := (Below.refl _ _).alloc (Nat.le_refl _) _
theorem seen_one11 (w : World) (v : Int) (T : TypeId) : Seen (w.alloc (.cells #[.int .i64 v] T)) (some ⟨w.heap.size, 0, none⟩) 1 1 [v] := by
  refine ⟨rfl, by omega, (fun h => by cases h), Nat.le_refl _, w.heap.size, fun _ => ⟨rfl, by simp⟩, fun k hk => ?_⟩
  obtain rfl : k = 0 := by omega
  rw [World.cell?_alloc_new]; rfl
theorem cof_one {v : Int} (h0 : -1000000000 ≤ v) (h1 : v ≤ 1000000000) : Cof9 [v] := fun i => by
  cases i with
  | zero => exact ⟨h0, h1⟩
  | succ i => simp
/-- the greatest power that divides a residue is that of its part -/
theorem gN_part {p n v : Int} (h0 : ringM p n ≠ 0) (v0 : 0 ≤ v) (v1 : v < ringM p n) : ∃ a : Nat, partV p n v = (a : Int) ∧ gN (ringM p n) [v] 1 = p ^ a := by
  obtain ⟨hp2, hp97, hn1, hn2, m2, m9, _⟩ := ringM_bd h0
  have hpp := (small_prime (ringM_in h0).1).2.2
  have e := (ringM_in h0).2.2.2
  unfold partV
  by_cases hv : v = 0
  · rw [if_pos hv, e, hv]
    exact ⟨n.toNat, by omega, gN_one hpp (Int.dvd_zero _) (Nat.le_refl _) (.inl rfl)⟩
  · rw [if_neg hv]
    obtain ⟨h1, h2, h3, h4⟩ := pad_val hp2 hv (by omega)
    obtain ⟨a, ha⟩ : ∃ a : Nat, valCount v p = a := ⟨(valCount v p).toNat, by omega⟩
    rw [ha] at h1 ⊢
    have hpw : pw p (a : Int) = p ^ a := by simp [pw]
    rw [hpw] at h1
    have hd : p ^ a ∣ v := ⟨valRest v p, by rw [Int.mul_comm]; exact h1.symm⟩
    have hn : ¬ p ^ (a + 1) ∣ v := by
      rintro ⟨c, hc⟩
      apply h2
      have hpa := pow_pos11 hp2 a
      have : valRest v p = p * c := Int.eq_of_mul_eq_mul_left (show p ^ a ≠ 0 by omega) (by rw [Int.mul_comm, h1, hc, Int.pow_succ, Int.mul_assoc])
      rw [this, Int.mul_tmod_right]
    have han : a ≤ n.toNat := by
      rcases Nat.lt_or_ge n.toNat a with h5 | h5
      · have h6 := Int.le_of_dvd (by omega) hd
        have h7 := pow_lt11 hp2 h5
        rw [← e] at h7
        omega
      · exact h5
    exact ⟨a, rfl, by rw [e]; exact gN_one hpp hd han (.inr hn)⟩
theorem stab_part {p n : Int} {f : List Int} {x : Int} (h0 : ringM p n ≠ 0) : stabB p n f x = decide (gN (ringM p n) [vM (ringM p n) f x] 1 > gN (ringM p n) [vM (ringM p n) (derL f) x] 1 * gN (ringM p n) [vM (ringM p n) (derL f) x] 1) := by
  obtain ⟨hp2, hp97, hn1, hn2, m2, m9, _⟩ := ringM_bd h0
  obtain ⟨a0, a1⟩ := vM_range (m := ringM p n) (by omega) f x
  obtain ⟨b0, b1⟩ := vM_range (m := ringM p n) (by omega) (derL f) x
  obtain ⟨a, ha, ea⟩ := gN_part h0 a0 a1
  obtain ⟨b, hb, eb⟩ := gN_part h0 b0 b1
  rw [stabB, ha, hb, ea, eb, ← Int.pow_add]
  have := pow_lt_iff11 hp2 (a := b + b) (b := a)
  by_cases h : b + b < a
  · rw [decide_eq_true (by omega), decide_eq_true (this.2 h)]
  · rw [decide_eq_false (by omega), decide_eq_false (fun h2 => h (this.1 h2))]
set_option maxHeartbeats 2000000 in
theorem implStable_any (p n x : Int) {o : Option Addr} {k c : Nat} {f : List Int} {w : World} (h : Seen w o k c f) :
    Calls Try.prog 35 #[.agg #[.int .i64 p, .int .i64 n], .slice o k c, .int .i64 x] w fun e w' => e = .returned (.tuple #[.bool (stabV p n f x), .int .i64 (henC p n f x)]) ∧ Below w.heap.size w w' := by
  have HS := Lib.hid h
  clear h
  by_cases hr : henC p n f x = 0
  · obtain ⟨hp, h0, hx0, hx1⟩ := henC_zero hr
    obtain ⟨hp2, _, hn1, hn2, hm1, hm2, _⟩ := ringM_bd h0
    have HP := Lib.hid hp
    have HF := Lib.hid (poly_cof9 hp)
    have HL := Lib.hid fun (W : World) (hw : Below w.heap.size w W) => slopeR_any (p := p) (q := n) rfl hm1 hm2 hx0 hx1 (seen_below HS.out hw) HP.out
    have HV := Lib.hid fun (W : World) (hw : Below w.heap.size w W) => valueAtR_any (p := p) (q := n) rfl hm1 hm2 hx0 hx1 (seen_below HS.out hw) HF.out
    obtain ⟨a0, a1⟩ := vM_range (m := ringM p n) (by omega) f x
    obtain ⟨b0, b1⟩ := vM_range (m := ringM p n) (by omega) (derL f) x
    rw [show stabV p n f x = stabB p n f x by simp [stabV, hr], hr]
    have HR := Lib.hid hr
    have HST := Lib.hid (stab_part (f := f) (x := x) h0)
    have HP1 := Lib.hid fun (W : World) => partR_any (p := p) (q := n) rfl hm1 hm2 (seen_one11 W (vM (ringM p n) (derL f) x) 2) (cof_one (by omega) (by omega))
    have HP2 := Lib.hid fun (W : World) => partR_any (p := p) (q := n) rfl hm1 hm2 (seen_one11 W (vM (ringM p n) f x) 2) (cof_one (by omega) (by omega))
    obtain ⟨g0, g1⟩ := gN_bd hm1 hm2 [vM (ringM p n) (derL f) x] 1
    obtain ⟨P1, hP1⟩ : ∃ P1, gN (ringM p n) [vM (ringM p n) (derL f) x] 1 = P1 := ⟨_, rfl⟩
    obtain ⟨P2, hP2⟩ : ∃ P2, gN (ringM p n) [vM (ringM p n) f x] 1 = P2 := ⟨_, rfl⟩
    simp only [List.length_singleton] at HP1 HP2
    rw [hP1] at HP1 HST g0 g1
    rw [hP2] at HP2 HST
    obtain ⟨q0, q1⟩ := prod_nine (a := P1) (x := P1) (by omega) g1 (by omega) g1
    have w1 : IntKind.i64.wrap (P1 * P1) = P1 * P1 := IntWalk.i64_in _ (by omega)
    clear h0 hr hp hP1 hP2 q0 q1 g0 g1 a0 a1 b0 b1
    go_enter Try.func35, Try.ntmps35
    go_wp2_with (first | (go_at_call 53; refine (checkRoots1_any p n x (seen_al2 HS.out _ _) ?_ ?_).mono ?_; (exact cell_second _ _ _ _); (exact size_second _ _ _); rintro e' wn ⟨rfl, hb⟩; have hH := keep_alloc hb; obtain ⟨hB, c0, c1⟩ := hH; clear hb; rw [HR.out]))
    have hst : Below w.heap.size w wn.drew ∧ wn.drew.cell? ⟨w.heap.size, 0, none⟩ = some (.int .i64 p) ∧ wn.drew.cell? ⟨w.heap.size, 1, none⟩ = some (.int .i64 n) := ⟨below_drewN hB 1, c0, c1⟩
    clear hB c0 c1
    refine wp_region_held_drew (S := (fun W' => Below w.heap.size w W' ∧ W'.cell? ⟨w.heap.size, 0, none⟩ = some (.int .i64 p) ∧ W'.cell? ⟨w.heap.size, 1, none⟩ = some (.int .i64 n))) (by kernel_rfl) hst (fun hHeld => ?_)
    refine take_at11 (i := 0) (d := 18) (v := .agg #[.int .i64 p, .int .i64 n]) rfl rfl (by kernel_rfl) (by kernel_rfl) (by kernel_rfl) (fun _ _ _ h => h) (Or.inl ⟨by rfl, ?_⟩) hHeld ?_
    · intro w' hS; obtain ⟨_, k0, k1⟩ := hS; go_simp
    try simp only [Act.put, List.setIfInBounds_toArray, List.set_cons_zero, List.set_cons_succ]
    refine take_at11 (i := 1) (d := 19) (v := .agg #[.int .i64 p, .int .i64 n]) rfl rfl (by kernel_rfl) (by kernel_rfl) (by kernel_rfl) (fun _ _ _ h => h) (Or.inl ⟨by rfl, ?_⟩) hHeld ?_
    · intro w' hS; obtain ⟨_, k0, k1⟩ := hS; go_simp
    try simp only [Act.put, List.setIfInBounds_toArray, List.set_cons_zero, List.set_cons_succ]
    refine take_at11 (i := 2) (d := 20) (v := .slice o k c) rfl rfl (by kernel_rfl) (by kernel_rfl) (by kernel_rfl) (fun _ _ _ h => h) (Or.inl ⟨by rfl, ?_⟩) hHeld ?_
    · intro w' hS; go_simp
    try simp only [Act.put, List.setIfInBounds_toArray, List.set_cons_zero, List.set_cons_succ]
    refine take_at11 (i := 3) (d := 21) (v := .int .i64 x) rfl rfl (by kernel_rfl) (by kernel_rfl) (by kernel_rfl) (fun _ _ _ h => h) (Or.inl ⟨by rfl, ?_⟩) hHeld ?_
    · intro w' hS; go_simp
    try simp only [Act.put, List.setIfInBounds_toArray, List.set_cons_zero, List.set_cons_succ]
    refine wpAnyH_ready (rs := [4]) (by kernel_rfl) (by simp) ?_
    refine AllReadyH.cons rfl (fun K hK => ?_) AllReadyH.nil
    go_simp
    go_at_call 60; refine (HL.out _ hHeld.1).mono ?_; rintro e w3 ⟨rfl, hb⟩
    go_simp
    refine hK.out _ _ (keep11 hHeld hb) (fun hHeld => ?_)
    clear hK K hb
    try simp only [Act.put, List.setIfInBounds_toArray, List.set_cons_zero, List.set_cons_succ]
    refine wpAnyH_ready (rs := [5]) (by kernel_rfl) (by simp) ?_
    refine AllReadyH.cons rfl (fun K hK => ?_) AllReadyH.nil
    go_simp
    refine hK.out _ _ (keep11 hHeld (below_al _ _)) (fun hHeld => ?_)
    clear hK K
    try simp only [Act.put, List.setIfInBounds_toArray, List.set_cons_zero, List.set_cons_succ]
    refine wpAnyH_ready (rs := [6]) (by kernel_rfl) (by simp) ?_
    refine AllReadyH.cons rfl (fun K hK => ?_) AllReadyH.nil
    go_simp
    go_at_call 78; refine (HP1.out _).mono ?_; rintro e w4 ⟨rfl, hb⟩
    go_simp
    refine hK.out _ _ (keep11 hHeld hb) (fun hHeld => ?_)
    clear hK K hb
    try simp only [Act.put, List.setIfInBounds_toArray, List.set_cons_zero, List.set_cons_succ]
    refine take_at11 (i := 7) (d := 9) (v := .int .i64 P1) rfl rfl (by kernel_rfl) (by kernel_rfl) (by kernel_rfl) (fun _ _ _ h => h) (Or.inl ⟨by rfl, ?_⟩) hHeld ?_
    · intro w' hS; go_simp
    try simp only [Act.put, List.setIfInBounds_toArray, List.set_cons_zero, List.set_cons_succ]
    refine wpAnyH_done (by kernel_rfl) ?_ _
    clear hst
    go_wp2_with fail
    refine wp_region_held_drew (S := (fun W' => Below w.heap.size w W' ∧ W'.cell? ⟨w.heap.size, 0, none⟩ = some (.int .i64 p) ∧ W'.cell? ⟨w.heap.size, 1, none⟩ = some (.int .i64 n))) (by kernel_rfl) ⟨below_drewN hHeld.1 1, hHeld.2.1, hHeld.2.2⟩ (fun hHeld => ?_)
    refine take_at11 (i := 0) (d := 25) (v := .agg #[.int .i64 p, .int .i64 n]) rfl rfl (by kernel_rfl) (by kernel_rfl) (by kernel_rfl) (fun _ _ _ h => h) (Or.inl ⟨by rfl, ?_⟩) hHeld ?_
    · intro w' hS; obtain ⟨_, k0, k1⟩ := hS; go_simp
    try simp only [Act.put, List.setIfInBounds_toArray, List.set_cons_zero, List.set_cons_succ]
    refine take_at11 (i := 1) (d := 26) (v := .agg #[.int .i64 p, .int .i64 n]) rfl rfl (by kernel_rfl) (by kernel_rfl) (by kernel_rfl) (fun _ _ _ h => h) (Or.inl ⟨by rfl, ?_⟩) hHeld ?_
    · intro w' hS; obtain ⟨_, k0, k1⟩ := hS; go_simp
    try simp only [Act.put, List.setIfInBounds_toArray, List.set_cons_zero, List.set_cons_succ]
    refine take_at11 (i := 2) (d := 27) (v := .slice o k c) rfl rfl (by kernel_rfl) (by kernel_rfl) (by kernel_rfl) (fun _ _ _ h => h) (Or.inl ⟨by rfl, ?_⟩) hHeld ?_
    · intro w' hS; go_simp
    try simp only [Act.put, List.setIfInBounds_toArray, List.set_cons_zero, List.set_cons_succ]
    refine take_at11 (i := 3) (d := 28) (v := .int .i64 x) rfl rfl (by kernel_rfl) (by kernel_rfl) (by kernel_rfl) (fun _ _ _ h => h) (Or.inl ⟨by rfl, ?_⟩) hHeld ?_
    · intro w' hS; go_simp
    try simp only [Act.put, List.setIfInBounds_toArray, List.set_cons_zero, List.set_cons_succ]
    refine take_at11 (i := 7) (d := 32) (v := .int .i64 P1) rfl rfl (by kernel_rfl) (by kernel_rfl) (by kernel_rfl) (fun _ _ _ h => h) (Or.inl ⟨by rfl, ?_⟩) hHeld ?_
    · intro w' hS; go_simp
    try simp only [Act.put, List.setIfInBounds_toArray, List.set_cons_zero, List.set_cons_succ]
    refine take_at11 (i := 8) (d := 33) (v := .int .i64 P1) rfl rfl (by kernel_rfl) (by kernel_rfl) (by kernel_rfl) (fun _ _ _ h => h) (Or.inl ⟨by rfl, ?_⟩) hHeld ?_
    · intro w' hS; go_simp
    try simp only [Act.put, List.setIfInBounds_toArray, List.set_cons_zero, List.set_cons_succ]
    refine take_at11 (i := 9) (d := 34) (v := .int .i64 (P1 * P1)) rfl rfl (by kernel_rfl) (by kernel_rfl) (by kernel_rfl) (fun _ _ _ h => h) (Or.inl ⟨by rfl, ?_⟩) hHeld ?_
    · intro w' hS; go_simp
    try simp only [Act.put, List.setIfInBounds_toArray, List.set_cons_zero, List.set_cons_succ]
    refine wpAnyH_ready (rs := [4]) (by kernel_rfl) (by simp) ?_
    refine AllReadyH.cons rfl (fun K hK => ?_) AllReadyH.nil
    go_simp
    go_at_call 67; refine (HV.out _ hHeld.1).mono ?_; rintro e w5 ⟨rfl, hb⟩
    go_simp
    refine hK.out _ _ (keep11 hHeld hb) (fun hHeld => ?_)
    clear hK K hb
    try simp only [Act.put, List.setIfInBounds_toArray, List.set_cons_zero, List.set_cons_succ]
    refine wpAnyH_ready (rs := [5]) (by kernel_rfl) (by simp) ?_
    refine AllReadyH.cons rfl (fun K hK => ?_) AllReadyH.nil
    go_simp
    refine hK.out _ _ (keep11 hHeld (below_al _ _)) (fun hHeld => ?_)
    clear hK K
    try simp only [Act.put, List.setIfInBounds_toArray, List.set_cons_zero, List.set_cons_succ]
    refine wpAnyH_ready (rs := [6]) (by kernel_rfl) (by simp) ?_
    refine AllReadyH.cons rfl (fun K hK => ?_) AllReadyH.nil
    go_simp
    go_at_call 78; refine (HP2.out _).mono ?_; rintro e w6 ⟨rfl, hb⟩
    go_simp
    refine hK.out _ _ (keep11 hHeld hb) (fun hHeld => ?_)
    clear hK K hb
    try simp only [Act.put, List.setIfInBounds_toArray, List.set_cons_zero, List.set_cons_succ]
    refine take_at11 (i := 10) (d := 35) (v := .bool (decide (P2 > P1 * P1))) rfl rfl (by kernel_rfl) (by kernel_rfl) (by kernel_rfl) (fun _ _ _ h => h) (Or.inl ⟨by rfl, ?_⟩) hHeld ?_
    · intro w' hS; go_simp
    try simp only [Act.put, List.setIfInBounds_toArray, List.set_cons_zero, List.set_cons_succ]
    refine take_at11 (i := 11) (d := 6) (v := .bool (decide (P2 > P1 * P1))) rfl rfl (by kernel_rfl) (by kernel_rfl) (by kernel_rfl) (fun _ _ _ h => h) (Or.inl ⟨by rfl, ?_⟩) hHeld ?_
    · intro w' hS; go_simp
    try simp only [Act.put, List.setIfInBounds_toArray, List.set_cons_zero, List.set_cons_succ]
    refine take_at11 (i := 12) (d := 7) (v := .int .i64 0) rfl rfl (by kernel_rfl) (by kernel_rfl) (by kernel_rfl) (fun _ _ _ h => h) (Or.inl ⟨by rfl, ?_⟩) hHeld ?_
    · intro w' hS; go_simp
    try simp only [Act.put, List.setIfInBounds_toArray, List.set_cons_zero, List.set_cons_succ]
    refine wpAnyH_done (by kernel_rfl) ?_ _
    go_wp2_with fail
    go_ret2
    exact ⟨by rw [HST.out]; rfl, hHeld.1⟩
  · rw [show stabV p n f x = false by simp [stabV, hr]]
    have hk : (henC p n f x == 0) = false := by simp [hr]
    clear hr
    go_enter Try.func35, Try.ntmps35
    go_wp2_with (first | (go_at_call 53; refine (checkRoots1_any p n x (seen_al2 HS.out _ _) ?_ ?_).mono ?_; (exact cell_second _ _ _ _); (exact size_second _ _ _); rintro e' wn ⟨rfl, hb⟩; have hH := keep_alloc hb; obtain ⟨hB, c0, c1⟩ := hH; clear hb))
    go_ret2
    exact ⟨rfl, hB⟩
theorem simC_zero {p n : Int} {f : List Int} (h : simC p n f = 0) : ringM p n ≠ 0 ∧ polyB f = true := by
  unfold simC at h
  split at h
  · omega
  · split at h
    · omega
    · rename_i a b; exact ⟨a, by simpa using b⟩
set_option maxHeartbeats 2000000 in
theorem implSimple_any (p n : Int) {o : Option Addr} {k c : Nat} {f : List Int} {w : World} (h : Seen w o k c f) :
    Calls Try.prog 18 #[.agg #[.int .i64 p, .int .i64 n], .slice o k c] w (SimP p n f w) := by
  have HS := Lib.hid h
  clear h
  unfold SimP
  by_cases hr : simC p n f = 0
  · obtain ⟨h0, hp⟩ := simC_zero hr
    obtain ⟨hp2, hp97, hn1, hn2, hm1, hm2, hpm⟩ := ringM_bd h0
    obtain ⟨i0, hi, hz0, hz1, hz2⟩ := info_parts Try.infoInt64
    have HI := Lib.hid hi
    have HZ0 := Lib.hid hz0
    have HZ1 := Lib.hid hz1
    have HZ2 := Lib.hid hz2
    have HP := Lib.hid hp
    have H0 := Lib.hid h0
    have HPM := Lib.hid hpm
    rw [hr]
    have HR := Lib.hid hr
    obtain ⟨P, hP⟩ : ∃ P : Nat, p = P := ⟨p.toNat, by omega⟩
    have HPN := Lib.hid (And.intro (show p.toNat = P by omega) hP)
    clear hi hz0 hz1 hz2 hP h0 hr hp hpm
    go_enter Try.func18, Try.ntmps18
    go_wp2_with (go_at_call 53; refine (checkRoots0_any p n (seen_al HS.out _)).mono ?_; rintro e' wn ⟨rfl, hb⟩; have hH := keep_first hb; obtain ⟨hB, c0, c1⟩ := hH; rw [HR.out])
    have HB0 := Lib.hid (show Below (alR w p n).heap.size (alR w p n) wn from hb)
    clear hb hB c0 c1
    go_loopw [7, 17] (fun v d wr => ∃ (j : Nat) (l : List Int), d = .int .i64 j ∧ (j : Int) ≤ p ∧ LiftsTo p n f j l ∧ IntRow (alR w p n).heap.size wr v l ∧ Below (alR w p n).heap.size (alR w p n) wr) (fun _ d _ => P - (intOf d).toNat)
    case atStart => exact ⟨0, [], rfl, by omega, rfl, intRow_nil _ _, HB0.out⟩
    case round =>
      obtain ⟨j, l, rfl, hj, hL, hrow, hBB⟩ := hrel
      obtain ⟨hB, c0, c1⟩ := alR_keep hBB
      have bl := liftsTo_len hL
      have HL := Lib.hid hL
      have HW := Lib.hid hrow
      have HB := Lib.hid hB
      have HBB := Lib.hid hBB
      clear hL hrow hB hBB
      by_cases hlt : (j : Int) < p
      · have hj0 : (0 : Int) ≤ (j : Int) := by omega
        have hjm : (j : Int) < ringM p n := by have := HPM.out; omega
        have HV := Lib.hid (simpleR_any (p := p) (q := n) rfl H0.out hj0 hjm (seen_below HS.out HB.out) HP.out)
        clear hjm
        by_cases hs : simB p f (j : Int) = true
        · have HQ := Lib.hid (simple_of (by omega) hs)
          have HSI := Lib.hid hs
          clear hs
          go_wp2_with (first | (go_at_call 54; refine HV.out.mono ?_; rw [HSI.out]; rintro e w2 ⟨rfl, hb2⟩; obtain ⟨hB2, d0, d1⟩ := keep11 ⟨HB.out, c0, c1⟩ hb2) | (go_at_call 55; refine (liftR_any (p := p) (q := n) (a := (j : Int)) H0.out hj0 hlt (seen_below HS.out hB2) HP.out HQ.out).mono ?_; rintro e w3 ⟨x, rfl, HX, hb3⟩; have HB3 := Lib.hid (HBB.out.trans ((hb2.mono HBB.out.size).trans (hb3.mono (Nat.le_trans HBB.out.size hb2.size)))); have HW3 := Lib.hid (row_next11 (row_next11 HW.out hb2) hb3); clear HV HW) | (at_builtin; refine wpList_append_own _ rfl (.tmp 24) (.tmp 29) 26 rfl (alR w p n).heap.size 2 i0 (.int .i64 0) 1 8 Try.underlying26 HI.out HZ0.out HZ1.out HZ2.out rfl (by decide) _ _ _ rfl (HW3.out.alloc _) ⟨w3.heap.size, 0, none⟩ 1 1 [.int .i64 x] rfl rfl ?c1 ?c2 ?c3 ?c4 ?c5 ?_))
          try (case c1 => first | exact news_one _ _ _ | simp [Addr.add])
          try (case c2 => first | exact one_one _ | rfl)
          case c3 => unfold maxLen; omega
          case c4 => omega
          case c5 => have := HB3.out.size; first | omega | (simp; omega)
          intro v' w1 hown hgrow _
          have HO2 := Lib.hid (intRow_snoc hown)
          have HG2 := Lib.hid (below_appendI HB3.out HW3.out hgrow)
          have HL2 := Lib.hid (show LiftsTo p n f (j + 1) (l ++ [x]) by unfold LiftsTo; rw [if_pos HSI.out]; exact ⟨l, x, HL.out, HX, rfl⟩)
          clear hown hgrow
          go_wp2_with fail
          go_roundw
          case rel => exact ⟨j + 1, _, by first | rfl | go_num, by omega, HL2.out, HO2.out, HG2.out⟩
          case measure => have := HPN.out.2; simp [intOf]; omega
        · have hs' : simB p f (j : Int) = false := by simpa using hs
          have HL2 := Lib.hid (show LiftsTo p n f (j + 1) l by unfold LiftsTo; rw [if_neg hs]; exact HL.out)
          clear hs
          go_wp2_with (go_at_call 54; refine HV.out.mono ?_; rw [hs']; rintro e w2 ⟨rfl, hb2⟩)
          have HW2 := Lib.hid (row_next11 HW.out hb2)
          have HB2 := Lib.hid (HBB.out.trans (hb2.mono HBB.out.size))
          clear HV
          exact ⟨⟨j + 1, l, by first | rfl | go_num, by omega, HL2.out, HW2.out, HB2.out⟩, by have := HPN.out.2; simp [intOf]; omega⟩
      · have HK := Lib.hid (show LiftsTo p n f p.toNat l by rw [HPN.out.1, show P = j by have := HPN.out.2; omega]; exact HL.out)
        have HRR := Lib.hid (intRow_lower HW.out (alR_size w p n))
        clear HW HL
        go_wp2_with fail
        go_ret2
        exact ⟨_, rfl, l, HRR.out, HK.out, HB.out⟩
  · have hk : (simC p n f == 0) = false := by simp [hr]
    have HR := Lib.hid hr
    clear hr
    go_enter Try.func18, Try.ntmps18
    go_wp2_with (go_at_call 53; refine (checkRoots0_any p n (seen_al HS.out _)).mono ?_; rintro e' wn ⟨rfl, hb⟩; have hH := keep_first hb; obtain ⟨hB, c0, c1⟩ := hH)
    go_ret2
    exact ⟨_, [], rfl, intRow_nil _ _, fun h => absurd h HR.out, by simp, hB⟩
end Go.Proofs.Ytckpeoadglkbgaa
namespace Go.Proofs.Ytckpeoadglkbgaa
open Go.RowKit
set_option linter.unusedVariables false
set_option linter.unusedSimpArgs false
noncomputable def lifV (p n : Int) (f : List Int) (a : Int) : Int := if lifC p n f a = 0 then Classical.epsilon (LiftOf p n.toNat f a) else 0
theorem lifV_of {p n a x : Int} {f : List Int} (h1 : lifC p n f a = 0 → LiftOf p n.toNat f a x) (h2 : lifC p n f a ≠ 0 → x = 0) : x = lifV p n f a := by
  unfold lifV
  split
  · rename_i h
    exact lif_one h (h1 h) (Classical.epsilon_spec ⟨x, h1 h⟩)
  · rename_i h; exact h2 h
theorem specLiftV_any (p n a : Int) {o : Option Addr} {k c : Nat} {f : List Int} {w : World} (h : Seen w o k c f) :
    Calls Try.prog 16 #[.agg #[.int .i64 p, .int .i64 n], .slice o k c, .int .i64 a] w fun e w' => e = .returned (.tuple #[.int .i64 (lifV p n f a), .int .i64 (lifC p n f a)]) ∧ Below w.heap.size w w' :=
  (specLiftRoot_any p n a h).mono fun e w' ⟨x, he, h1, h2, hb⟩ => ⟨by rw [he, lifV_of h1 h2], hb⟩
theorem implLiftV_any (p n a : Int) {o : Option Addr} {k c : Nat} {f : List Int} {w : World} (h : Seen w o k c f) :
    Calls Try.prog 15 #[.agg #[.int .i64 p, .int .i64 n], .slice o k c, .int .i64 a] w fun e w' => e = .returned (.tuple #[.int .i64 (lifV p n f a), .int .i64 (lifC p n f a)]) ∧ Below w.heap.size w w' :=
  (implLiftRoot_any p n a h).mono fun e w' ⟨x, he, h1, h2, hb⟩ => ⟨by rw [he, lifV_of h1 h2], hb⟩
theorem lifV_is {p n a : Int} {f : List Int} (h : lifC p n f a = 0) (he : ∃ x, LiftOf p n.toNat f a x) : LiftOf p n.toNat f a (lifV p n f a) := by
  unfold lifV
  rw [if_pos h]
  exact Classical.epsilon_spec he
open Classical in
noncomputable def simL (p n : Int) (f : List Int) : List Int := if h : simC p n f = 0 ∧ ∃ l, LiftsTo p n f p.toNat l then Classical.choose h.2 else []
theorem simL_is {p n : Int} {f : List Int} (h : simC p n f = 0) (he : ∃ l, LiftsTo p n f p.toNat l) : LiftsTo p n f p.toNat (simL p n f) := by
  unfold simL
  rw [dif_pos ⟨h, he⟩]
  exact Classical.choose_spec he
theorem simL_of {p n : Int} {f l : List Int} (h1 : simC p n f = 0 → LiftsTo p n f p.toNat l) (h2 : simC p n f ≠ 0 → l = []) : l = simL p n f := by
  by_cases h : simC p n f = 0
  · exact liftsTo_one (simC_zero h).1 (h1 h) (simL_is h ⟨l, h1 h⟩)
  · rw [h2 h, simL, dif_neg fun x => h x.1]
theorem specSimL_any (p n : Int) {o : Option Addr} {k c : Nat} {f : List Int} {w : World} (h : Seen w o k c f) :
    Calls Try.prog 19 #[.agg #[.int .i64 p, .int .i64 n], .slice o k c] w (IntPost (simL p n f) (simC p n f) w) :=
  (specSimple_any p n h).mono fun e w' ⟨v, l, he, hr, h1, h2, hb⟩ => ⟨v, he, by rw [← simL_of h1 h2]; exact hr, hb⟩
theorem implSimL_any (p n : Int) {o : Option Addr} {k c : Nat} {f : List Int} {w : World} (h : Seen w o k c f) :
    Calls Try.prog 18 #[.agg #[.int .i64 p, .int .i64 n], .slice o k c] w (IntPost (simL p n f) (simC p n f) w) :=
  (implSimple_any p n h).mono fun e w' ⟨v, l, he, hr, h1, h2, hb⟩ => ⟨v, he, by rw [← simL_of h1 h2]; exact hr, hb⟩
/-- how long the answer is -/
theorem simL_len (p n : Int) (f : List Int) : (simL p n f).length ≤ 1000 := by
  by_cases h : simC p n f = 0 ∧ ∃ l, LiftsTo p n f p.toNat l
  · have h1 := liftsTo_len (simL_is h.1 h.2)
    obtain ⟨h2, h3, _⟩ := ringM_bd (simC_zero h.1).1
    omega
  · rw [simL, dif_neg h]; simp
end Go.Proofs.Ytckpeoadglkbgaa
namespace Go.Proofs.Ytckpeoadglkbgaa
open Go.RowKit Go.Shelf
set_option linter.unusedVariables false
set_option linter.unusedSimpArgs false
set_option maxRecDepth 20000
theorem keep13 {w0 W W' : World} {a b c : Addr} {u v t : Value} (h : Below w0.heap.size w0 W ∧ W.cell? a = some u ∧ W.cell? b = some v ∧ W.cell? c = some t) (hb : Below W.heap.size W W') : Below w0.heap.size w0 W' ∧ W'.cell? a = some u ∧ W'.cell? b = some v ∧ W'.cell? c = some t := by
  obtain ⟨h1, h2, h3, h4⟩ := h
  exact ⟨h1.trans (hb.mono h1.size), by rw [hb.cell (World.block_lt_of_cell? _ _ h2)]; exact h2, by rw [hb.cell (World.block_lt_of_cell? _ _ h3)]; exact h3, by rw [hb.cell (World.block_lt_of_cell? _ _ h4)]; exact h4⟩
theorem cls_cells {base : Nat} {w : World} {o : Option Addr} {c : Nat} {l : List (Int × Int)} (h : ClsRow base w (.slice o l.length c) l) {k : Nat} (hk : k < l.length) :
    ∃ g, o = some ⟨g, 0, none⟩ ∧ g < w.heap.size ∧ w.cell? ⟨g, k * 2, none⟩ = some (.int .i64 (l.getD k (0, 0)).1) ∧ w.cell? ⟨g, k * 2 + 1, none⟩ = some (.int .i64 (l.getD k (0, 0)).2) := by
  rcases row_shape h with ⟨h1, _⟩ | ⟨_, g, c', hv, hb, hg⟩
  · omega
  · cases hv
    refine ⟨g, rfl, hg, ?_, ?_⟩
    · rw [World.ownsRow.cellAt h (k * 2) (by omega)]; exact (pc_get l k hk).1
    · rw [World.ownsRow.cellAt h (k * 2 + 1) (by omega)]; exact (pc_get l k hk).2
theorem expL_take {M : Int} {L : List (Int × Int)} {k : Nat} (h : k < L.length) (hc : ∀ c ∈ L, ClsOk M c) (hM : 0 < M) : ((expL M (L.take (k + 1))).length : Int) = ((expL M (L.take k)).length : Int) + M / (L.getD k (0, 0)).2 := by
  have e : L.getD k (0, 0) = L[k] := by simp [List.getD, h]
  rw [List.take_add_one, List.getElem?_eq_getElem h, Option.toList_some, expL_len, e]
  have hok := hc L[k] (List.getElem_mem h)
  have : 0 ≤ M / L[k].2 := Int.ediv_nonneg (by omega) (by have := hok.1; have := hok.2.1; omega)
  push_cast
  rw [Int.toNat_of_nonneg this]
theorem expL_le (M : Int) (L : List (Int × Int)) (k : Nat) : (expL M (L.take k)).length ≤ (expL M L).length := by
  have : expL M L = expL M (L.take k) ++ expL M (L.drop k) := by rw [← expL_append, List.take_append_drop]
  rw [this, List.length_append]; omega
set_option maxHeartbeats 2000000 in
theorem countCls_any {p q M : Int} (hR : ringM p q = M) (m2 : 2 ≤ M) (m9 : M ≤ 1000000000) {b : Nat} {o : Option Addr} {c : Nat} {L : List (Int × Int)} {w : World} (h : ClsRow b w (.slice o L.length c) L) (hc : ∀ x ∈ L, ClsOk M x) (hl : ((expL M L).length : Int) ≤ 1000000000) (hl2 : (L.length : Int) ≤ 1000000000) :
    Calls Try.prog 72 #[.agg #[.int .i64 p, .int .i64 q], .slice o L.length c] w fun e w' => e = .returned (.int .i64 ((expL M L).length : Int)) ∧ Below w.heap.size w w' := by
  have HC := Lib.hid hc
  have HCL := Lib.hid fun (k : Nat) (hk : k < L.length) => cls_cells h hk
  have HM := Lib.hid fun w => modulusR_any hR w
  clear h hc
  go_enter Try.func72, Try.ntmps72
  go_wp2_with fail
  go_loopw [5, 10] (fun a i wr => ∃ k : Nat, i = .int .i64 k ∧ k ≤ L.length ∧ a = .int .i64 ((expL M (L.take k)).length : Int) ∧ Below w.heap.size w wr ∧ wr.cell? ⟨w.heap.size, 0, none⟩ = some (.int .i64 p) ∧ wr.cell? ⟨w.heap.size, 1, none⟩ = some (.int .i64 q)) (fun _ i _ => L.length - (intOf i).toNat)
  case atStart => exact ⟨0, rfl, Nat.zero_le _, rfl, (Below.refl _ _).alloc (Nat.le_refl _) _, World.cell?_alloc_new _ _ _ _ ▸ rfl, World.cell?_alloc_new _ _ _ _ ▸ rfl⟩
  case round =>
    obtain ⟨k, rfl, hk, rfl, hB, c0, c1⟩ := hrel
    have HB := Lib.hid hB
    by_cases hlt : k < L.length
    · obtain ⟨g, rfl, hg, d0, d1⟩ := HCL.out k hlt
      have hok := HC.out _ (List.getElem_mem hlt)
      have e0 : wr.cell? ⟨g, k * 2, none⟩ = some (.int .i64 (L.getD k (0, 0)).1) := by rw [hB.cell (p := ⟨g, k * 2, none⟩) hg]; exact d0
      have e1 : wr.cell? ⟨g, k * 2 + 1, none⟩ = some (.int .i64 (L.getD k (0, 0)).2) := by rw [hB.cell (p := ⟨g, k * 2 + 1, none⟩) hg]; exact d1
      have ee : L.getD k (0, 0) = L[k] := by simp [List.getD, hlt]
      have hst := expL_take hlt HC.out (by omega)
      have hle := expL_le M L (k + 1)
      obtain ⟨x, hx⟩ : ∃ x, (L.getD k (0, 0)).1 = x := ⟨_, rfl⟩
      obtain ⟨y, hy⟩ : ∃ y, (L.getD k (0, 0)).2 = y := ⟨_, rfl⟩
      have hy0 : 0 < y := by rw [← hy, ee]; have := hok.1; have := hok.2.1; omega
      rw [hx] at e0
      rw [hy] at e1 hst
      obtain ⟨A, hA⟩ : ∃ A : Nat, (expL M (L.take k)).length = A := ⟨_, rfl⟩
      obtain ⟨D, hD⟩ : ∃ D, M / y = D := ⟨_, rfl⟩
      have hD0 : 0 ≤ D := by rw [← hD]; exact Int.ediv_nonneg (by omega) (by omega)
      have htd : M.tdiv y = D := by rw [Int.tdiv_eq_ediv_of_nonneg (by omega), hD]
      rw [hA, hD] at hst
      have wD : IntKind.i64.wrap D = D := IntWalk.i64_in _ (by omega)
      have wS : IntKind.i64.wrap ((A : Int) + D) = (A : Int) + D := IntWalk.i64_in _ (by omega)
      have hyz : (y == 0) = false := by simp; omega
      have hyn : ¬ y = 0 := by omega
      have HST := Lib.hid hst
      clear hok ee hst hle hx hy hD d0 d1 hB
      rw [hA]
      clear hA
      have hst3 : Below w.heap.size w (wr.alloc (.cells #[.int .i64 x, .int .i64 y] 87)).drew ∧ (wr.alloc (.cells #[.int .i64 x, .int .i64 y] 87)).drew.cell? ⟨w.heap.size, 0, none⟩ = some (.int .i64 p) ∧ (wr.alloc (.cells #[.int .i64 x, .int .i64 y] 87)).drew.cell? ⟨w.heap.size, 1, none⟩ = some (.int .i64 q) ∧ (wr.alloc (.cells #[.int .i64 x, .int .i64 y] 87)).drew.cell? ⟨wr.heap.size, 1, none⟩ = some (.int .i64 y) := by
        have h1 := keep11 ⟨HB.out, c0, c1⟩ (below_a8 wr (.cells #[.int .i64 x, .int .i64 y] 87))
        exact ⟨below_drewN h1.1 1, h1.2.1, h1.2.2, World.cell?_alloc_new _ _ _ _ ▸ rfl⟩
      go_wp2_with fail
      go_region_held3 (fun W' => Below w.heap.size w W' ∧ W'.cell? ⟨w.heap.size, 0, none⟩ = some (.int .i64 p) ∧ W'.cell? ⟨w.heap.size, 1, none⟩ = some (.int .i64 q) ∧ W'.cell? ⟨wr.heap.size, 1, none⟩ = some (.int .i64 y)) (first | exact hst3 | exact keep13 ‹_› hq1 | assumption)
        (first | (go_at_call 71; with_reducible refine (HM.out _).mono ?_; rintro e w3 ⟨rfl, hq1⟩))
      all_goals obtain ⟨hB3, d0, d1, _⟩ := ‹Below w.heap.size w w3 ∧ _›
      all_goals clear hst3 hq1
      all_goals go_wp2_with fail
      all_goals exact ⟨⟨k + 1, by first | rfl | go_num, by omega, by rw [HST.out], hB3, d0, d1⟩, by simp only [intOf]; omega⟩
    · have hkl : k = L.length := by omega
      subst hkl
      clear hB
      rw [List.take_length]
      go_wp2_with fail
      go_ret
      exact ⟨rfl, HB.out⟩
theorem cntRC_bad {p n : Int} {f : List Int} (h : simC p n f ≠ 0) : cntRC p n f = simC p n f := by
  unfold simC cntRC at *
  split
  · rfl
  · split
    · rfl
    · simp_all
theorem cntRC_good {p n : Int} {f : List Int} (h : simC p n f = 0) : cntRC p n f = if 100000 < ringM p n then 3 else 0 := by
  obtain ⟨h0, hp⟩ := simC_zero h
  simp [cntRC, h0, hp]
set_option maxHeartbeats 2000000 in
theorem implCountR_any (p n : Int) {o : Option Addr} {k c : Nat} {f : List Int} {w : World} (h : Seen w o k c f) :
    Calls Try.prog 29 #[.agg #[.int .i64 p, .int .i64 n], .slice o k c] w fun e w' => e = .returned (.tuple #[.int .i64 (cntRV p n f), .int .i64 (cntRC p n f)]) ∧ Below w.heap.size w w' := by
  have HS := Lib.hid h
  clear h
  by_cases hr : simC p n f = 0
  · obtain ⟨h0, hp⟩ := simC_zero hr
    obtain ⟨hp2, hp97, hn1, hn2, hm1, hm2, hpm⟩ := ringM_bd h0
    have HR := Lib.hid hr
    have e0 := cntRC_good hr
    have hk9 : k ≤ 9 := by have := (polyB_of hp).1; have := HS.out.1; omega
    have HM := Lib.hid fun w => modulusR_any (p := p) (q := n) rfl w
    have HCL := Lib.hid fun (W : World) (hw : Below w.heap.size w W) => classes_any (p := p) (q := n) rfl h0 (seen_below HS.out hw) hk9
    by_cases hl : 100000 < ringM p n
    · rw [if_pos hl] at e0
      rw [show cntRV p n f = 0 by simp [cntRV, e0], e0]
      clear h0 hr hp e0
      go_enter Try.func29, Try.ntmps29
      go_wp2_with (first | (go_at_call 53; refine (checkRoots0_any p n (seen_al HS.out _)).mono ?_; rintro e' wn ⟨rfl, hb⟩; have hH := keep_first hb; clear hb; obtain ⟨hB, c0, c1⟩ := hH; rw [HR.out]) | (go_at_call 71; refine (HM.out _).mono ?_; rintro e' wn2 ⟨rfl, hb⟩; have hH := keep_next ⟨hB, c0, c1⟩ hb; clear hB c0 c1 hb; obtain ⟨hB, c0, c1⟩ := hH))
      go_ret2
      exact ⟨rfl, hB⟩
    rw [if_neg hl] at e0
    rw [show cntRV p n f = ((rootsA (ringM p n) f).length : Int) by simp [cntRV, e0], e0]
    clear h0 hr hp e0
    go_enter Try.func29, Try.ntmps29
    go_wp2_with (first | (go_at_call 53; refine (checkRoots0_any p n (seen_al HS.out _)).mono ?_; rintro e' wn ⟨rfl, hb⟩; have hH := keep_first hb; clear hb; obtain ⟨hB, c0, c1⟩ := hH; rw [HR.out]) | (go_at_call 71; refine (HM.out _).mono ?_; rintro e' wn2 ⟨rfl, hb⟩; have hH := keep_next ⟨hB, c0, c1⟩ hb; clear hB c0 c1 hb; obtain ⟨hB, c0, c1⟩ := hH))
    have hst : Below w.heap.size w wn2.drew ∧ wn2.drew.cell? ⟨w.heap.size, 0, none⟩ = some (.int .i64 p) ∧ wn2.drew.cell? ⟨w.heap.size, 1, none⟩ = some (.int .i64 n) := ⟨below_drewN hB 1, c0, c1⟩
    clear hB c0 c1
    refine wp_region_held_drew (S := fun W' => Below w.heap.size w W' ∧ W'.cell? ⟨w.heap.size, 0, none⟩ = some (.int .i64 p) ∧ W'.cell? ⟨w.heap.size, 1, none⟩ = some (.int .i64 n)) (by kernel_rfl) hst (fun hHeld => ?_)
    refine take_at11 (i := 0) (d := 16) (v := .agg #[.int .i64 p, .int .i64 n]) rfl rfl (by kernel_rfl) (by kernel_rfl) (by kernel_rfl) (fun _ _ _ h => h) (Or.inl ⟨by rfl, ?_⟩) hHeld ?_
    · intro w' hS; obtain ⟨_, k0, k1⟩ := hS; go_simp
    try simp only [Act.put, List.setIfInBounds_toArray, List.set_cons_zero, List.set_cons_succ]
    refine take_at11 (i := 1) (d := 17) (v := .agg #[.int .i64 p, .int .i64 n]) rfl rfl (by kernel_rfl) (by kernel_rfl) (by kernel_rfl) (fun _ _ _ h => h) (Or.inl ⟨by rfl, ?_⟩) hHeld ?_
    · intro w' hS; obtain ⟨_, k0, k1⟩ := hS; go_simp
    try simp only [Act.put, List.setIfInBounds_toArray, List.set_cons_zero, List.set_cons_succ]
    refine take_at11 (i := 2) (d := 18) (v := .slice o k c) rfl rfl (by kernel_rfl) (by kernel_rfl) (by kernel_rfl) (fun _ _ _ h => h) (Or.inl ⟨by rfl, ?_⟩) hHeld ?_
    · intro w' hS; go_simp
    try simp only [Act.put, List.setIfInBounds_toArray, List.set_cons_zero, List.set_cons_succ]
    refine wpAnyH_ready (rs := [3]) (by kernel_rfl) (by simp) ?_
    refine AllReadyH.cons rfl (fun K hK => ?_) AllReadyH.nil
    go_simp
    go_at_call 73; refine (HCL.out _ hHeld.1).mono ?_; rintro e w3 ⟨v3, L, rfl, hrow, hE, hO, hL, hb⟩; obtain ⟨o3, c3, rfl⟩ := own_slice hrow
    go_simp
    refine hK.out _ _ (keep11 hHeld hb) (fun hHeld => ?_)
    clear hK K
    try simp only [Act.put, List.setIfInBounds_toArray, List.set_cons_zero, List.set_cons_succ]
    have hlen := each_len (by omega) hE
    have hle : (rootsA (ringM p n) f).length ≤ (ringM p n).toNat := rootsM_len _ _ _
    refine wpAnyH_ready (rs := [4]) (by kernel_rfl) (by simp) ?_
    refine AllReadyH.cons rfl (fun K hK => ?_) AllReadyH.nil
    go_simp
    go_at_call 72; refine (countCls_any (p := p) (q := n) rfl hm1 hm2 hrow hO (by omega) (by omega)).mono ?_; rw [hlen]; rintro e w4 ⟨rfl, hb⟩
    go_simp
    refine hK.out _ _ (keep11 hHeld ‹_›) (fun hHeld => ?_)
    clear hK K
    try simp only [Act.put, List.setIfInBounds_toArray, List.set_cons_zero, List.set_cons_succ]
    refine take_at11 (i := 5) (d := 4) (v := .int .i64 ((rootsA (ringM p n) f).length : Int)) rfl rfl (by kernel_rfl) (by kernel_rfl) (by kernel_rfl) (fun _ _ _ h => h) (Or.inl ⟨by rfl, ?_⟩) hHeld ?_
    · intro w' hS; go_simp
    try simp only [Act.put, List.setIfInBounds_toArray, List.set_cons_zero, List.set_cons_succ]
    refine take_at11 (i := 6) (d := 5) (v := .int .i64 0) rfl rfl (by kernel_rfl) (by kernel_rfl) (by kernel_rfl) (fun _ _ _ h => h) (Or.inl ⟨by rfl, ?_⟩) hHeld ?_
    · intro w' hS; go_simp
    try simp only [Act.put, List.setIfInBounds_toArray, List.set_cons_zero, List.set_cons_succ]
    refine wpAnyH_done (by kernel_rfl) ?_ _
    go_wp2_with fail
    go_ret2
    exact ⟨rfl, hHeld.1⟩
  · have hk : (simC p n f == 0) = false := by simp [hr]
    have e0 := cntRC_bad hr
    rw [show cntRV p n f = 0 by simp [cntRV, e0, hr], e0]
    clear hr e0
    go_enter Try.func29, Try.ntmps29
    go_wp2_with (go_at_call 53; refine (checkRoots0_any p n (seen_al HS.out _)).mono ?_; rintro e' wn ⟨rfl, hb⟩; have hH := keep_first hb; obtain ⟨hB, c0, c1⟩ := hH)
    go_ret2
    exact ⟨rfl, hB⟩
end Go.Proofs.Ytckpeoadglkbgaa
namespace Go.Proofs.Ytckpeoadglkbgaa
open Go.RowKit
set_option linter.unusedVariables false
set_option linter.unusedSimpArgs false
set_option maxRecDepth 20000 in
set_option maxHeartbeats 2000000 in
theorem exactCountR_core (p n : Int) (af : Option Addr) (capf : Nat) (f : List Int) (w : World) (hf : f.length ≤ 1048576) (kf : ArgInt w af f) :
    Calls Try.prog 10 #[.agg #[.int .i64 p, .int .i64 n], .slice af f.length capf] w fun e w' => e = .returned (.bool true) ∧ Below w.heap.size w w' := by
  obtain ⟨wR, hwR⟩ : ∃ wR, w.alloc (.cells #[.int .i64 p, .int .i64 n] 43) = wR := ⟨_, rfl⟩
  have HBR := Lib.hid (show Below w.heap.size w wR by rw [← hwR]; exact (Below.refl _ _).alloc (Nat.le_refl _) _)
  have HR0 := Lib.hid (show wR.cell? ⟨w.heap.size, 0, none⟩ = some (.int .i64 p) by rw [← hwR]; exact World.cell?_alloc_new _ _ _ _ ▸ rfl)
  have HR1 := Lib.hid (show wR.cell? ⟨w.heap.size, 1, none⟩ = some (.int .i64 n) by rw [← hwR]; exact World.cell?_alloc_new _ _ _ _ ▸ rfl)
  have HRL := Lib.hid (show w.heap.size < wR.heap.size by rw [← hwR]; simp)
  have HA0 := Lib.hid (argInt_below kf HBR.out)
  have HT0 := Lib.hid fun (w : World) (h : ArgInt w af f) => toInt64S_any af capf f w hf h
  have hnf : (0 : Int) ≤ (f.length : Int) := Int.natCast_nonneg _
  have HS := Lib.hid fun (w : World) (b : Nat) (o : Option Addr) (c : Nat) (h : IntRow b w (.slice o f.length c) f) => specCountR_any p n (row_seen h (show f.length ≤ 1100000 by omega))
  have HI := Lib.hid fun (w : World) (b : Nat) (o : Option Addr) (c : Nat) (h : IntRow b w (.slice o f.length c) f) => implCountR_any p n (row_seen h (show f.length ≤ 1100000 by omega))
  generalize (cntRV p n f) = q at *
  generalize (cntRC p n f) = c at *
  have B0 := Lib.hid (Below.refl wR.heap.size wR)
  clear kf
  go_enter Try.func10, Try.ntmps10
  have hr0 := (B0.out.cell (p := ⟨w.heap.size, 0, none⟩) HRL.out).trans HR0.out
  have hr1 := (B0.out.cell (p := ⟨w.heap.size, 1, none⟩) HRL.out).trans HR1.out
  go_wp2_with fail
  refine (toRing_any p n _).mono ?_
  rintro e W1 ⟨rfl, b1⟩
  clear hr0 hr1
  have B1 := Lib.hid (B0.out.trans (b1.mono B0.out.size))
  clear b1
  go_wp2_with fail
  refine (HT0.out _ (argInt_below HA0.out B1.out)).mono ?_
  rintro e W2 ⟨v2, rfl, r2, b2⟩
  obtain ⟨o2, c2, rfl⟩ := row_slice r2
  have B2 := Lib.hid (B1.out.trans (b2.mono B1.out.size))
  have R_sf_2 := Lib.hid r2
  clear r2 b2
  go_wp2_with fail
  refine (HS.out _ _ _ _ R_sf_2.out).mono ?_
  rintro e W3 ⟨rfl, b3⟩
  have B3 := Lib.hid (B2.out.trans (b3.mono B2.out.size))
  have R_sf_3 := Lib.hid (row_below R_sf_2.out b3 (Nat.le_refl _))
  clear b3
  go_wp2_with fail
  refine (HT0.out _ (argInt_below HA0.out B3.out)).mono ?_
  rintro e W4 ⟨v4, rfl, r4, b4⟩
  obtain ⟨o4, c4, rfl⟩ := row_slice r4
  have B4 := Lib.hid (B3.out.trans (b4.mono B3.out.size))
  have R_xf_4 := Lib.hid r4
  clear r4 b4
  have hr0 := (B4.out.cell (p := ⟨w.heap.size, 0, none⟩) HRL.out).trans HR0.out
  have hr1 := (B4.out.cell (p := ⟨w.heap.size, 1, none⟩) HRL.out).trans HR1.out
  go_wp2_with fail
  refine (toRing_any p n _).mono ?_
  rintro e W5 ⟨rfl, b5⟩
  clear hr0 hr1
  have B5 := Lib.hid (B4.out.trans (b5.mono B4.out.size))
  have R_xf_5 := Lib.hid (row_below R_xf_4.out b5 (Nat.le_refl _))
  clear b5
  go_wp2_with fail
  refine (HI.out _ _ _ _ R_xf_5.out).mono ?_
  rintro e W6 ⟨rfl, b6⟩
  have B6 := Lib.hid (B5.out.trans (b6.mono B5.out.size))
  have R_xf_6 := Lib.hid (row_below R_xf_5.out b6 (Nat.le_refl _))
  clear b6
  go_wp2_with fail
  refine (HT0.out _ (argInt_below HA0.out B6.out)).mono ?_
  rintro e W7 ⟨v7, rfl, r7, b7⟩
  obtain ⟨o7, c7, rfl⟩ := row_slice r7
  have B7 := Lib.hid (B6.out.trans (b7.mono B6.out.size))
  have R_xf_7 := Lib.hid (row_below R_xf_6.out b7 (Nat.le_refl _))
  have R_tf_7 := Lib.hid r7
  clear r7 b7
  go_wp2_with fail
  refine (eqInt_same R_xf_7.out R_tf_7.out (by omega)).mono ?_
  rintro e W8 ⟨rfl, nd, hw⟩
  have b8 : Below W7.heap.size W7 W8 := by rw [hw]; exact below_drewN (Below.refl _ _) nd
  clear hw nd
  have B8 := Lib.hid (B7.out.trans (b8.mono B7.out.size))
  have R_xf_8 := Lib.hid (row_below R_xf_7.out b8 (Nat.le_refl _))
  have R_tf_8 := Lib.hid (row_below R_tf_7.out b8 (Nat.le_refl _))
  clear b8
  go_wp2_with fail
  go_ret
  exact ⟨rfl, HBR.out.trans (B8.out.mono HBR.out.size)⟩
theorem exactCountR_walk (p n : Int) (af : Option Addr) (lenf capf : Nat) (zf : List Int) (w : World) (_ : (Lit.int .i64 p).wf = true) (_ : (Lit.int .i64 n).wf = true) (hf : (af = none ∧ lenf = 0 ∧ capf = 0 ∧ zf = []) ∨ ∃ x, af = some x ∧ lenf ≤ capf ∧ capf ≤ maxLen ∧ zf.length = capf ∧ (∀ i, i < zf.length → w.cell? (x.add i) = some (.int .i64 (zf.getD i 0))) ∧ ∀ n ∈ zf, (Lit.int .i64 n).wf = true) :
    Calls Try.prog 10 #[.agg #[.int .i64 p, .int .i64 n], .slice af lenf capf] w fun e w' => e = .returned (.bool true) ∧ Below w.heap.size w w' := by
  have mf := len_of_row hf
  obtain ⟨lf, ef, kf⟩ := arg_of_row hf
  clear hf
  by_cases qf : lenf ≤ 1048576
  · subst ef
    exact exactCountR_core p n af capf lf w qf kf
  · clear kf ef
    go_enter Try.func10, Try.ntmps10
    go_wp2
    go_ret
    exact ⟨rfl, (Below.refl _ _).alloc (Nat.le_refl _) _⟩
end Go.Proofs.Ytckpeoadglkbgaa
