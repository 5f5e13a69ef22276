/- Contracts of the walk: chapter 12 in spec: sums, products and division by a monic polynomial, by a modulus. -/
import Derived.Test.YtbjkcoajabcibaaLftDiv
import Derived.Test.YtbjkcoajabcibaaHenPoly
namespace Go.Proofs.Ytbjkcoajabcibaa
open Go.RowKit
set_option linter.unusedVariables false
set_option linter.unusedSimpArgs false
set_option maxRecDepth 20000
theorem tabF_step {F : Nat → Int} {N k : Nat} {y : Int} (hk : k < N) (hy : F k = y) :
    (tabL N fun i => if i < k then F i else 0).set k y = tabL N fun i => if i < k + 1 then F i else 0 := by
  rw [tab_set y hk]
  refine tabL_ext fun i hi => ?_
  by_cases e : i = k
  · subst e; rw [if_pos rfl, if_pos (by omega), hy]
  · rw [if_neg e]
    by_cases h2 : i < k
    · rw [if_pos h2, if_pos (by omega)]
    · rw [if_neg h2, if_neg (by omega)]
/-- a sum's coefficient by a modulus -/
def sumF (M : Int) (f g : List Int) (kk : Int) (i : Nat) : Int := (f.getD i 0 + kk * g.getD i 0) % M
theorem sumF_end (M : Int) (f g : List Int) (kk : Int) : trimL (tabL (max f.length g.length) (sumF M f g kk)) = redL M (addL f g kk) := by
  unfold redL
  rw [addL_length]
  congr 1
  exact tabL_ext fun i _ => by rw [addL_getD]; rfl
set_option maxHeartbeats 2000000 in
theorem l12Add_any (kk M : Int) (m2 : 2 ≤ M) (m9 : M ≤ 1000000000) {o o' : Option Addr} {n n' c c' : Nat} {f g : List Int} {w : World} (h : Seen w o n c f) (h' : Seen w o' n' c' g)
    (bf : ∀ i, 0 ≤ f.getD i 0 ∧ f.getD i 0 < M) (bg : ∀ i, -1000000000000000000 ≤ kk * g.getD i 0 ∧ kk * g.getD i 0 ≤ 1000000000000000000) :
    Calls Try.prog 151 #[.slice o n c, .slice o' n' c', .int .i64 kk, .int .i64 M] w (OwnPost (redL M (addL f g kk)) w) := by
  obtain ⟨hl, hn, hno, hnc, a, h1, h2⟩ := h
  obtain ⟨hl', hn', hno', hnc', a', h1', h2'⟩ := h'
  obtain ⟨i0, hi, hz0, hz1, hz2⟩ := info_parts Try.infoInt64
  have HI := Lib.hid hi
  have HZ0 := Lib.hid hz0
  have HZ1 := Lib.hid hz1
  have HZ2 := Lib.hid hz2
  have HF := Lib.hid h1
  have HC := Lib.hid h2
  have HF' := Lib.hid h1'
  have HC' := Lib.hid h2'
  have HL := Lib.hid (And.intro hl hl')
  have BF := Lib.hid bf
  have BG := Lib.hid bg
  obtain ⟨N, hN⟩ : ∃ N, max n n' = N := ⟨_, rfl⟩
  have hNb : N ≤ 1100000 := by omega
  have hmax : max (n : Int) (n' : Int) = (N : Int) := by omega
  have HNm := Lib.hid hN
  clear hi hz0 hz1 hz2 h1 h2 hl hno hnc h1' h2' hl' hno' hnc' bf bg
  go_enter Try.func151, Try.ntmps151
  go_upto_region 1 with fail
  go_cut [9] (fun s9 wx => s9 = .slice (some ⟨w.heap.size, 0, none⟩) N N ∧ IntRow w.heap.size wx (.slice (some ⟨w.heap.size, 0, none⟩) N N) (tabL N fun _ => 0) ∧ Below w.heap.size w wx)
  case first =>
    by_cases hle : n' ≤ n
    · have e : n = N := by omega
      subst e
      go_wp2_with (at_make; refine wpList_make_full _ rfl (.tmp 15) (.tmp 15) 26 rfl w.heap.size 2 i0 (.int .i64 0) 1 Try.underlying26 HI.out HZ0.out HZ1.out .i64 .i64 _ _ n rfl rfl rfl rfl (by rw [HZ2.out]; omega) (by unfold maxLen; omega) (Nat.le_refl _) ?_; intro w2 hown hgrow)
      have HB2 := (Below.refl w.heap.size w).grown hgrow (Nat.le_refl _) (fun k h => by cases h)
      have HR := Lib.hid (int_made hown)
      clear hown hgrow
      go_wp2
      go_meet
      case rel => exact ⟨rfl, HR.out, HB2⟩
    · have e : n' = N := by omega
      subst e
      go_wp2_with (at_make; refine wpList_make_full _ rfl (.tmp 15) (.tmp 15) 26 rfl w.heap.size 2 i0 (.int .i64 0) 1 Try.underlying26 HI.out HZ0.out HZ1.out .i64 .i64 _ _ n' rfl rfl rfl rfl (by rw [HZ2.out]; omega) (by unfold maxLen; omega) (Nat.le_refl _) ?_; intro w2 hown hgrow)
      have HB2 := (Below.refl w.heap.size w).grown hgrow (Nat.le_refl _) (fun k h => by cases h)
      have HR := Lib.hid (int_made hown)
      clear hown hgrow
      go_wp2
      go_meet
      case rel => exact ⟨rfl, HR.out, HB2⟩
  case rest =>
  obtain ⟨rfl, hrow, hb⟩ := hcut
  have HR0 := Lib.hid hrow
  have HB0 := Lib.hid hb
  clear hrow hb hmax hN
  go_wp2
  go_loopw [10] (fun i wr => ∃ k : Nat, k ≤ N ∧ i = .int .i64 k ∧ IntRow w.heap.size wr (.slice (some ⟨w.heap.size, 0, none⟩) N N) (tabL N fun i => if i < k then sumF M f g kk i else 0) ∧ Below w.heap.size w wr) (fun i _ => N - (intOf i).toNat)
  case atStart => exact ⟨0, Nat.zero_le _, rfl, by rw [tabL_ext (g := fun _ => 0) (fun i _ => if_neg (Nat.not_lt_zero _))]; exact HR0.out, HB0.out⟩
  case round =>
    obtain ⟨k, hk, rfl, hrow, hb⟩ := hrel
    have HW := Lib.hid hrow
    have HB := Lib.hid hb
    have bs := hb.size
    clear hrow hb
    by_cases hlt : k < N
    · have c3 := int_at HW.out (tabL_length _ _) hlt
      rw [tabL_getD hlt, if_neg (Nat.lt_irrefl _)] at c3
      by_cases hf : k < n
      · obtain ⟨rfl, hag⟩ := HF.out (by omega)
        have a2 := HC.out k hf
        rw [← HB.out.cell (p := ⟨a, k, none⟩) hag] at a2
        have R1 := Lib.hid (int_stored HW.out (tabL_length _ _) k (f.getD k 0))
        have f3 := int_frozen HW.out (tabL_length _ _) k
        have B1 := Lib.hid (HB.out.setCell (p := ⟨w.heap.size, k, none⟩) (Nat.le_refl _) (.int .i64 (f.getD k 0)))
        by_cases hg : k < n'
        · obtain ⟨rfl, hag'⟩ := HF'.out (by omega)
          have b2 := HC'.out k hg
          rw [← B1.out.cell (p := ⟨a', k, none⟩) hag'] at b2
          have BFk := BF.out k
          have BGk := BG.out k
          obtain ⟨x, hx⟩ : ∃ x, f.getD k 0 = x := ⟨_, rfl⟩
          obtain ⟨z, hzz⟩ : ∃ x, g.getD k 0 = x := ⟨_, rfl⟩
          have HE := Lib.hid (tabF_step (F := sumF M f g kk) (y := (x + kk * z) % M) hlt (by rw [sumF, hx, hzz]))
          rw [hx] at a2 R1 B1 b2 BFk
          rw [hzz] at b2 BGk
          clear hx hzz
          go_upto_region 8 with fail
          have hsl : ((tabL N fun i => if i < k then sumF M f g kk i else 0).set k x).length = N := by rw [List.length_set, tabL_length]
          have hsg : ((tabL N fun i => if i < k then sumF M f g kk i else 0).set k x).getD k 0 = x := by rw [tab_set x hlt, tabL_getD hlt, if_pos rfl]
          generalize wr.setCell ⟨w.heap.size, k, none⟩ (.int .i64 x) = W1 at R1 B1 b2 ⊢
          have c4 := int_at R1.out hsl hlt
          rw [hsg] at c4
          have f4 := int_frozen R1.out hsl k
          have w1 : IntKind.i64.wrap (kk * z) = kk * z := IntWalk.i64_in _ (by omega)
          have w2 : IntKind.i64.wrap (x + kk * z) = x + kk * z := IntWalk.i64_in _ (by omega)
          clear c3 f3 a2 hsg
          refine wp_region_still_tail 16 (by kernel_rfl) (by kernel_rfl) ?_
          simp only [List.take_succ_cons, List.take_zero, List.drop_succ_cons, List.drop_zero]
          iterate 14 still_step
          still_call ((mod8_any (x + kk * z) M _ m2 m9).mono fun e w h => ⟨h.1, h.2.symm⟩)
          repeat still_step
          refine wpStill_nil ?_
          change wpList _ _ _ _ _ W1.drew
          have R2 : Hid (IntRow w.heap.size W1.drew _ _) := Lib.hid R1.out
          have B2 := Lib.hid (below_drewN B1.out 1)
          replace c4 : W1.drew.cell? ⟨w.heap.size, k, none⟩ = _ := c4
          replace f4 : W1.drew.frozen? ⟨w.heap.size, k, none⟩ = _ := f4
          change Hid (Below w.heap.size w W1.drew) at B2
          clear R1 B1 b2
          generalize W1.drew = W2 at R2 B2 c4 f4 ⊢
          have R3 := Lib.hid (int_stored R2.out hsl k ((x + kk * z) % M))
          rw [List.set_set, HE.out] at R3
          have B3 := Lib.hid (B2.out.setCell (p := ⟨w.heap.size, k, none⟩) (Nat.le_refl _) (.int .i64 ((x + kk * z) % M)))
          clear hsl
          go_wp2
          exact ⟨⟨k + 1, by omega, by go_num, R3.out, B3.out⟩, by simp only [intOf]; omega⟩
        · have hgz : g.getD k 0 = 0 := getD_out (by have := HL.out.2; omega)
          have HE := Lib.hid (tabF_step (F := sumF M f g kk) (y := f.getD k 0) hlt (by rw [sumF, hgz, Int.mul_zero, Int.add_zero]; exact Int.emod_eq_of_lt (BF.out k).1 (BF.out k).2))
          rw [HE.out] at R1
          generalize f.getD k 0 = x at *
          clear HE hgz
          go_wp2
          exact ⟨⟨k + 1, by omega, by go_num, R1.out, B1.out⟩, by simp only [intOf]; omega⟩
      · have hg : k < n' := by have := HNm.out; omega
        have hfz : f.getD k 0 = 0 := getD_out (by have := HL.out.1; omega)
        obtain ⟨rfl, hag'⟩ := HF'.out (by omega)
        have b2 := HC'.out k hg
        rw [← HB.out.cell (p := ⟨a', k, none⟩) hag'] at b2
        have BGk := BG.out k
        have R1 := HW
        have B1 := HB
        obtain ⟨z, hzz⟩ : ∃ x, g.getD k 0 = x := ⟨_, rfl⟩
        have HE := Lib.hid (tabF_step (F := sumF M f g kk) (y := (kk * z) % M) hlt (by rw [sumF, hfz, hzz, Int.zero_add]))
        rw [hzz] at b2 BGk
        clear hzz hfz
        go_upto_region 8 with fail
        have hsl : (tabL N fun i => if i < k then sumF M f g kk i else 0).length = N := tabL_length _ _
        have c4 := c3
        have f4 := int_frozen R1.out hsl k
        have w1 : IntKind.i64.wrap (kk * z) = kk * z := IntWalk.i64_in _ (by omega)
        clear c3
        refine wp_region_still_tail 16 (by kernel_rfl) (by kernel_rfl) ?_
        simp only [List.take_succ_cons, List.take_zero, List.drop_succ_cons, List.drop_zero]
        iterate 14 still_step
        still_call ((mod8_any (kk * z) M _ m2 m9).mono fun e w h => ⟨h.1, h.2.symm⟩)
        repeat still_step
        refine wpStill_nil ?_
        change wpList _ _ _ _ _ wr.drew
        have R2 : Hid (IntRow w.heap.size wr.drew _ _) := Lib.hid R1.out
        have B2 := Lib.hid (below_drewN B1.out 1)
        replace c4 : wr.drew.cell? ⟨w.heap.size, k, none⟩ = _ := c4
        replace f4 : wr.drew.frozen? ⟨w.heap.size, k, none⟩ = _ := f4
        change Hid (Below w.heap.size w wr.drew) at B2
        clear R1 B1 b2
        generalize wr.drew = W2 at R2 B2 c4 f4 ⊢
        have R3 := Lib.hid (int_stored R2.out hsl k ((kk * z) % M))
        rw [HE.out] at R3
        have B3 := Lib.hid (B2.out.setCell (p := ⟨w.heap.size, k, none⟩) (Nat.le_refl _) (.int .i64 ((kk * z) % M)))
        clear hsl
        go_wp2
        exact ⟨⟨k + 1, by omega, by go_num, R3.out, B3.out⟩, by simp only [intOf]; omega⟩
    · have hkN : (tabL N fun i => if i < k then sumF M f g kk i else 0) = tabL N (sumF M f g kk) := tabL_ext fun i hi => if_pos (by omega)
      have HT := Lib.hid (show trimL (tabL N (sumF M f g kk)) = redL M (addL f g kk) by
        have e := sumF_end M f g kk
        rw [← HL.out.1, ← HL.out.2, HNm.out] at e; exact e)
      have hr := HW.out
      rw [hkN] at hr
      obtain ⟨o2, c2, e2, HS2⟩ := seen_row hr (by rw [tabL_length]; omega)
      have HB2 := HB.out
      have hle : (tabL N (sumF M f g kk)).length = N := tabL_length _ _
      rw [hle] at e2 HS2
      injection e2 with e3 _ e4
      subst e3 e4
      clear hkN hr hle
      go_wp2_with (go_at_call 137; refine (specTrim_any HS2).mono ?_; rintro e w3 ⟨v, rfl, hr3, hb3⟩)
      go_ret
      rw [HT.out] at hr3
      exact ⟨_, rfl, intRow_lower hr3 HB2.size, HB2.trans (hb3.mono HB2.size)⟩
set_option maxHeartbeats 2000000 in
theorem l12Mul_any (M : Int) (m2 : 2 ≤ M) (m9 : M ≤ 1000000000) {o o' : Option Addr} {n n' c c' : Nat} {f g : List Int} {w : World} (h : Seen w o n c f) (h' : Seen w o' n' c' g) (hf : Res9 f) (hg : Res9 g) (h9 : n ≤ 9) (h9' : n' ≤ 9) :
    Calls Try.prog 94 #[.slice o n c, .slice o' n' c', .int .i64 M] w (OwnPost (prodL M f g) w) := by
  obtain ⟨hl, hn, hno, hnc, a, h1, h2⟩ := h
  obtain ⟨hl', hn', hno', hnc', a', h1', h2'⟩ := h'
  obtain ⟨i0, hi, hz0, hz1, hz2⟩ := info_parts Try.infoInt64
  have HI := Lib.hid hi
  have HZ0 := Lib.hid hz0
  have HZ1 := Lib.hid hz1
  have HZ2 := Lib.hid hz2
  have HF := Lib.hid h1
  have HC := Lib.hid h2
  have HF' := Lib.hid h1'
  have HC' := Lib.hid h2'
  have HL := Lib.hid (And.intro hl hl')
  have BF := Lib.hid hf
  have BG := Lib.hid hg
  clear hi hz0 hz1 hz2 h1 h2 hl hno hnc h1' h2' hl' hno' hnc' hf hg hn hn'
  by_cases h0 : n = 0
  · have e : prodL M f g = [] := by
      have : mulL f g = [] := if_pos (.inl (by rw [← HL.out.1]; exact h0))
      rw [prodL, this]; rfl
    rw [e]
    subst h0
    have HR := Lib.hid (intRow_made w)
    go_enter Try.func94, Try.ntmps94
    go_wp2
    go_ret
    exact ⟨_, rfl, HR.out, (Below.refl _ _).alloc (Nat.le_refl _) _⟩
  · by_cases h0' : n' = 0
    · have e : prodL M f g = [] := by
        have : mulL f g = [] := if_pos (.inr (by rw [← HL.out.2]; exact h0'))
        rw [prodL, this]; rfl
      rw [e]
      subst h0'
      have hz : ((n : Int) == 0) = false := by simp; omega
      have HR := Lib.hid (intRow_made w)
      go_enter Try.func94, Try.ntmps94
      go_wp2
      go_ret
      exact ⟨_, rfl, HR.out, (Below.refl _ _).alloc (Nat.le_refl _) _⟩
    · obtain ⟨rfl, hag⟩ := HF.out (by omega)
      obtain ⟨rfl, hag'⟩ := HF'.out (by omega)
      have hz : ((n : Int) == 0) = false := by simp; omega
      have hz' : ((n' : Int) == 0) = false := by simp; omega
      obtain ⟨N, hN⟩ : ∃ N, n + n' - 1 = N := ⟨_, rfl⟩
      have hN1 : (n : Int) + (n' : Int) - 1 = (N : Int) := by omega
      have HN := Lib.hid hN
      have hN17 : N ≤ 17 := by omega
      clear hN
      go_enter Try.func94, Try.ntmps94
      go_wp2_with (at_make; refine wpList_make_full _ rfl (.tmp 24) (.tmp 24) 26 rfl w.heap.size 2 i0 (.int .i64 0) 1 Try.underlying26 HI.out HZ0.out HZ1.out .i64 .i64 _ _ N rfl rfl rfl rfl (by rw [HZ2.out]; omega) (by unfold maxLen; omega) (Nat.le_refl _) ?_)
      intro w2 hown hgrow
      have HR := Lib.hid (int_made (by rw [Nat.mul_one]; exact hown))
      have HB2 := Lib.hid ((Below.refl w.heap.size w).grown hgrow (Nat.le_refl _) (fun k h => by cases h))
      clear hown hgrow hN1
      go_wp2
      go_loopw [8] (fun s wr => ∃ i : Nat, i ≤ n ∧ s = .int .i64 i ∧ IntRow w.heap.size wr (.slice (some ⟨w.heap.size, 0, none⟩) N N) (mulY M f g N i 0) ∧ Below w.heap.size w wr) (fun s _ => n - (intOf s).toNat)
      case atStart => exact ⟨0, Nat.zero_le _, rfl, by rw [mulY_start]; exact HR.out, HB2.out⟩
      case round =>
        obtain ⟨i, hi, rfl, hrow, hb⟩ := hrel
        have HW := Lib.hid hrow
        have HB := Lib.hid hb
        clear hrow hb HR HB2
        by_cases hlt : i < n
        · go_wp2
          go_loopw [9] (fun s wr => ∃ k : Nat, k ≤ n' ∧ s = .int .i64 k ∧ IntRow w.heap.size wr (.slice (some ⟨w.heap.size, 0, none⟩) N N) (mulY M f g N i k) ∧ Below w.heap.size w wr) (fun s _ => n' - (intOf s).toNat)
          case atStart => exact ⟨0, Nat.zero_le _, rfl, HW.out, HB.out⟩
          case round =>
            obtain ⟨k, hk, rfl, hrow, hb⟩ := hrel
            have HW2 := Lib.hid hrow
            have HB2 := Lib.hid hb
            clear hrow hb HW HB
            by_cases hltk : k < n'
            · obtain ⟨m, hm⟩ : ∃ m, i + k = m := ⟨_, rfl⟩
              have hmN : m < N := by have := HN.out; omega
              have hik : (i : Int) + (k : Int) = (m : Int) := by omega
              have hwm : IntKind.i64.wrap (m : Int) = (m : Int) := IntWalk.i64_in _ (by omega)
              have a2 := HC.out i hlt
              rw [← HB2.out.cell (p := ⟨a, i, none⟩) hag] at a2
              have b2 := HC'.out k hltk
              rw [← HB2.out.cell (p := ⟨a', k, none⟩) hag'] at b2
              have hsl := mulY_length M f g N i k
              have c4 := int_at HW2.out hsl hmN
              rw [mulY_at hmN] at c4
              have f4 := int_frozen HW2.out hsl m
              have HE := Lib.hid (mulY_step (p := M) (f := f) (g := g) hmN hm)
              have hs0 : 0 ≤ mulW f g i k m % M ∧ mulW f g i k m % M < M := ⟨Int.emod_nonneg _ (by omega), Int.emod_lt_of_pos _ (by omega)⟩
              have hpb := prod_nine (BF.out i).1 (BF.out i).2 (BG.out k).1 (BG.out k).2
              obtain ⟨x, hx⟩ : ∃ x, f.getD i 0 = x := ⟨_, rfl⟩
              obtain ⟨z, hzz⟩ : ∃ z, g.getD k 0 = z := ⟨_, rfl⟩
              obtain ⟨s, hs⟩ : ∃ s, mulW f g i k m % M = s := ⟨_, rfl⟩
              rw [hx, hzz, hs] at HE
              rw [hx, hzz] at hpb
              rw [hx] at a2
              rw [hzz] at b2
              rw [hs] at c4 hs0
              have w1 : IntKind.i64.wrap (x * z) = x * z := IntWalk.i64_in _ (by omega)
              have w2 : IntKind.i64.wrap (s + x * z) = s + x * z := IntWalk.i64_in _ (by omega)
              have hnn : 0 ≤ s + x * z := by omega
              obtain ⟨E, hEE⟩ : ∃ E, (s + x * z) % M = E := ⟨_, rfl⟩
              have ht : (s + x * z).tmod M = E := by rw [tmod_nonneg hnn, hEE]
              have hE0 : 0 ≤ E ∧ E < M := by rw [← hEE]; exact ⟨Int.emod_nonneg _ (by omega), Int.emod_lt_of_pos _ (by omega)⟩
              have w3 : IntKind.i64.wrap E = E := IntWalk.i64_in _ (by omega)
              have hMz : ¬ M = 0 := by omega
              have hMz2 : (M == 0) = false := by simp; omega
              rw [hEE] at HE
              have HM := Lib.hid hm
              clear hx hzz hs hpb hs0 hnn hEE hE0 hm
              go_upto_region 10 with fail
              refine wp_region_still_tail 23 (by kernel_rfl) (by kernel_rfl) ?_
              simp only [List.take_succ_cons, List.take_zero, List.drop_succ_cons, List.drop_zero]
              repeat still_step
              refine wpStill_nil ?_
              change wpList _ _ _ _ _ wr.drew
              have R2 : Hid (IntRow w.heap.size wr.drew (.slice (some ⟨w.heap.size, 0, none⟩) N N) (mulY M f g N i k)) := Lib.hid HW2.out
              have B2 := Lib.hid (below_drewN HB2.out 1)
              replace c4 : wr.drew.cell? ⟨w.heap.size, m, none⟩ = _ := c4
              replace f4 : wr.drew.frozen? ⟨w.heap.size, m, none⟩ = _ := f4
              change Hid (Below w.heap.size w wr.drew) at B2
              clear HW2 HB2 a2 b2
              generalize wr.drew = W2 at R2 B2 c4 f4 ⊢
              have R3 := Lib.hid (int_stored R2.out hsl m E)
              rw [HE.out] at R3
              have B3 := Lib.hid (B2.out.setCell (p := ⟨w.heap.size, m, none⟩) (Nat.le_refl _) (.int .i64 E))
              clear hsl
              go_wp2
              exact ⟨⟨k + 1, by omega, by go_num, R3.out, B3.out⟩, by simp only [intOf]; omega⟩
            · have R1 := Lib.hid (show IntRow w.heap.size wr (.slice (some ⟨w.heap.size, 0, none⟩) N N) (mulY M f g N (i + 1) 0) by rw [← mulY_row (k := k) (by have := HL.out.2; omega)]; exact HW2.out)
              go_wp2
              exact ⟨⟨i + 1, by omega, by go_num, R1.out, HB2.out⟩, by simp only [intOf]; omega⟩
        · have hif : i = f.length := by have := HL.out.1; omega
          have HT := Lib.hid (show trimL (mulY M f g N i 0) = prodL M f g by
            unfold prodL redL mulY
            rw [show (mulL f g).length = N by
              have := HL.out.1; have := HL.out.2; have := HN.out
              rw [mulL, if_neg (by omega), tabL_length]; omega]
            congr 1
            exact tabL_ext fun j _ => by rw [mulL_getD, mulW_zero, hif])
          have hr := HW.out
          have hle := mulY_length M f g N i 0
          obtain ⟨o2, c2, e2, HS2⟩ := seen_row hr (by rw [hle]; omega)
          have HB2 := HB.out
          rw [hle] at e2 HS2
          injection e2 with e3 _ e4
          subst e3 e4
          generalize mulY M f g N i 0 = rl at *
          clear hr hle hif
          go_wp2_with (go_at_call 137; refine (specTrim_any HS2).mono ?_; rintro e w3 ⟨v, rfl, hr3, hb3⟩)
          go_ret
          rw [HT.out] at hr3
          exact ⟨_, rfl, intRow_lower hr3 HB2.size, HB2.trans (hb3.mono HB2.size)⟩
set_option maxHeartbeats 8000000 in
theorem l12Div_any (M : Int) (m2 : 2 ≤ M) (m9 : M ≤ 1000000000) {o o' : Option Addr} {n n' c c' : Nat} {f g : List Int} {w : World} (h : Seen w o n c f) (h' : Seen w o' n' c' g) (hf : ModP M f) (hg : ModP M g) (hmon : mncB g = true) (hn20 : n ≤ 20) (hn9' : n' ≤ 20) :
    Calls Try.prog 90 #[.slice o n c, .slice o' n' c', .int .i64 M] w (Own2Post (quoP M f g) (remP M f g) w) := by
  have h0 : g.length ≠ 0 := by have := (mncB_of hmon).1; omega
  have HS := Lib.hid h
  obtain ⟨hl', hn', hno', hnc', a', h1', h2'⟩ := h'
  obtain ⟨rfl, hag'⟩ := h1' (by omega)
  have b1 := h2' (n' - 1) (by omega)
  have hn1 : (n' : Int) - 1 = ((n' - 1 : Nat) : Int) := by omega
  have HC' := Lib.hid h2'
  have HL' := Lib.hid hl'
  have HL := Lib.hid h.1
  obtain ⟨i0, hi, hz0, hz1, hz2⟩ := info_parts Try.infoInt64
  have HI := Lib.hid hi
  have HZ0 := Lib.hid hz0
  have HZ1 := Lib.hid hz1
  have HZ2 := Lib.hid hz2
  have HF := Lib.hid hf
  have HG := Lib.hid hg
  have hpz : (M == 0) = false := by simp; omega
  have hle1 : 1 ≤ n' := by omega
  have hn1' : n' - 1 < n' := by omega
  have HIV1 := Lib.hid (invP_one m2 m9 hmon)
  obtain ⟨iv, hiv⟩ : ∃ x, invP M g = x := ⟨_, rfl⟩
  rw [hiv] at HIV1
  have HIV := Lib.hid hiv
  clear h h1' h2' hl' hn' hno' hnc' hi hz0 hz1 hz2 hf hg h0 hiv b1
  go_enter Try.func90, Try.ntmps90
  go_wp2_with fail
  refine (specOwn_any HS.out).mono ?_
  rintro e W1 ⟨v, rfl, hr1, hb1⟩
  have HR1 := Lib.hid hr1
  have HB1 := Lib.hid hb1
  have hbs := hb1.size
  by_cases hle : n' ≤ n
  · obtain ⟨q, hqq⟩ : ∃ q, n + 1 - n' = q := ⟨_, rfl⟩
    have hsum : (n : Int) - (n' : Int) + 1 = (q : Int) := by omega
    have hq0 : max (0 : Int) (q : Int) = (q : Int) := by omega
    have hq9 : q ≤ 20 := by omega
    have hqn : q + g.length = f.length + 1 := by have := HL.out; have := HL'.out; omega
    have HQN := Lib.hid hqn
    have hr1' : W1.ownsRow w.heap.size 2 1 v n (f.map (Value.int .i64)) := by rw [HL.out]; exact hr1
    rcases row_shape hr1' with ⟨hz, _⟩ | ⟨_, G, cap, rfl, hbg, hgw⟩
    · omega
    clear hr1 hr1' hb1 hqn hqq
    have hm0 : max (0 : Int) ((n : Int) - (n' : Int) + 1) = (q : Int) := by omega
    go_upto_region 2 with fail
    go_wp2_with (at_make; refine wpList_make_full _ rfl (.tmp 21) (.tmp 21) 26 rfl W1.heap.size 2 i0 (.int .i64 0) 1 Try.underlying26 HI.out HZ0.out HZ1.out .i64 .i64 _ _ q rfl rfl rfl rfl (by rw [HZ2.out]; omega) (by unfold maxLen; omega) (Nat.le_refl _) ?_; intro w2 hown hgrow)
    have HB2 := Lib.hid (HB1.out.grown hgrow hbs (fun k h => by cases h))
    have HR2 := Lib.hid (show IntRow w.heap.size w2 (.slice (some ⟨G, 0, none⟩) n cap) f from World.ownsRow.kept HR1.out hgrow (.inr (by intro e; cases e)))
    have HQ2 := Lib.hid (int_made hown)
    have hGQ : G ≠ W1.heap.size := by omega
    generalize W1.heap.size = Q at *
    clear hown hgrow HR1 HB1 hm0 hsum hq0
    go_wp2_with fail
    go_loopw [10] (fun s wr => ∃ (k : Nat) (y : Int), k + n' ≤ n + 1 ∧ s = .int .i64 y ∧ y = (n : Int) - (n' : Int) - (k : Int) ∧ IntRow w.heap.size wr (.slice (some ⟨G, 0, none⟩) n cap) (tabL n (mdS M iv g (fun j => f.getD j 0) n k)) ∧ IntRow Q wr (.slice (some ⟨Q, 0, none⟩) q q) (qX M iv f g q k) ∧ Below w.heap.size w wr) (fun s _ => (intOf s + 1).toNat)
    case atStart =>
      refine ⟨0, (q : Int) - 1, by omega, by first | rfl | go_num, by have := HQN.out; have := HL.out; have := HL'.out; omega, ?_, ?_, HB2.out⟩
      · have : f = tabL n (mdS M iv g (fun j => f.getD j 0) n 0) := by
          refine ext_getD (by rw [tabL_length]; exact HL.out.symm) fun i hi => ?_
          rw [tabL_getD (by have := HL.out; omega)]; rfl
        rw [← this]; exact HR2.out
      · rw [qX_zero HQN.out]; exact HQ2.out
    case round =>
      obtain ⟨k, y, hk, rfl, hy, hr, hqr, hb⟩ := hrel
      have HR := Lib.hid hr
      have HQ := Lib.hid hqr
      have HB := Lib.hid hb
      have HY := Lib.hid hy
      clear hr hqr hb HR2 HQ2 HB2
      by_cases hlt : 0 ≤ y
      · obtain ⟨i, hi⟩ : ∃ i : Nat, y = i := ⟨y.toNat, by omega⟩
        subst hi
        have hik : i + g.length + k = f.length := by have := HL.out; have := HL'.out; omega
        have HIK := Lib.hid hik
        obtain ⟨s, hs⟩ : ∃ s, i + n' = s := ⟨_, rfl⟩
        have his : (i : Int) + (n' : Int) = (s : Int) := by omega
        have hs0 : s ≤ 20 := by omega
        obtain ⟨m, hm2⟩ : ∃ m, m + 1 = s := ⟨s - 1, by omega⟩
        have hsm : (s : Int) - 1 = (m : Int) := by omega
        have hmn : m < n := by omega
        have hiq : i < q := by have := HQN.out; have := HL.out; have := HL'.out; omega
        have ws : IntKind.i64.wrap (s : Int) = (s : Int) := IntWalk.i64_in _ (by omega)
        have wm : IntKind.i64.wrap (m : Int) = (m : Int) := IntWalk.i64_in _ (by omega)
        have c1 := int_at HR.out (tabL_length _ _) hmn
        rw [tabL_getD hmn] at c1
        have hce : mdC M iv g (fun j => f.getD j 0) n k = mdS M iv g (fun j => f.getD j 0) n k m * iv % M := by unfold mdC; rw [show n - 1 - k = m by have := HIK.out; have := HL.out; have := HL'.out; omega]
        have HCE := Lib.hid (show mdC M iv g (fun j => f.getD j 0) f.length k = mdC M iv g (fun j => f.getD j 0) n k by rw [← HL.out])
        have HSUB := Lib.hid (subX_end (p := M) (inv := iv) (g := g) (r0 := fun j => f.getD j 0) (show i + g.length + k = n by rw [HL.out]; exact hik))
        have HQS := Lib.hid (qX_step (p := M) (inv := iv) (f := f) (g := g) HQN.out hik)
        rw [HCE.out] at HQS
        obtain ⟨y0, y1⟩ := mdS_lt (inv := iv) (g := g) (N := n) HF.out k m
        have HBD := Lib.hid (fun j => mdS_lt (inv := iv) (g := g) (N := n) HF.out k j)
        obtain ⟨z, hz⟩ : ∃ z, mdS M iv g (fun j => f.getD j 0) n k m = z := ⟨_, rfl⟩
        rw [hz] at c1 hce y0 y1
        obtain ⟨x, hx⟩ : ∃ x, mdC M iv g (fun j => f.getD j 0) n k = x := ⟨_, rfl⟩
        rw [hx] at hce HSUB HQS
        have hxz : z = x := by rw [hce, HIV1.out, Int.mul_one]; exact (Int.emod_eq_of_lt y0 y1).symm
        rw [hxz] at c1 y0 y1
        have hx0 : 0 ≤ x ∧ x < M := ⟨y0, y1⟩
        have HX0 := Lib.hid hx0
        have f2 := int_frozen HQ.out (qX_length M iv f g q k) i
        have c2 := int_at HQ.out (qX_length M iv f g q k) hiq
        obtain ⟨y2, hy2⟩ : ∃ y2, (qX M iv f g q k).getD i 0 = y2 := ⟨_, rfl⟩
        rw [hy2] at c2
        have HQ1 := Lib.hid (int_stored HQ.out (qX_length M iv f g q k) i x)
        rw [HQS.out] at HQ1
        have HR1 := Lib.hid (row_other8 HR.out (a := ⟨Q, i, none⟩) (own_ne8 hGQ) (.int .i64 x))
        have HB1 := Lib.hid (HB.out.setCell (p := ⟨Q, i, none⟩) hbs (.int .i64 x))
        have hiq' : (i : Int) < (q : Int) := by omega
        have hmn' : (m : Int) < (n : Int) := by omega
        clear HQ hy2 HQS hce hx hz hs hm2 hik HCE hy hx0 y0 y1 hxz
        go_upto_region 8 with fail
        generalize wr.setCell ⟨Q, i, none⟩ (.int .i64 x) = W3 at *
        clear c1 c2 f2 HR HB
        go_wp2_with fail
        go_loopw [12] (fun s wr => ∃ j : Nat, j ≤ n' ∧ s = .int .i64 j ∧ IntRow w.heap.size wr (.slice (some ⟨G, 0, none⟩) n cap) (subX M (mdS M iv g (fun j => f.getD j 0) n k) g x n i j) ∧ IntRow Q wr (.slice (some ⟨Q, 0, none⟩) q q) (qX M iv f g q (k + 1)) ∧ Below w.heap.size w wr) (fun s _ => n' - (intOf s).toNat)
        case atStart => exact ⟨0, Nat.zero_le _, rfl, by rw [subX_zero]; exact HR1.out, HQ1.out, HB1.out⟩
        case round =>
          obtain ⟨j, hj, rfl, hr, hqr, hb⟩ := hrel
          have HR := Lib.hid hr
          have HQ := Lib.hid hqr
          have HB := Lib.hid hb
          clear hr hqr hb HR1 HQ1 HB1
          by_cases hltj : j < n'
          · obtain ⟨t, ht⟩ : ∃ t, i + j = t := ⟨_, rfl⟩
            have hijt : (i : Int) + (j : Int) = (t : Int) := by omega
            have htn : t < n := by have := HIK.out; have := HL.out; have := HL'.out; omega
            have wt : IntKind.i64.wrap (t : Int) = (t : Int) := IntWalk.i64_in _ (by omega)
            have b2 := HC'.out j hltj
            rw [← HB.out.cell (p := ⟨a', j, none⟩) hag'] at b2
            have c4 := int_at HR.out (subX_length _ _ _ _ _ _ _) htn
            rw [subX_at ht htn] at c4
            have f4 := int_frozen HR.out (subX_length _ _ _ _ _ _ _) t
            have HE := Lib.hid (subX_step (p := M) (r := mdS M iv g (fun j => f.getD j 0) n k) (g := g) (c := x) ht htn)
            have hbd := HBD.out t
            have hmd := prod_lt2 m9 HX0.out (HG.out.rng j)
            obtain ⟨z, hzz⟩ : ∃ x, g.getD j 0 = x := ⟨_, rfl⟩
            obtain ⟨r, hrr⟩ : ∃ x, mdS M iv g (fun j => f.getD j 0) n k t = x := ⟨_, rfl⟩
            rw [hzz] at b2 HE hmd
            rw [hrr] at c4 HE hbd
            have w1 : IntKind.i64.wrap (x * z) = x * z := IntWalk.i64_in _ (by omega)
            have w2 : IntKind.i64.wrap (r - x * z) = r - x * z := IntWalk.i64_in _ (by omega)
            have htn' : (t : Int) < (n : Int) := by omega
            have hltj' : (j : Int) < (n' : Int) := by omega
            clear hzz hrr ht hbd hmd
            go_upto_region 11 with fail
            refine wp_region_still_tail 20 (by kernel_rfl) (by kernel_rfl) ?_
            simp only [List.take_succ_cons, List.take_zero, List.drop_succ_cons, List.drop_zero]
            iterate 18 still_step
            still_call ((mod8_any (r - x * z) M _ m2 m9).mono fun e w h => ⟨h.1, h.2.symm⟩)
            repeat still_step
            refine wpStill_nil ?_
            change wpList _ _ _ _ _ wr.drew
            have HR1 := Lib.hid (World.ownsRow.drew HR.out)
            have HQ1 := Lib.hid (World.ownsRow.drew HQ.out)
            have HB1 := Lib.hid (below_drewN HB.out 1)
            replace f4 : wr.drew.frozen? ⟨G, t, none⟩ = false := f4
            replace c4 : wr.drew.cell? ⟨G, t, none⟩ = _ := c4
            replace HR1 : Hid (IntRow w.heap.size wr.drew (.slice (some ⟨G, 0, none⟩) n cap) (subX M (mdS M iv g (fun j => f.getD j 0) n k) g x n i j)) := HR1
            replace HQ1 : Hid (IntRow Q wr.drew (.slice (some ⟨Q, 0, none⟩) q q) (qX M iv f g q (k + 1))) := HQ1
            replace HB1 : Hid (Below w.heap.size w wr.drew) := HB1
            clear HR HQ HB b2
            generalize wr.drew = W4 at *
            have HR3 := Lib.hid (int_stored HR1.out (subX_length _ _ _ _ _ _ _) t ((r - x * z) % M))
            rw [HE.out] at HR3
            have HQ3 := Lib.hid (row_other8 HQ1.out (a := ⟨G, t, none⟩) (own_ne8 (Ne.symm hGQ)) (.int .i64 ((r - x * z) % M)))
            have HB3 := Lib.hid (HB1.out.setCell (p := ⟨G, t, none⟩) hbg (.int .i64 ((r - x * z) % M)))
            clear HR1 HQ1 HB1
            go_wp2_with fail
            exact ⟨⟨j + 1, by omega, by go_num, HR3.out, HQ3.out, HB3.out⟩, by simp only [intOf]; omega⟩
          · have hjn : j = g.length := by have := HL'.out; omega
            have HR2 := Lib.hid (show IntRow w.heap.size wr (.slice (some ⟨G, 0, none⟩) n cap) (tabL n (mdS M iv g (fun j => f.getD j 0) n (k + 1))) by rw [← HSUB.out, ← hjn]; exact HR.out)
            clear HR
            go_wp2_with fail
            exact ⟨⟨k + 1, (i : Int) - 1, by have := HIK.out; have := HL.out; have := HL'.out; omega, by go_num, by have := HY.out; omega, HR2.out, HQ.out, HB.out⟩, by simp only [intOf]; omega⟩
      · have hkq : k = q := by have := HQN.out; have := HL.out; have := HL'.out; omega
        subst hkq
        have t1 : trimL (qX M iv f g k k) = quoP M f g := by rw [← HIV.out]; exact qX_end HQN.out
        have t2 : trimL (tabL n (mdS M iv g (fun j => f.getD j 0) n k)) = remP M f g := by rw [← HIV.out]; exact rX_end HL.out (by have := HQN.out; omega)
        have T1 := Lib.hid t1
        have T2 := Lib.hid t2
        have lq : (qX M iv f g k k).length = k := qX_length _ _ _ _ _ _
        have lr : (tabL n (mdS M iv g (fun j => f.getD j 0) n k)).length = n := tabL_length _ _
        have SQ := Lib.hid (show Seen wr (some ⟨Q, 0, none⟩) k k (qX M iv f g k k) by
          have h := row_seen (o := some ⟨Q, 0, none⟩) (n := (qX M iv f g k k).length) (c := k) (by rw [lq]; exact HQ.out) (by rw [lq]; omega)
          rw [lq] at h; exact h)
        have hbs2 := HB.out.size
        generalize qX M iv f g k k = ql at *
        generalize tabL n (mdS M iv g (fun j => f.getD j 0) n k) = rl at *
        clear t1 t2 HQ hy
        go_wp2_with fail
        refine (specTrim_any SQ.out).mono ?_
        rw [T1.out]
        rintro e W5 ⟨v5, rfl, hr5, hb5⟩
        have HR5 := Lib.hid (row_below HR.out hb5 (Nat.le_refl _))
        have HB5 := Lib.hid (HB.out.trans (hb5.mono HB.out.size))
        have HQ5 := Lib.hid hr5
        have SR := Lib.hid (show Seen W5 (some ⟨G, 0, none⟩) n cap rl by
          have h := row_seen (o := some ⟨G, 0, none⟩) (n := rl.length) (c := cap) (w := W5) (l := rl) (by rw [lr]; exact HR5.out) (by rw [lr]; omega)
          rw [lr] at h; exact h)
        have hbs5 := HB5.out.size
        clear hr5 hb5
        go_wp2_with fail
        refine (specTrim_any SR.out).mono ?_
        rw [T2.out]
        rintro e W6 ⟨v6, rfl, hr6, hb6⟩
        have HQ6 := Lib.hid (row_below HQ5.out hb6 (Nat.le_refl _))
        have HR6 := Lib.hid hr6
        have HAP := Lib.hid (apart8 HQ5.out HR6.out)
        have HB6 := Lib.hid (HB5.out.trans (hb6.mono HB5.out.size))
        have HQ7 := Lib.hid (intRow_lower HQ6.out hbs2)
        have HR7 := Lib.hid (intRow_lower HR6.out hbs5)
        clear hr6 hb6 HQ5 HQ6 HR5 HR6
        go_wp2_with fail
        go_ret2
        exact ⟨v5, v6, rfl, HQ7.out, HR7.out, HB6.out, HAP.out⟩
  · have hsum : (n : Int) - (n' : Int) + 1 ≤ 0 := by omega
    have hm0 : max (0 : Int) ((n : Int) - (n' : Int) + 1) = ((0 : Nat) : Int) := by omega
    have hgf : f.length < g.length := by have := HL.out; have := HL'.out; omega
    have T1 := Lib.hid (few_quo (p := M) hgf)
    have T2 := Lib.hid (few_rem (p := M) hgf)
    obtain ⟨o1, c1, rfl⟩ := row_slice hr1
    clear hgf hr1 hb1
    go_upto_region 2 with fail
    go_wp2_with (at_make; refine wpList_make_full _ rfl (.tmp 21) (.tmp 21) 26 rfl W1.heap.size 2 i0 (.int .i64 0) 1 Try.underlying26 HI.out HZ0.out HZ1.out .i64 .i64 _ _ 0 rfl rfl rfl rfl (by rw [HZ2.out]; omega) (by unfold maxLen; omega) (Nat.le_refl _) ?_; intro w2 hown hgrow)
    have HB2 := Lib.hid (HB1.out.grown hgrow hbs (fun k h => by cases h))
    have HR2 := Lib.hid (show IntRow w.heap.size w2 (.slice o1 f.length c1) f from World.ownsRow.kept HR1.out hgrow (by cases hv : (Value.slice o1 f.length c1).ownBlock with | none => exact .inl rfl | some k => exact .inr (by simp)))
    have HQ2 := Lib.hid (show Seen w2 (some ⟨W1.heap.size, 0, none⟩) 0 0 [] from row_seen (w := w2) (l := []) (int_made hown) (by simp))
    have SR2 := Lib.hid (row_seen HR2.out (by have := HL.out; omega))
    generalize W1.heap.size = Q at *
    have hbs2 := HB2.out.size
    clear hown hgrow HR1 HB1 hm0 hsum
    go_wp2_with fail
    refine wp_loop_rounds 1 ?_
    rw [rounds_succ]
    go_wp2_with fail
    refine (specTrim_any HQ2.out).mono ?_
    rintro e W5 ⟨v5, rfl, hr5, hb5⟩
    have HB5 := Lib.hid (HB2.out.trans (hb5.mono HB2.out.size))
    have HQ5 := Lib.hid hr5
    have SR := Lib.hid (seen_below SR2.out hb5)
    have hbs5 := HB5.out.size
    clear hr5 hb5
    go_wp2_with fail
    refine (specTrim_any SR.out).mono ?_
    rw [T2.out]
    rintro e W6 ⟨v6, rfl, hr6, hb6⟩
    have HQ6 := Lib.hid (row_below HQ5.out hb6 (Nat.le_refl _))
    have HR6 := Lib.hid hr6
    have HAP := Lib.hid (apart8 HQ5.out HR6.out)
    have HB6 := Lib.hid (HB5.out.trans (hb6.mono HB5.out.size))
    have HQ7 := Lib.hid (show IntRow w.heap.size W6 v5 (quoP M f g) by rw [T1.out]; exact intRow_lower HQ6.out hbs2)
    have HR7 := Lib.hid (intRow_lower HR6.out hbs5)
    clear hr6 hb6 HQ5 HQ6 HR6
    go_wp2_with fail
    go_ret2
    exact ⟨v5, v6, rfl, HQ7.out, HR7.out, HB6.out, HAP.out⟩
end Go.Proofs.Ytbjkcoajabcibaa
