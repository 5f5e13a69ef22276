/- Contracts of the walk: chapter 6 in spec: sums of lists. -/
import Derived.Test.YtjmecidbnoimnaaPolySpec3
import Derived.StillTailTactics
import Derived.Deep.DeepCutAuto
namespace Go.Proofs.Ytjmecidbnoimnaa
open Go.RowKit
set_option linter.unusedVariables false
set_option linter.unusedSimpArgs false
theorem int_stored {b g n c : Nat} {w : World} {acc : List Int} (h : IntRow b w (.slice (some ⟨g, 0, none⟩) n c) acc) (hn : acc.length = n) (k : Nat) (x : Int) :
    IntRow b (w.setCell ⟨g, k, none⟩ (.int .i64 x)) (.slice (some ⟨g, 0, none⟩) n c) (acc.set k x) := by
  subst hn
  have h2 := (World.ownsRow.stored h k (.int .i64 x)).1
  unfold IntRow
  rw [List.length_set, List.map_set]
  exact h2
theorem int_at {b g n c : Nat} {w : World} {acc : List Int} (h : IntRow b w (.slice (some ⟨g, 0, none⟩) n c) acc) (hn : acc.length = n) {k : Nat} (hk : k < n) : w.cell? ⟨g, k, none⟩ = some (.int .i64 (acc.getD k 0)) := by
  subst hn
  have h2 := World.ownsRow.cellAt h k (by omega)
  rw [h2]; simp [List.getD, hk]
theorem int_frozen {b g n c : Nat} {w : World} {acc : List Int} (h : IntRow b w (.slice (some ⟨g, 0, none⟩) n c) acc) (hn : acc.length = n) (k : Nat) : w.frozen? ⟨g, k, none⟩ = false := by
  subst hn
  exact World.ownsRow.frozenAt h k
theorem tab_set {n k : Nat} {f : Nat → Int} (x : Int) (hk : k < n) : (tabL n f).set k x = tabL n fun i => if i = k then x else f i := by
  refine ext_getD (by rw [List.length_set, tabL_length, tabL_length]) fun i hi => ?_
  rw [List.length_set, tabL_length] at hi
  rw [tabL_getD hi]
  by_cases e : i = k
  · subst e; rw [if_pos rfl]; simp [List.getD, tabL_length, hi]
  · rw [if_neg e, ← tabL_getD (f := f) hi]; simp [List.getD, List.getElem?_set_ne (Ne.symm e)]
theorem tab_zero (n : Nat) : List.replicate n (0 : Int) = tabL n fun _ => 0 := by
  refine ext_getD (by rw [List.length_replicate, tabL_length]) fun i hi => ?_
  rw [List.length_replicate] at hi
  rw [tabL_getD hi]; simp [List.getD, hi]
theorem int_made {w w2 : World} {N : Nat} (h : w2.ownsRow w.heap.size 2 1 (.slice (some ⟨w.heap.size, 0, none⟩) N N) N (madeCells (Value.int .i64 0).cells (N * 1)).toList) :
    IntRow w.heap.size w2 (.slice (some ⟨w.heap.size, 0, none⟩) N N) (tabL N fun _ => 0) := by
  rw [← tab_zero]
  unfold IntRow
  rw [List.length_replicate, List.map_replicate]
  have e : (madeCells (Value.int .i64 0).cells (N * 1)).toList = List.replicate N (Value.int .i64 0) := by
    rw [Nat.mul_one]; exact toList_madeCells_one _ _
  rw [← e]; exact h
theorem add_step {f g : List Int} {kk : Int} {N k : Nat} {y : Int} (hk : k < N) (hy : f.getD k 0 + kk * g.getD k 0 = y) :
    (tabL N fun i => if i < k then f.getD i 0 + kk * g.getD i 0 else 0).set k y = tabL N fun i => if i < k + 1 then f.getD i 0 + kk * g.getD i 0 else 0 := by
  rw [tab_set y hk]
  refine tabL_ext fun i hi => ?_
  by_cases e : i = k
  · subst e; rw [if_pos rfl, if_pos (by omega), hy]
  · rw [if_neg e]
    by_cases h2 : i < k
    · rw [if_pos h2, if_pos (by omega)]
    · rw [if_neg h2, if_neg (by omega)]
set_option maxRecDepth 20000
set_option maxHeartbeats 2000000 in
theorem l06Add_any (kk : Int) {o o' : Option Addr} {n n' c c' : Nat} {f g : List Int} {w : World} (h : Seen w o n c f) (h' : Seen w o' n' c' g)
    (bf : ∀ i, -1000000000000000 ≤ f.getD i 0 ∧ f.getD i 0 ≤ 1000000000000000) (bg : ∀ i, -1000000000000000 ≤ kk * g.getD i 0 ∧ kk * g.getD i 0 ≤ 1000000000000000) :
    Calls Try.prog 145 #[.slice o n c, .slice o' n' c', .int .i64 kk] w (OwnPost (trimL (addL f g kk)) w) := by
  obtain ⟨hl, hn, hno, hnc, a, h1, h2⟩ := h
  obtain ⟨hl', hn', hno', hnc', a', h1', h2'⟩ := h'
  obtain ⟨i0, hi, hz0, hz1, hz2⟩ := info_parts Try.infoInt64
  have HI := Lib.hid hi
  have HZ0 := Lib.hid hz0
  have HZ1 := Lib.hid hz1
  have HZ2 := Lib.hid hz2
  have HF := Lib.hid h1
  have HC := Lib.hid h2
  have HF' := Lib.hid h1'
  have HC' := Lib.hid h2'
  have HL := Lib.hid (And.intro hl hl')
  have BF := Lib.hid bf
  have BG := Lib.hid bg
  obtain ⟨N, hN⟩ : ∃ N, max n n' = N := ⟨_, rfl⟩
  have hNb : N ≤ 1100000 := by omega
  have hmax : max (n : Int) (n' : Int) = (N : Int) := by omega
  have HNm := Lib.hid hN
  clear hi hz0 hz1 hz2 h1 h2 hl hno hnc h1' h2' hl' hno' hnc' bf bg
  go_enter Try.func145, Try.ntmps145
  go_upto_region 1 with fail
  go_cut [7] (fun s7 wx => s7 = .slice (some ⟨w.heap.size, 0, none⟩) N N ∧ IntRow w.heap.size wx (.slice (some ⟨w.heap.size, 0, none⟩) N N) (tabL N fun _ => 0) ∧ Below w.heap.size w wx)
  case first =>
    by_cases hle : n' ≤ n
    · have e : n = N := by omega
      subst e
      go_wp2_with (at_make; refine wpList_make_full _ rfl (.tmp 13) (.tmp 13) 27 rfl w.heap.size 2 i0 (.int .i64 0) 1 Try.underlying27 HI.out HZ0.out HZ1.out .i64 .i64 _ _ n rfl rfl rfl rfl (by rw [HZ2.out]; omega) (by unfold maxLen; omega) (Nat.le_refl _) ?_; intro w2 hown hgrow)
      have HB2 := (Below.refl w.heap.size w).grown hgrow (Nat.le_refl _) (fun k h => by cases h)
      have HR := Lib.hid (int_made hown)
      clear hown hgrow
      go_wp2
      go_meet
      case rel => exact ⟨rfl, HR.out, HB2⟩
    · have e : n' = N := by omega
      subst e
      go_wp2_with (at_make; refine wpList_make_full _ rfl (.tmp 13) (.tmp 13) 27 rfl w.heap.size 2 i0 (.int .i64 0) 1 Try.underlying27 HI.out HZ0.out HZ1.out .i64 .i64 _ _ n' rfl rfl rfl rfl (by rw [HZ2.out]; omega) (by unfold maxLen; omega) (Nat.le_refl _) ?_; intro w2 hown hgrow)
      have HB2 := (Below.refl w.heap.size w).grown hgrow (Nat.le_refl _) (fun k h => by cases h)
      have HR := Lib.hid (int_made hown)
      clear hown hgrow
      go_wp2
      go_meet
      case rel => exact ⟨rfl, HR.out, HB2⟩
  case rest =>
  obtain ⟨rfl, hrow, hb⟩ := hcut
  have HR0 := Lib.hid hrow
  have HB0 := Lib.hid hb
  clear hrow hb hmax hN
  go_wp2
  go_loopw [8] (fun i wr => ∃ k : Nat, k ≤ N ∧ i = .int .i64 k ∧ IntRow w.heap.size wr (.slice (some ⟨w.heap.size, 0, none⟩) N N) (tabL N fun i => if i < k then f.getD i 0 + kk * g.getD i 0 else 0) ∧ Below w.heap.size w wr) (fun i _ => N - (intOf i).toNat)
  case atStart => exact ⟨0, Nat.zero_le _, rfl, by rw [tabL_ext (g := fun _ => 0) (fun i _ => if_neg (Nat.not_lt_zero _))]; exact HR0.out, HB0.out⟩
  case round =>
    obtain ⟨k, hk, rfl, hrow, hb⟩ := hrel
    have HW := Lib.hid hrow
    have HB := Lib.hid hb
    have bs := hb.size
    clear hrow hb
    by_cases hlt : k < N
    · have c3 := int_at HW.out (tabL_length _ _) hlt
      rw [tabL_getD hlt, if_neg (Nat.lt_irrefl _)] at c3
      by_cases hf : k < n
      · obtain ⟨rfl, hag⟩ := HF.out (by omega)
        have a2 := HC.out k hf
        rw [← HB.out.cell (p := ⟨a, k, none⟩) hag] at a2
        have R1 := Lib.hid (int_stored HW.out (tabL_length _ _) k (f.getD k 0))
        have f3 := int_frozen HW.out (tabL_length _ _) k
        have B1 := Lib.hid (HB.out.setCell (p := ⟨w.heap.size, k, none⟩) (Nat.le_refl _) (.int .i64 (f.getD k 0)))
        by_cases hg : k < n'
        · obtain ⟨rfl, hag'⟩ := HF'.out (by omega)
          have b2 := HC'.out k hg
          rw [← B1.out.cell (p := ⟨a', k, none⟩) hag'] at b2
          have BFk := BF.out k
          have BGk := BG.out k
          have HE := Lib.hid (add_step (f := f) (g := g) (kk := kk) hlt rfl)
          obtain ⟨x, hx⟩ : ∃ x, f.getD k 0 = x := ⟨_, rfl⟩
          obtain ⟨z, hzz⟩ : ∃ x, g.getD k 0 = x := ⟨_, rfl⟩
          rw [hx, hzz] at HE
          rw [hx] at a2 R1 B1 b2 BFk
          rw [hzz] at b2 BGk
          clear hx hzz
          go_upto_region 8 with fail
          have hsl : ((tabL N fun i => if i < k then f.getD i 0 + kk * g.getD i 0 else 0).set k x).length = N := by rw [List.length_set, tabL_length]
          have hsg : ((tabL N fun i => if i < k then f.getD i 0 + kk * g.getD i 0 else 0).set k x).getD k 0 = x := by rw [tab_set x hlt, tabL_getD hlt, if_pos rfl]
          generalize wr.setCell ⟨w.heap.size, k, none⟩ (.int .i64 x) = W1 at R1 B1 b2 ⊢
          have c4 := int_at R1.out hsl hlt
          rw [hsg] at c4
          have f4 := int_frozen R1.out hsl k
          have w1 : IntKind.i64.wrap (kk * z) = kk * z := IntWalk.i64_in _ (by omega)
          have w2 : IntKind.i64.wrap (x + kk * z) = x + kk * z := IntWalk.i64_in _ (by omega)
          clear c3 f3 a2 hsg
          refine wp_region_still_tail 14 (by kernel_rfl) (by kernel_rfl) ?_
          simp only [List.take_succ_cons, List.take_zero, List.drop_succ_cons, List.drop_zero]
          repeat still_step
          refine wpStill_nil ?_
          change wpList _ _ _ _ _ W1.drew
          have R2 : Hid (IntRow w.heap.size W1.drew _ _) := Lib.hid R1.out
          have B2 := Lib.hid (below_drewN B1.out 1)
          replace c4 : W1.drew.cell? ⟨w.heap.size, k, none⟩ = _ := c4
          replace f4 : W1.drew.frozen? ⟨w.heap.size, k, none⟩ = _ := f4
          change Hid (Below w.heap.size w W1.drew) at B2
          clear R1 B1 b2
          generalize W1.drew = W2 at R2 B2 c4 f4 ⊢
          have R3 := Lib.hid (int_stored R2.out hsl k (x + kk * z))
          rw [List.set_set, HE.out] at R3
          have B3 := Lib.hid (B2.out.setCell (p := ⟨w.heap.size, k, none⟩) (Nat.le_refl _) (.int .i64 (x + kk * z)))
          clear hsl
          go_wp2
          exact ⟨⟨k + 1, by omega, by go_num, R3.out, B3.out⟩, by simp only [intOf]; omega⟩
        · have hgz : g.getD k 0 = 0 := getD_out (by have := HL.out.2; omega)
          have HE := Lib.hid (add_step (f := f) (g := g) (kk := kk) hlt rfl)
          rw [hgz, Int.mul_zero, Int.add_zero] at HE
          rw [HE.out] at R1
          generalize f.getD k 0 = x at *
          clear HE hgz
          go_wp2
          exact ⟨⟨k + 1, by omega, by go_num, R1.out, B1.out⟩, by simp only [intOf]; omega⟩
      · have hg : k < n' := by have := HNm.out; omega
        have hfz : f.getD k 0 = 0 := getD_out (by have := HL.out.1; omega)
        obtain ⟨rfl, hag'⟩ := HF'.out (by omega)
        have b2 := HC'.out k hg
        rw [← HB.out.cell (p := ⟨a', k, none⟩) hag'] at b2
        have BGk := BG.out k
        have HE := Lib.hid (add_step (f := f) (g := g) (kk := kk) hlt rfl)
        rw [hfz, Int.zero_add] at HE
        have R1 := HW
        have B1 := HB
        obtain ⟨z, hzz⟩ : ∃ x, g.getD k 0 = x := ⟨_, rfl⟩
        rw [hzz] at HE b2 BGk
        clear hzz hfz
        go_upto_region 8 with fail
        have hsl : (tabL N fun i => if i < k then f.getD i 0 + kk * g.getD i 0 else 0).length = N := tabL_length _ _
        have c4 := c3
        have f4 := int_frozen R1.out hsl k
        have w1 : IntKind.i64.wrap (kk * z) = kk * z := IntWalk.i64_in _ (by omega)
        clear c3
        refine wp_region_still_tail 14 (by kernel_rfl) (by kernel_rfl) ?_
        simp only [List.take_succ_cons, List.take_zero, List.drop_succ_cons, List.drop_zero]
        repeat still_step
        refine wpStill_nil ?_
        change wpList _ _ _ _ _ wr.drew
        have R2 : Hid (IntRow w.heap.size wr.drew _ _) := Lib.hid R1.out
        have B2 := Lib.hid (below_drewN B1.out 1)
        replace c4 : wr.drew.cell? ⟨w.heap.size, k, none⟩ = _ := c4
        replace f4 : wr.drew.frozen? ⟨w.heap.size, k, none⟩ = _ := f4
        change Hid (Below w.heap.size w wr.drew) at B2
        clear R1 B1 b2
        generalize wr.drew = W2 at R2 B2 c4 f4 ⊢
        have R3 := Lib.hid (int_stored R2.out hsl k (kk * z))
        rw [HE.out] at R3
        have B3 := Lib.hid (B2.out.setCell (p := ⟨w.heap.size, k, none⟩) (Nat.le_refl _) (.int .i64 (kk * z)))
        clear hsl
        go_wp2
        exact ⟨⟨k + 1, by omega, by go_num, R3.out, B3.out⟩, by simp only [intOf]; omega⟩
    · have hkN : (tabL N fun i => if i < k then f.getD i 0 + kk * g.getD i 0 else 0) = addL f g kk := by
        unfold addL
        rw [← HL.out.1, ← HL.out.2, HNm.out]
        exact tabL_ext fun i hi => if_pos (by omega)
      have hr := HW.out
      rw [hkN] at hr
      obtain ⟨o2, c2, e2, HS2⟩ := seen_row hr (by rw [← hkN, tabL_length]; omega)
      have HB2 := HB.out
      have hle : (addL f g kk).length = N := by rw [← hkN, tabL_length]
      rw [hle] at e2 HS2
      injection e2 with e3 _ e4
      subst e3 e4
      clear hkN hr hle
      go_wp2_with (go_at_call 119; refine (specTrim_any HS2).mono ?_; rintro e w3 ⟨v, rfl, hr3, hb3⟩)
      go_ret
      exact ⟨_, rfl, intRow_lower hr3 HB2.size, HB2.trans (hb3.mono HB2.size)⟩
theorem poly_bf {f : List Int} (h : polyB f = true) : ∀ i, -1000000000000000 ≤ f.getD i 0 ∧ f.getD i 0 ≤ 1000000000000000 := fun i => by have := (polyB_of h).2.1 i; omega
theorem addL_length (f g : List Int) (k : Int) : (addL f g k).length = max f.length g.length := tabL_length _ _
def twoP (f g : List Int) : Bool := polyB f && polyB g
theorem trim_trim (l : List Int) : trimL (trimL l) = trimL l := trimL_self (trimL_last l)
theorem res_trim (l : List Int) : resL (trimL l) = resL l ∧ resC (trimL l) = resC l := by simp [resL, resC, trim_trim]
theorem trim_le {l : List Int} {n : Nat} (h : l.length ≤ n) : (trimL l).length ≤ n := by rw [trimL_length]; have := trimN_le l l.length; omega
end Go.Proofs.Ytjmecidbnoimnaa
