/- Contracts of the walk: chapter 12 in spec: polynomials in a ring. (joined of several texts) -/
import Derived.Test.YtbjkcoajabcibaaPolySpec3
import Derived.StillTailTactics
import Derived.Deep.DeepCutAuto
import Derived.Test.YtbjkcoajabcibaaModLaws
import Derived.Test.YtbjkcoajabcibaaRingMath
import Derived.Test.YtbjkcoajabcibaaSylMath
import Derived.Test.YtbjkcoajabcibaaBezPos
import Derived.Test.YtbjkcoajabcibaaGcd
import Derived.Test.YtbjkcoajabcibaaBezMath
import Derived.Test.YtbjkcoajabcibaaValMath
import Derived.Lib.SliceRun
import Derived.Test.YtbjkcoajabcibaaPolyMore
import Derived.OwnWalk
import Derived.Laws.OwnMore
import Derived.OneCell
import Derived.Lib.RabinKarpLaws
import Derived.Test.YtbjkcoajabcibaaRow
import Derived.Deep.RegionHeld3
import Derived.Test.YtbjkcoajabcibaaOrdMath2
import Derived.BigQuiet
namespace Go.Proofs.Ytbjkcoajabcibaa
open Go.RowKit
set_option linter.unusedVariables false
set_option linter.unusedSimpArgs false
theorem int_stored {b g n c : Nat} {w : World} {acc : List Int} (h : IntRow b w (.slice (some ⟨g, 0, none⟩) n c) acc) (hn : acc.length = n) (k : Nat) (x : Int) :
    IntRow b (w.setCell ⟨g, k, none⟩ (.int .i64 x)) (.slice (some ⟨g, 0, none⟩) n c) (acc.set k x) := by
  subst hn
  have h2 := (World.ownsRow.stored h k (.int .i64 x)).1
  unfold IntRow
  rw [List.length_set, List.map_set]
  exact h2
theorem int_at {b g n c : Nat} {w : World} {acc : List Int} (h : IntRow b w (.slice (some ⟨g, 0, none⟩) n c) acc) (hn : acc.length = n) {k : Nat} (hk : k < n) : w.cell? ⟨g, k, none⟩ = some (.int .i64 (acc.getD k 0)) := by
  subst hn
  have h2 := World.ownsRow.cellAt h k (by omega)
  rw [h2]; simp [List.getD, hk]
theorem int_frozen {b g n c : Nat} {w : World} {acc : List Int} (h : IntRow b w (.slice (some ⟨g, 0, none⟩) n c) acc) (hn : acc.length = n) (k : Nat) : w.frozen? ⟨g, k, none⟩ = false := by
  subst hn
  exact World.ownsRow.frozenAt h k
theorem tab_set {n k : Nat} {f : Nat → Int} (x : Int) (hk : k < n) : (tabL n f).set k x = tabL n fun i => if i = k then x else f i := by
  refine ext_getD (by rw [List.length_set, tabL_length, tabL_length]) fun i hi => ?_
  rw [List.length_set, tabL_length] at hi
  rw [tabL_getD hi]
  by_cases e : i = k
  · subst e; rw [if_pos rfl]; simp [List.getD, tabL_length, hi]
  · rw [if_neg e, ← tabL_getD (f := f) hi]; simp [List.getD, List.getElem?_set_ne (Ne.symm e)]
theorem tab_zero (n : Nat) : List.replicate n (0 : Int) = tabL n fun _ => 0 := by
  refine ext_getD (by rw [List.length_replicate, tabL_length]) fun i hi => ?_
  rw [List.length_replicate] at hi
  rw [tabL_getD hi]; simp [List.getD, hi]
theorem int_made {w w2 : World} {N : Nat} (h : w2.ownsRow w.heap.size 2 1 (.slice (some ⟨w.heap.size, 0, none⟩) N N) N (madeCells (Value.int .i64 0).cells (N * 1)).toList) :
    IntRow w.heap.size w2 (.slice (some ⟨w.heap.size, 0, none⟩) N N) (tabL N fun _ => 0) := by
  rw [← tab_zero]
  unfold IntRow
  rw [List.length_replicate, List.map_replicate]
  have e : (madeCells (Value.int .i64 0).cells (N * 1)).toList = List.replicate N (Value.int .i64 0) := by
    rw [Nat.mul_one]; exact toList_madeCells_one _ _
  rw [← e]; exact h
theorem add_step {f g : List Int} {kk : Int} {N k : Nat} {y : Int} (hk : k < N) (hy : f.getD k 0 + kk * g.getD k 0 = y) :
    (tabL N fun i => if i < k then f.getD i 0 + kk * g.getD i 0 else 0).set k y = tabL N fun i => if i < k + 1 then f.getD i 0 + kk * g.getD i 0 else 0 := by
  rw [tab_set y hk]
  refine tabL_ext fun i hi => ?_
  by_cases e : i = k
  · subst e; rw [if_pos rfl, if_pos (by omega), hy]
  · rw [if_neg e]
    by_cases h2 : i < k
    · rw [if_pos h2, if_pos (by omega)]
    · rw [if_neg h2, if_neg (by omega)]
set_option maxRecDepth 20000
set_option maxHeartbeats 2000000 in
theorem l06Add_any (kk : Int) {o o' : Option Addr} {n n' c c' : Nat} {f g : List Int} {w : World} (h : Seen w o n c f) (h' : Seen w o' n' c' g)
    (bf : ∀ i, -1000000000000000 ≤ f.getD i 0 ∧ f.getD i 0 ≤ 1000000000000000) (bg : ∀ i, -1000000000000000 ≤ kk * g.getD i 0 ∧ kk * g.getD i 0 ≤ 1000000000000000) :
    Calls Try.prog 169 #[.slice o n c, .slice o' n' c', .int .i64 kk] w (OwnPost (trimL (addL f g kk)) w) := by
  obtain ⟨hl, hn, hno, hnc, a, h1, h2⟩ := h
  obtain ⟨hl', hn', hno', hnc', a', h1', h2'⟩ := h'
  obtain ⟨i0, hi, hz0, hz1, hz2⟩ := info_parts Try.infoInt64
  have HI := Lib.hid hi
  have HZ0 := Lib.hid hz0
  have HZ1 := Lib.hid hz1
  have HZ2 := Lib.hid hz2
  have HF := Lib.hid h1
  have HC := Lib.hid h2
  have HF' := Lib.hid h1'
  have HC' := Lib.hid h2'
  have HL := Lib.hid (And.intro hl hl')
  have BF := Lib.hid bf
  have BG := Lib.hid bg
  obtain ⟨N, hN⟩ : ∃ N, max n n' = N := ⟨_, rfl⟩
  have hNb : N ≤ 1100000 := by omega
  have hmax : max (n : Int) (n' : Int) = (N : Int) := by omega
  have HNm := Lib.hid hN
  clear hi hz0 hz1 hz2 h1 h2 hl hno hnc h1' h2' hl' hno' hnc' bf bg
  go_enter Try.func169, Try.ntmps169
  go_upto_region 1 with fail
  go_cut [7] (fun s7 wx => s7 = .slice (some ⟨w.heap.size, 0, none⟩) N N ∧ IntRow w.heap.size wx (.slice (some ⟨w.heap.size, 0, none⟩) N N) (tabL N fun _ => 0) ∧ Below w.heap.size w wx)
  case first =>
    by_cases hle : n' ≤ n
    · have e : n = N := by omega
      subst e
      go_wp2_with (at_make; refine wpList_make_full _ rfl (.tmp 13) (.tmp 13) 26 rfl w.heap.size 2 i0 (.int .i64 0) 1 Try.underlying26 HI.out HZ0.out HZ1.out .i64 .i64 _ _ n rfl rfl rfl rfl (by rw [HZ2.out]; omega) (by unfold maxLen; omega) (Nat.le_refl _) ?_; intro w2 hown hgrow)
      have HB2 := (Below.refl w.heap.size w).grown hgrow (Nat.le_refl _) (fun k h => by cases h)
      have HR := Lib.hid (int_made hown)
      clear hown hgrow
      go_wp2
      go_meet
      case rel => exact ⟨rfl, HR.out, HB2⟩
    · have e : n' = N := by omega
      subst e
      go_wp2_with (at_make; refine wpList_make_full _ rfl (.tmp 13) (.tmp 13) 26 rfl w.heap.size 2 i0 (.int .i64 0) 1 Try.underlying26 HI.out HZ0.out HZ1.out .i64 .i64 _ _ n' rfl rfl rfl rfl (by rw [HZ2.out]; omega) (by unfold maxLen; omega) (Nat.le_refl _) ?_; intro w2 hown hgrow)
      have HB2 := (Below.refl w.heap.size w).grown hgrow (Nat.le_refl _) (fun k h => by cases h)
      have HR := Lib.hid (int_made hown)
      clear hown hgrow
      go_wp2
      go_meet
      case rel => exact ⟨rfl, HR.out, HB2⟩
  case rest =>
  obtain ⟨rfl, hrow, hb⟩ := hcut
  have HR0 := Lib.hid hrow
  have HB0 := Lib.hid hb
  clear hrow hb hmax hN
  go_wp2
  go_loopw [8] (fun i wr => ∃ k : Nat, k ≤ N ∧ i = .int .i64 k ∧ IntRow w.heap.size wr (.slice (some ⟨w.heap.size, 0, none⟩) N N) (tabL N fun i => if i < k then f.getD i 0 + kk * g.getD i 0 else 0) ∧ Below w.heap.size w wr) (fun i _ => N - (intOf i).toNat)
  case atStart => exact ⟨0, Nat.zero_le _, rfl, by rw [tabL_ext (g := fun _ => 0) (fun i _ => if_neg (Nat.not_lt_zero _))]; exact HR0.out, HB0.out⟩
  case round =>
    obtain ⟨k, hk, rfl, hrow, hb⟩ := hrel
    have HW := Lib.hid hrow
    have HB := Lib.hid hb
    have bs := hb.size
    clear hrow hb
    by_cases hlt : k < N
    · have c3 := int_at HW.out (tabL_length _ _) hlt
      rw [tabL_getD hlt, if_neg (Nat.lt_irrefl _)] at c3
      by_cases hf : k < n
      · obtain ⟨rfl, hag⟩ := HF.out (by omega)
        have a2 := HC.out k hf
        rw [← HB.out.cell (p := ⟨a, k, none⟩) hag] at a2
        have R1 := Lib.hid (int_stored HW.out (tabL_length _ _) k (f.getD k 0))
        have f3 := int_frozen HW.out (tabL_length _ _) k
        have B1 := Lib.hid (HB.out.setCell (p := ⟨w.heap.size, k, none⟩) (Nat.le_refl _) (.int .i64 (f.getD k 0)))
        by_cases hg : k < n'
        · obtain ⟨rfl, hag'⟩ := HF'.out (by omega)
          have b2 := HC'.out k hg
          rw [← B1.out.cell (p := ⟨a', k, none⟩) hag'] at b2
          have BFk := BF.out k
          have BGk := BG.out k
          have HE := Lib.hid (add_step (f := f) (g := g) (kk := kk) hlt rfl)
          obtain ⟨x, hx⟩ : ∃ x, f.getD k 0 = x := ⟨_, rfl⟩
          obtain ⟨z, hzz⟩ : ∃ x, g.getD k 0 = x := ⟨_, rfl⟩
          rw [hx, hzz] at HE
          rw [hx] at a2 R1 B1 b2 BFk
          rw [hzz] at b2 BGk
          clear hx hzz
          go_upto_region 8 with fail
          have hsl : ((tabL N fun i => if i < k then f.getD i 0 + kk * g.getD i 0 else 0).set k x).length = N := by rw [List.length_set, tabL_length]
          have hsg : ((tabL N fun i => if i < k then f.getD i 0 + kk * g.getD i 0 else 0).set k x).getD k 0 = x := by rw [tab_set x hlt, tabL_getD hlt, if_pos rfl]
          generalize wr.setCell ⟨w.heap.size, k, none⟩ (.int .i64 x) = W1 at R1 B1 b2 ⊢
          have c4 := int_at R1.out hsl hlt
          rw [hsg] at c4
          have f4 := int_frozen R1.out hsl k
          have w1 : IntKind.i64.wrap (kk * z) = kk * z := IntWalk.i64_in _ (by omega)
          have w2 : IntKind.i64.wrap (x + kk * z) = x + kk * z := IntWalk.i64_in _ (by omega)
          clear c3 f3 a2 hsg
          refine wp_region_still_tail 14 (by kernel_rfl) (by kernel_rfl) ?_
          simp only [List.take_succ_cons, List.take_zero, List.drop_succ_cons, List.drop_zero]
          repeat still_step
          refine wpStill_nil ?_
          change wpList _ _ _ _ _ W1.drew
          have R2 : Hid (IntRow w.heap.size W1.drew _ _) := Lib.hid R1.out
          have B2 := Lib.hid (below_drewN B1.out 1)
          replace c4 : W1.drew.cell? ⟨w.heap.size, k, none⟩ = _ := c4
          replace f4 : W1.drew.frozen? ⟨w.heap.size, k, none⟩ = _ := f4
          change Hid (Below w.heap.size w W1.drew) at B2
          clear R1 B1 b2
          generalize W1.drew = W2 at R2 B2 c4 f4 ⊢
          have R3 := Lib.hid (int_stored R2.out hsl k (x + kk * z))
          rw [List.set_set, HE.out] at R3
          have B3 := Lib.hid (B2.out.setCell (p := ⟨w.heap.size, k, none⟩) (Nat.le_refl _) (.int .i64 (x + kk * z)))
          clear hsl
          go_wp2
          exact ⟨⟨k + 1, by omega, by go_num, R3.out, B3.out⟩, by simp only [intOf]; omega⟩
        · have hgz : g.getD k 0 = 0 := getD_out (by have := HL.out.2; omega)
          have HE := Lib.hid (add_step (f := f) (g := g) (kk := kk) hlt rfl)
          rw [hgz, Int.mul_zero, Int.add_zero] at HE
          rw [HE.out] at R1
          generalize f.getD k 0 = x at *
          clear HE hgz
          go_wp2
          exact ⟨⟨k + 1, by omega, by go_num, R1.out, B1.out⟩, by simp only [intOf]; omega⟩
      · have hg : k < n' := by have := HNm.out; omega
        have hfz : f.getD k 0 = 0 := getD_out (by have := HL.out.1; omega)
        obtain ⟨rfl, hag'⟩ := HF'.out (by omega)
        have b2 := HC'.out k hg
        rw [← HB.out.cell (p := ⟨a', k, none⟩) hag'] at b2
        have BGk := BG.out k
        have HE := Lib.hid (add_step (f := f) (g := g) (kk := kk) hlt rfl)
        rw [hfz, Int.zero_add] at HE
        have R1 := HW
        have B1 := HB
        obtain ⟨z, hzz⟩ : ∃ x, g.getD k 0 = x := ⟨_, rfl⟩
        rw [hzz] at HE b2 BGk
        clear hzz hfz
        go_upto_region 8 with fail
        have hsl : (tabL N fun i => if i < k then f.getD i 0 + kk * g.getD i 0 else 0).length = N := tabL_length _ _
        have c4 := c3
        have f4 := int_frozen R1.out hsl k
        have w1 : IntKind.i64.wrap (kk * z) = kk * z := IntWalk.i64_in _ (by omega)
        clear c3
        refine wp_region_still_tail 14 (by kernel_rfl) (by kernel_rfl) ?_
        simp only [List.take_succ_cons, List.take_zero, List.drop_succ_cons, List.drop_zero]
        repeat still_step
        refine wpStill_nil ?_
        change wpList _ _ _ _ _ wr.drew
        have R2 : Hid (IntRow w.heap.size wr.drew _ _) := Lib.hid R1.out
        have B2 := Lib.hid (below_drewN B1.out 1)
        replace c4 : wr.drew.cell? ⟨w.heap.size, k, none⟩ = _ := c4
        replace f4 : wr.drew.frozen? ⟨w.heap.size, k, none⟩ = _ := f4
        change Hid (Below w.heap.size w wr.drew) at B2
        clear R1 B1 b2
        generalize wr.drew = W2 at R2 B2 c4 f4 ⊢
        have R3 := Lib.hid (int_stored R2.out hsl k (kk * z))
        rw [HE.out] at R3
        have B3 := Lib.hid (B2.out.setCell (p := ⟨w.heap.size, k, none⟩) (Nat.le_refl _) (.int .i64 (kk * z)))
        clear hsl
        go_wp2
        exact ⟨⟨k + 1, by omega, by go_num, R3.out, B3.out⟩, by simp only [intOf]; omega⟩
    · have hkN : (tabL N fun i => if i < k then f.getD i 0 + kk * g.getD i 0 else 0) = addL f g kk := by
        unfold addL
        rw [← HL.out.1, ← HL.out.2, HNm.out]
        exact tabL_ext fun i hi => if_pos (by omega)
      have hr := HW.out
      rw [hkN] at hr
      obtain ⟨o2, c2, e2, HS2⟩ := seen_row hr (by rw [← hkN, tabL_length]; omega)
      have HB2 := HB.out
      have hle : (addL f g kk).length = N := by rw [← hkN, tabL_length]
      rw [hle] at e2 HS2
      injection e2 with e3 _ e4
      subst e3 e4
      clear hkN hr hle
      go_wp2_with (go_at_call 137; refine (specTrim_any HS2).mono ?_; rintro e w3 ⟨v, rfl, hr3, hb3⟩)
      go_ret
      exact ⟨_, rfl, intRow_lower hr3 HB2.size, HB2.trans (hb3.mono HB2.size)⟩
theorem poly_bf {f : List Int} (h : polyB f = true) : ∀ i, -1000000000000000 ≤ f.getD i 0 ∧ f.getD i 0 ≤ 1000000000000000 := fun i => by have := (polyB_of h).2.1 i; omega
theorem addL_length (f g : List Int) (k : Int) : (addL f g k).length = max f.length g.length := tabL_length _ _
def twoP (f g : List Int) : Bool := polyB f && polyB g
theorem trim_trim (l : List Int) : trimL (trimL l) = trimL l := trimL_self (trimL_last l)
theorem res_trim (l : List Int) : resL (trimL l) = resL l ∧ resC (trimL l) = resC l := by simp [resL, resC, trim_trim]
theorem trim_le {l : List Int} {n : Nat} (h : l.length ≤ n) : (trimL l).length ≤ n := by rw [trimL_length]; have := trimN_le l l.length; omega
end Go.Proofs.Ytbjkcoajabcibaa
namespace Go.Proofs.Ytbjkcoajabcibaa
open Go.RowKit
set_option linter.unusedVariables false
set_option linter.unusedSimpArgs false
/-- a coefficient of a product on the way: i rows and k entries of the next one -/
def mulW (f g : List Int) (i k n : Nat) : Int := mulP f g n i + (if i ≤ n ∧ n < i + k then f.getD i 0 * g.getD (n - i) 0 else 0)
theorem mulW_zero (f g : List Int) (i n : Nat) : mulW f g i 0 n = mulP f g n i := by
  unfold mulW; rw [if_neg (by omega), Int.add_zero]
theorem mulW_row {f g : List Int} {i k n : Nat} (h : g.length ≤ k) : mulW f g i k n = mulP f g n (i + 1) := by
  unfold mulW
  show _ = mulP f g n i + (if i ≤ n then f.getD i 0 * g.getD (n - i) 0 else 0)
  congr 1
  by_cases h1 : i ≤ n
  · rw [if_pos h1]
    by_cases h2 : n < i + k
    · rw [if_pos ⟨h1, h2⟩]
    · rw [if_neg (by omega), getD_out (l := g) (by omega), Int.mul_zero]
  · rw [if_neg h1, if_neg (by omega)]
theorem mulW_step {f g : List Int} {i k N m : Nat} {y : Int} (hm : m < N) (hik : i + k = m) (hy : mulP f g m i + f.getD i 0 * g.getD k 0 = y) :
    (tabL N (mulW f g i k)).set m y = tabL N (mulW f g i (k + 1)) := by
  rw [tab_set y hm]
  refine tabL_ext fun j hj => ?_
  by_cases e : j = m
  · rw [if_pos e, ← hy, e]; unfold mulW; rw [if_pos (by omega), show m - i = k by omega]
  · rw [if_neg e]; unfold mulW
    by_cases h2 : i ≤ j ∧ j < i + k
    · rw [if_pos h2, if_pos (by omega)]
    · rw [if_neg h2, if_neg (by omega)]
theorem mulW_at {f g : List Int} {i k m : Nat} (hik : i + k = m) : mulW f g i k m = mulP f g m i := by
  unfold mulW; rw [if_neg (by omega), Int.add_zero]
theorem mul_bd {x y : Int} (hx : -1000000 ≤ x ∧ x ≤ 1000000) (hy : -1000000 ≤ y ∧ y ≤ 1000000) : -1000000000000 ≤ x * y ∧ x * y ≤ 1000000000000 := by
  have p1 : x.natAbs * y.natAbs ≤ 1000000 * 1000000 := Nat.mul_le_mul (by omega) (by omega)
  rw [← Int.natAbs_mul] at p1; omega
theorem mulP_bd {f g : List Int} (hf : ∀ i, -1000000 ≤ f.getD i 0 ∧ f.getD i 0 ≤ 1000000) (hg : ∀ i, -1000000 ≤ g.getD i 0 ∧ g.getD i 0 ≤ 1000000) (n : Nat) : ∀ i : Nat, -(1000000000000 * (i : Int)) ≤ mulP f g n i ∧ mulP f g n i ≤ 1000000000000 * (i : Int)
  | 0 => by simp [mulP]
  | i + 1 => by
    obtain ⟨a, b⟩ := mulP_bd hf hg n i
    have hm := mul_bd (hf i) (hg (n - i))
    unfold mulP
    generalize f.getD i 0 * g.getD (n - i) 0 = t at *
    generalize mulP f g n i = s at *
    push_cast
    split <;> omega
set_option maxRecDepth 20000
set_option maxHeartbeats 2000000 in
theorem l06Mul_any {o o' : Option Addr} {n n' c c' : Nat} {f g : List Int} {w : World} (h : Seen w o n c f) (h' : Seen w o' n' c' g) (hp : polyB f = true) (hq : polyB g = true) :
    Calls Try.prog 118 #[.slice o n c, .slice o' n' c'] w (OwnPost (trimL (mulL f g)) w) := by
  obtain ⟨hl, hn, hno, hnc, a, h1, h2⟩ := h
  obtain ⟨hl', hn', hno', hnc', a', h1', h2'⟩ := h'
  obtain ⟨i0, hi, hz0, hz1, hz2⟩ := info_parts Try.infoInt64
  have HI := Lib.hid hi
  have HZ0 := Lib.hid hz0
  have HZ1 := Lib.hid hz1
  have HZ2 := Lib.hid hz2
  have HF := Lib.hid h1
  have HC := Lib.hid h2
  have HF' := Lib.hid h1'
  have HC' := Lib.hid h2'
  have HL := Lib.hid (And.intro hl hl')
  have h9 : n ≤ 9 := by have := (polyB_of hp).1; omega
  have h9' : n' ≤ 9 := by have := (polyB_of hq).1; omega
  have BF := Lib.hid (polyB_of hp).2.1
  have BG := Lib.hid (polyB_of hq).2.1
  clear hi hz0 hz1 hz2 h1 h2 hl hno hnc h1' h2' hl' hno' hnc' hp hq hn hn'
  by_cases h0 : n = 0
  · have e : trimL (mulL f g) = [] := by
      have : mulL f g = [] := if_pos (.inl (by rw [← HL.out.1]; exact h0))
      rw [this]; rfl
    rw [e]
    subst h0
    have HR := Lib.hid (intRow_made w)
    go_enter Try.func118, Try.ntmps118
    go_wp2
    go_ret
    exact ⟨_, rfl, HR.out, (Below.refl _ _).alloc (Nat.le_refl _) _⟩
  · by_cases h0' : n' = 0
    · have e : trimL (mulL f g) = [] := by
        have : mulL f g = [] := if_pos (.inr (by rw [← HL.out.2]; exact h0'))
        rw [this]; rfl
      rw [e]
      subst h0'
      have hz : ((n : Int) == 0) = false := by simp; omega
      have HR := Lib.hid (intRow_made w)
      go_enter Try.func118, Try.ntmps118
      go_wp2
      go_ret
      exact ⟨_, rfl, HR.out, (Below.refl _ _).alloc (Nat.le_refl _) _⟩
    · obtain ⟨rfl, hag⟩ := HF.out (by omega)
      obtain ⟨rfl, hag'⟩ := HF'.out (by omega)
      have hz : ((n : Int) == 0) = false := by simp; omega
      have hz' : ((n' : Int) == 0) = false := by simp; omega
      obtain ⟨N, hN⟩ : ∃ N, n + n' - 1 = N := ⟨_, rfl⟩
      have hN1 : (n : Int) + (n' : Int) - 1 = (N : Int) := by omega
      have HN := Lib.hid hN
      have hN17 : N ≤ 17 := by omega
      clear hN
      go_enter Try.func118, Try.ntmps118
      go_wp2_with (at_make; refine wpList_make_full _ rfl (.tmp 22) (.tmp 22) 26 rfl w.heap.size 2 i0 (.int .i64 0) 1 Try.underlying26 HI.out HZ0.out HZ1.out .i64 .i64 _ _ N rfl rfl rfl rfl (by rw [HZ2.out]; omega) (by unfold maxLen; omega) (Nat.le_refl _) ?_)
      intro w2 hown hgrow
      have HR := Lib.hid (int_made (by rw [Nat.mul_one]; exact hown))
      have HB2 := Lib.hid ((Below.refl w.heap.size w).grown hgrow (Nat.le_refl _) (fun k h => by cases h))
      clear hown hgrow hN1
      go_wp2
      go_loopw [6] (fun s wr => ∃ i : Nat, i ≤ n ∧ s = .int .i64 i ∧ IntRow w.heap.size wr (.slice (some ⟨w.heap.size, 0, none⟩) N N) (tabL N (mulW f g i 0)) ∧ Below w.heap.size w wr) (fun s _ => n - (intOf s).toNat)
      case atStart => exact ⟨0, Nat.zero_le _, rfl, by rw [tabL_ext (g := fun _ => 0) (fun i _ => mulW_zero f g 0 i)]; exact HR.out, HB2.out⟩
      case round =>
        obtain ⟨i, hi, rfl, hrow, hb⟩ := hrel
        have HW := Lib.hid hrow
        have HB := Lib.hid hb
        clear hrow hb HR HB2
        by_cases hlt : i < n
        · go_wp2
          go_loopw [7] (fun s wr => ∃ k : Nat, k ≤ n' ∧ s = .int .i64 k ∧ IntRow w.heap.size wr (.slice (some ⟨w.heap.size, 0, none⟩) N N) (tabL N (mulW f g i k)) ∧ Below w.heap.size w wr) (fun s _ => n' - (intOf s).toNat)
          case atStart => exact ⟨0, Nat.zero_le _, rfl, HW.out, HB.out⟩
          case round =>
            obtain ⟨k, hk, rfl, hrow, hb⟩ := hrel
            have HW2 := Lib.hid hrow
            have HB2 := Lib.hid hb
            clear hrow hb HW HB
            by_cases hltk : k < n'
            · obtain ⟨m, hm⟩ : ∃ m, i + k = m := ⟨_, rfl⟩
              have hmN : m < N := by have := HN.out; omega
              have hik : (i : Int) + (k : Int) = (m : Int) := by omega
              have hwm : IntKind.i64.wrap (m : Int) = (m : Int) := IntWalk.i64_in _ (by omega)
              have a2 := HC.out i hlt
              rw [← HB2.out.cell (p := ⟨a, i, none⟩) hag] at a2
              have b2 := HC'.out k hltk
              rw [← HB2.out.cell (p := ⟨a', k, none⟩) hag'] at b2
              have hsl : (tabL N (mulW f g i k)).length = N := tabL_length _ _
              have c4 := int_at HW2.out hsl hmN
              rw [tabL_getD hmN, mulW_at hm] at c4
              have f4 := int_frozen HW2.out hsl m
              have HE := Lib.hid (mulW_step (f := f) (g := g) hmN hm rfl)
              have bp := mulP_bd BF.out BG.out m i
              have bt := mul_bd (BF.out i) (BG.out k)
              obtain ⟨x, hx⟩ : ∃ x, f.getD i 0 = x := ⟨_, rfl⟩
              obtain ⟨z, hzz⟩ : ∃ x, g.getD k 0 = x := ⟨_, rfl⟩
              obtain ⟨s, hs⟩ : ∃ x, mulP f g m i = x := ⟨_, rfl⟩
              rw [hx, hzz, hs] at HE
              rw [hx, hzz] at bt
              rw [hx] at a2
              rw [hzz] at b2
              rw [hs] at c4 bp
              have w1 : IntKind.i64.wrap (x * z) = x * z := IntWalk.i64_in _ (by omega)
              have w2 : IntKind.i64.wrap (s + x * z) = s + x * z := IntWalk.i64_in _ (by omega)
              have HM := Lib.hid hm
              clear hx hzz hs bp bt hm
              go_upto_region 10 with fail
              refine wp_region_still_tail 21 (by kernel_rfl) (by kernel_rfl) ?_
              simp only [List.take_succ_cons, List.take_zero, List.drop_succ_cons, List.drop_zero]
              repeat still_step
              refine wpStill_nil ?_
              change wpList _ _ _ _ _ wr.drew
              have R2 : Hid (IntRow w.heap.size wr.drew (.slice (some ⟨w.heap.size, 0, none⟩) N N) (tabL N (mulW f g i k))) := Lib.hid HW2.out
              have B2 := Lib.hid (below_drewN HB2.out 1)
              replace c4 : wr.drew.cell? ⟨w.heap.size, m, none⟩ = _ := c4
              replace f4 : wr.drew.frozen? ⟨w.heap.size, m, none⟩ = _ := f4
              change Hid (Below w.heap.size w wr.drew) at B2
              clear HW2 HB2 a2 b2
              generalize wr.drew = W2 at R2 B2 c4 f4 ⊢
              have R3 := Lib.hid (int_stored R2.out hsl m (s + x * z))
              rw [HE.out] at R3
              have B3 := Lib.hid (B2.out.setCell (p := ⟨w.heap.size, m, none⟩) (Nat.le_refl _) (.int .i64 (s + x * z)))
              clear hsl
              go_wp2
              exact ⟨⟨k + 1, by omega, by go_num, R3.out, B3.out⟩, by simp only [intOf]; omega⟩
            · have hkN : tabL N (mulW f g i k) = tabL N (mulW f g (i + 1) 0) := tabL_ext fun j _ => by rw [mulW_row (by have := HL.out.2; omega), mulW_zero]
              have R1 := Lib.hid (show IntRow w.heap.size wr (.slice (some ⟨w.heap.size, 0, none⟩) N N) (tabL N (mulW f g (i + 1) 0)) by rw [← hkN]; exact HW2.out)
              clear hkN
              go_wp2
              exact ⟨⟨i + 1, by omega, by go_num, R1.out, HB2.out⟩, by simp only [intOf]; omega⟩
        · have hkN : tabL N (mulW f g i 0) = mulL f g := by
            unfold mulL
            have := HL.out.1
            have := HL.out.2
            rw [if_neg (by omega), show f.length + g.length - 1 = N by have := HN.out; omega]
            exact tabL_ext fun j _ => by rw [mulW_zero, show i = f.length by omega]
          have hr := HW.out
          rw [hkN] at hr
          obtain ⟨o2, c2, e2, HS2⟩ := seen_row hr (by rw [← hkN, tabL_length]; omega)
          have HB2 := HB.out
          have hle : (mulL f g).length = N := by rw [← hkN, tabL_length]
          rw [hle] at e2 HS2
          injection e2 with e3 _ e4
          subst e3 e4
          clear hkN hr hle
          go_wp2_with (go_at_call 137; refine (specTrim_any HS2).mono ?_; rintro e w3 ⟨v, rfl, hr3, hb3⟩)
          go_ret
          exact ⟨_, rfl, intRow_lower hr3 HB2.size, HB2.trans (hb3.mono HB2.size)⟩
theorem mulL_le (f g : List Int) : (mulL f g).length ≤ f.length + g.length := by
  unfold mulL; split
  · simp
  · rw [tabL_length]; omega
end Go.Proofs.Ytbjkcoajabcibaa
namespace Go.Proofs.Ytbjkcoajabcibaa
set_option linter.unusedVariables false
set_option maxRecDepth 20000
set_option linter.unusedSimpArgs false
theorem prime_inv {p inv a : Int} (hp : PrimeP p) (hi : p ∣ inv * a - 1) : ¬ p ∣ inv := by
  rintro ⟨c, rfl⟩
  obtain ⟨d, hd⟩ := hi
  have h1 : p * (c * a - d) = 1 := by grind
  have h2 := hp.1
  rcases (by omega : c * a - d ≤ 0 ∨ 1 ≤ c * a - d) with h | h
  · have := Int.mul_le_mul_of_nonneg_left h (show (0 : Int) ≤ p by omega)
    omega
  · have := Int.mul_le_mul_of_nonneg_left h (show (0 : Int) ≤ p by omega)
    omega
/-! division -/
def subX (p : Int) (r : Nat → Int) (g : List Int) (c : Int) (N i j : Nat) : List Int := tabL N fun t => if i ≤ t ∧ t < i + j then (r t - c * g.getD (t - i) 0) % p else r t
theorem subX_zero (p : Int) (r : Nat → Int) (g : List Int) (c : Int) (N i : Nat) : subX p r g c N i 0 = tabL N r := tabL_ext fun t ht => by rw [if_neg (by omega)]
theorem subX_length (p : Int) (r : Nat → Int) (g : List Int) (c : Int) (N i j : Nat) : (subX p r g c N i j).length = N := tabL_length _ _
theorem subX_at {p : Int} {r : Nat → Int} {g : List Int} {c : Int} {N i j t : Nat} (ht : i + j = t) (h9 : t < N) : (subX p r g c N i j).getD t 0 = r t := by
  rw [subX, tabL_getD h9, if_neg (by omega)]
theorem subX_step {p : Int} {r : Nat → Int} {g : List Int} {c : Int} {N i j t : Nat} (ht : i + j = t) (h9 : t < N) : (subX p r g c N i j).set t ((r t - c * g.getD j 0) % p) = subX p r g c N i (j + 1) := by
  unfold subX
  rw [tab_set _ h9]
  refine tabL_ext fun u hu => ?_
  by_cases e : u = t
  · rw [if_pos e, if_pos (by omega), e, show t - i = j by omega]
  · rw [if_neg e]
    by_cases h2 : i ≤ u ∧ u < i + j
    · rw [if_pos h2, if_pos (by omega)]
    · rw [if_neg h2, if_neg (by omega)]
theorem subX_end {p inv : Int} {g : List Int} {r0 : Nat → Int} {N i k : Nat} (h : i + g.length + k = N) : subX p (mdS p inv g r0 N k) g (mdC p inv g r0 N k) N i g.length = tabL N (mdS p inv g r0 N (k + 1)) := by
  unfold subX
  refine tabL_ext fun t ht => ?_
  show _ = if N - g.length - k ≤ t ∧ t < N - g.length - k + g.length then (mdS p inv g r0 N k t - mdC p inv g r0 N k * g.getD (t - (N - g.length - k)) 0) % p else mdS p inv g r0 N k t
  rw [show N - g.length - k = i by omega]
def qX (p inv : Int) (f g : List Int) (q k : Nat) : List Int := tabL q fun j => if f.length < j + g.length + k then mdC p inv g (fun j => f.getD j 0) f.length (f.length - g.length - j) else 0
theorem qX_zero {p inv : Int} {f g : List Int} {q : Nat} (h : q + g.length = f.length + 1) : qX p inv f g q 0 = tabL q fun _ => 0 := tabL_ext fun j hj => by rw [if_neg (by omega)]
theorem qX_length (p inv : Int) (f g : List Int) (q k : Nat) : (qX p inv f g q k).length = q := tabL_length _ _
theorem qX_step {p inv : Int} {f g : List Int} {q k i : Nat} (h : q + g.length = f.length + 1) (hi : i + g.length + k = f.length) : (qX p inv f g q k).set i (mdC p inv g (fun j => f.getD j 0) f.length k) = qX p inv f g q (k + 1) := by
  unfold qX
  rw [tab_set _ (by omega)]
  refine tabL_ext fun t ht => ?_
  by_cases e : t = i
  · rw [if_pos e, if_pos (by omega), e, show f.length - g.length - i = k by omega]
  · rw [if_neg e]
    by_cases h2 : f.length < t + g.length + k
    · rw [if_pos h2, if_pos (by omega)]
    · rw [if_neg h2, if_neg (by omega)]
theorem qX_end {p : Int} {f g : List Int} {q : Nat} (h : q + g.length = f.length + 1) : trimL (qX p (invP p g) f g q q) = quoP p f g := by
  unfold qX quoP mdQ
  rw [show f.length + 1 - g.length = q by omega]
  congr 1
  exact tabL_ext fun t ht => by rw [if_pos (by omega)]
theorem rX_end {p : Int} {f g : List Int} {q N : Nat} (hN : N = f.length) (h : q = f.length + 1 - g.length) : trimL (tabL N (mdS p (invP p g) g (fun j => f.getD j 0) N q)) = remP p f g := by
  subst hN h; rfl
theorem few_quo {p : Int} {f g : List Int} (h : f.length < g.length) : quoP p f g = [] := by
  unfold quoP mdQ; rw [show f.length + 1 - g.length = 0 by omega]; rfl
theorem few_rem {p : Int} {f g : List Int} (h : f.length < g.length) : trimL f = remP p f g := by
  unfold remP mdR
  rw [show f.length + 1 - g.length = 0 by omega]
  congr 1
  refine ext_getD (by rw [tabL_length]) fun i hi => ?_
  rw [tabL_getD hi]; rfl
/-- the quotient has no zero at its end -/
theorem qX_full {p : Int} {f g : List Int} {q : Nat} (hp : PrimeP p) (hf : ModP p f) (hi : p ∣ invP p g * g.getD (g.length - 1) 0 - 1) (hq : q + g.length = f.length + 1) (h0 : 1 ≤ q) (hl : 1 ≤ g.length) : qX p (invP p g) f g q q = quoP p f g := by
  rw [← qX_end hq]
  refine (trimL_self ?_).symm
  unfold lastB
  rw [qX_length]
  have hne : f ≠ [] := fun e => by rw [e] at hq; simp at hq; omega
  have e1 : (qX p (invP p g) f g q q).getD (q - 1) 0 = f.getD (f.length - 1) 0 * invP p g % p := by
    unfold qX
    rw [tabL_getD (by omega), if_pos (by omega), show f.length - g.length - (q - 1) = 0 by omega]; rfl
  rw [e1]
  have h3 : ¬ f.getD (f.length - 1) 0 * invP p g % p = 0 := fun h => by
    rcases hp.2 _ _ (Int.dvd_of_emod_eq_zero h) with h | h
    · exact modP_last hf hne h
    · exact prime_inv hp hi h
  generalize f.getD (f.length - 1) 0 * invP p g % p = x at h3 ⊢
  simp [h3]
/-- made monic by a division -/
theorem mon_quo {p : Int} {f : List Int} (h2 : 2 ≤ p) (h97 : p ≤ 97) (hp : PrimeP p) (hf : ModP p f) (h0 : f.length ≠ 0) : quoP p f [f.getD (f.length - 1) 0] = monP p f := by
  have hne : f ≠ [] := fun e => h0 (by rw [e]; rfl)
  have hl := modP_last hf hne
  have hr := hf.rng (f.length - 1)
  have hm : ModP p [f.getD (f.length - 1) 0] := ⟨fun i => by
    cases i with
    | zero => exact hr
    | succ i => simp; omega, by
      have : ¬ f.getD (f.length - 1) 0 = 0 := fun e => hl (by rw [e]; exact Int.dvd_zero _)
      simpa [lastB] using this⟩
  have hd := divP_is h2 h97 hp hf hm (by simp)
  have hi := invP_dvd h2 h97 hp hf hne
  have hr0 : remP p f [f.getD (f.length - 1) 0] = [] := nil_of (by have h := hd.deg; rw [List.length_singleton] at h; exact Nat.lt_one_iff.1 h)
  rw [hr0] at hd
  unfold monP
  rw [if_neg h0]
  refine modP_eq hd.mq (redL_mod (by omega) _) (cgp_trans ?_ (cgp_symm (redL_cg p _)))
  obtain ⟨k, hk⟩ := hd.eq
  obtain ⟨m, hm2⟩ := hi
  refine ⟨smulL (-1) (addL (smulL m (quoP p f [f.getD (f.length - 1) 0])) (smulL (invP p f) k) 1), fun x => ?_⟩
  have e1 := hk x
  simp only [pval_add, pval_mul, pval_one, pval_nil, pval_smul] at e1 ⊢
  generalize f.getD (f.length - 1) 0 = a at *
  generalize pval (quoP p f [a]) x = Q at *
  generalize pval f x = F at *
  generalize pval k x = K at *
  generalize invP p f = v at *
  have e2 : v * a = 1 + p * m := by omega
  rw [e1]
  grind
/-! products -/
theorem mulW_mod {p : Int} {f g : List Int} {i k n : Nat} (hi : i + k = n) : (mulW f g i k n % p + f.getD i 0 * g.getD k 0) % p = mulW f g i (k + 1) n % p := by
  have e : mulW f g i (k + 1) n = mulW f g i k n + f.getD i 0 * g.getD k 0 := by
    rw [mulW_at hi]
    unfold mulW
    rw [if_pos (by omega), show n - i = k by omega]
  rw [e, Int.emod_add_emod]
def mulY (p : Int) (f g : List Int) (N i k : Nat) : List Int := tabL N fun n => mulW f g i k n % p
theorem mulY_length (p : Int) (f g : List Int) (N i k : Nat) : (mulY p f g N i k).length = N := tabL_length _ _
theorem mulY_start (p : Int) (f g : List Int) (N : Nat) : mulY p f g N 0 0 = tabL N fun _ => 0 := tabL_ext fun n _ => by rw [mulW_zero]; simp [mulP]
theorem mulY_row {p : Int} {f g : List Int} {N i k : Nat} (h : g.length ≤ k) : mulY p f g N i k = mulY p f g N (i + 1) 0 := tabL_ext fun n _ => by rw [mulW_row h, mulW_zero]
theorem mulY_at {p : Int} {f g : List Int} {N i k m : Nat} (hm : m < N) : (mulY p f g N i k).getD m 0 = mulW f g i k m % p := tabL_getD hm
theorem mulY_step {p : Int} {f g : List Int} {N i k m : Nat} (hm : m < N) (hik : i + k = m) : (mulY p f g N i k).set m ((mulW f g i k m % p + f.getD i 0 * g.getD k 0) % p) = mulY p f g N i (k + 1) := by
  rw [mulW_mod hik]
  unfold mulY
  rw [tab_set _ hm]
  refine tabL_ext fun n hn => ?_
  by_cases e : n = m
  · rw [if_pos e, e]
  · rw [if_neg e]
    unfold mulW
    by_cases h2 : i ≤ n ∧ n < i + k
    · rw [if_pos h2, if_pos (by omega)]
    · rw [if_neg h2, if_neg (by omega)]
theorem mulY_end {p : Int} {f g : List Int} {N : Nat} (h : N = f.length + g.length) : trimL (mulY p f g N f.length 0) = prodL p f g := by
  refine last_unique (trimL_last _) (trimL_last _) fun n => ?_
  rw [trimL_getD]
  show _ = (prodL p f g).getD n 0
  rw [prodL, redL_getD, mulL_getD]
  by_cases hn : n < N
  · rw [mulY_at hn, mulW_zero]
  · rw [getD_out (by rw [mulY_length]; omega), ← mulL_getD, getD_out (l := mulL f g) (by have := mulL_le f g; omega)]; simp
theorem redL_trim {p : Int} (l : List Int) : redL p (trimL l) = redL p l :=
  last_unique (trimL_last _) (trimL_last _) fun n => by
    show (redL p (trimL l)).getD n 0 = (redL p l).getD n 0
    rw [redL_getD, redL_getD, trimL_getD]
/-! common divisors -/
theorem gcdL_step {p : Int} {f g : List Int} (h2 : 2 ≤ p) (h97 : p ≤ 97) (hp : PrimeP p) (hf : ModP p f) (hg : ModP p g) (h0 : g.length ≠ 0) : gcdL p f g = gcdL p g (remP p f g) := by
  have hd := divP_is h2 h97 hp hf hg (fun e => h0 (by rw [e]; rfl))
  exact gcd_unique hp (gcdL_is h2 h97 hp hf hg) (gcd_step hd (gcdL_is h2 h97 hp hg hd.mr))
theorem gcdL_end {p : Int} {f g : List Int} (h0 : g.length = 0) : gcdL p f g = monP p f := by
  rw [nil_of h0]; rfl
/-! powers -/
/-- a power of x by f, not necessarily the remainder -/
structure IsPw (p : Int) (f : List Int) (e : Nat) (r : List Int) : Prop where
  mod : ModP p r
  len : r.length ≤ 9
  eq : ∃ q, CgP p (xL e) (addL (mulL f q) r 1)
theorem pw_of {p : Int} {f r : List Int} {e : Nat} (h : IsPow p f e r) (hf : f.length ≤ 9) : IsPw p f e r := ⟨h.mod, by have := h.deg; omega, h.eq⟩
theorem pw_x {p : Int} (hp : 2 ≤ p) (f : List Int) : IsPw p f 1 [0, 1] := by
  refine ⟨⟨fun i => ?_, by simp [lastB]⟩, by simp, [], cgp_val fun x => ?_⟩
  · match i with
    | 0 => exact ⟨by simp, by simp; omega⟩
    | 1 => exact ⟨by simp, by simp; omega⟩
    | i + 2 => simp; omega
  · rw [pval_xL, pval_add, pval_mul, pval_nil, pval_lin, Int.pow_succ, Int.pow_zero]; omega
theorem pw_mul {p : Int} {f r s m q t : List Int} {a b : Nat} (h1 : IsPw p f a r) (h2 : IsPw p f b s) (hm : CgP p m (mulL r s)) (h : IsDiv p m f q t) : IsPow p f (a + b) t := by
  obtain ⟨q1, k1, e1⟩ := h1.eq
  obtain ⟨q2, k2, e2⟩ := h2.eq
  obtain ⟨k3, e3⟩ := hm
  obtain ⟨k4, e4⟩ := h.eq
  refine ⟨h.mr, h.deg, addL (addL (mulL (mulL f q1) q2) (mulL q1 s) 1) (addL (mulL q2 r) q 1) 1, addL (addL (mulL (addL (mulL f q1) r 1) k2) (mulL (addL (mulL f q2) s 1) k1) 1) (addL (smulL p (mulL k1 k2)) (addL k4 k3 (-1)) 1) 1, fun x => ?_⟩
  have f1 := e1 x
  have f2 := e2 x
  have f3 := e3 x
  have f4 := e4 x
  rw [pval_xL] at f1 f2
  simp only [pval_add, pval_mul, pval_smul] at f1 f2 f3 f4 ⊢
  rw [pval_xL, Int.pow_add, f1, f2]
  generalize pval f x = F at *
  generalize pval q1 x = Q1 at *
  generalize pval q2 x = Q2 at *
  generalize pval r x = R at *
  generalize pval s x = S at *
  generalize pval k1 x = K1 at *
  generalize pval k2 x = K2 at *
  generalize pval k3 x = K3 at *
  generalize pval k4 x = K4 at *
  generalize pval q x = Q at *
  generalize pval t x = T at *
  generalize pval m x = M at *
  grind
theorem pw_join {p : Int} (h2 : 2 ≤ p) (h97 : p ≤ 97) (hp : PrimeP p) {f r s : List Int} (hf : ModP p f) (h0 : f ≠ []) {a b : Nat} (hr : IsPw p f a r) (hs : IsPw p f b s) : IsPow p f (a + b) (remP p (prodL p r s) f) :=
  pw_mul hr hs (redL_cg p (mulL r s)) (divP_is h2 h97 hp (redL_mod (by omega) _) hf h0)
/-- what is left of the exponent -/
theorem half_odd {A B E e : Nat} (h : A + B * e = E) (ho : e % 2 = 1) : A + B + (B + B) * (e / 2) = E := by
  have h1 : e = 2 * (e / 2) + 1 := by omega
  have h2 : B * e = B * (2 * (e / 2) + 1) := by rw [← h1]
  rw [Nat.mul_add, Nat.mul_one, ← Nat.mul_assoc, Nat.mul_two] at h2
  omega
theorem half_even {A B E e : Nat} (h : A + B * e = E) (ho : e % 2 = 0) : A + (B + B) * (e / 2) = E := by
  have h1 : e = 2 * (e / 2) := by omega
  have h2 : B * e = B * (2 * (e / 2)) := by rw [← h1]
  rw [← Nat.mul_assoc, Nat.mul_two] at h2
  omega
end Go.Proofs.Ytbjkcoajabcibaa
namespace Go.Proofs.Ytbjkcoajabcibaa
set_option linter.unusedVariables false
set_option linter.unusedSimpArgs false
/-- a polynomial in the ring -/
def inrB (p n : Int) (f : List Int) : Bool := decide (ringM p n ≠ 0) && (decide (f.length ≤ 9) && ((f.all fun x => inB x 0 (ringM p n - 1)) && lastB f))
structure InrOk (p n : Int) (f : List Int) : Prop where
  ring : ringM p n ≠ 0
  len : f.length ≤ 9
  mod : ModP (ringM p n) f
theorem inrB_of {p n : Int} {f : List Int} (h : inrB p n f = true) : InrOk p n f := by
  simp only [inrB, Bool.and_eq_true, decide_eq_true_eq] at h
  obtain ⟨h1, h2, h3, h4⟩ := h
  have hb := ringM_bd h1
  refine ⟨h1, h2, fun i => ?_, h4⟩
  by_cases hi : i < f.length
  · have := List.all_eq_true.1 h3 (f.getD i 0) (by simp [List.getD, hi])
    simp only [inB, Bool.and_eq_true, decide_eq_true_eq] at this
    omega
  · rw [getD_out (by omega)]; omega
theorem inrB_mk {p n : Int} {f : List Int} (hr : ringM p n ≠ 0) (hl : f.length ≤ 9) (h : ModP (ringM p n) f) : inrB p n f = true := by
  simp only [inrB, Bool.and_eq_true, decide_eq_true_eq]
  refine ⟨hr, hl, List.all_eq_true.2 fun x hx => ?_, h.last⟩
  obtain ⟨i, hi, rfl⟩ := List.getElem_of_mem hx
  have := h.rng i
  rw [show f.getD i 0 = f[i] by simp [List.getD, hi]] at this
  simp only [inB, Bool.and_eq_true, decide_eq_true_eq]; omega
/-- monic -/
def mncB (f : List Int) : Bool := decide (0 < f.length) && (f.getD (f.length - 1) 0 == 1)
theorem mncB_of {f : List Int} (h : mncB f = true) : 1 ≤ f.length ∧ f.getD (f.length - 1) 0 = 1 := by
  simp only [mncB, Bool.and_eq_true, decide_eq_true_eq, beq_iff_eq] at h
  exact ⟨by omega, h.2⟩
theorem mncB_mk {f : List Int} (h : 1 ≤ f.length) (h1 : f.getD (f.length - 1) 0 = 1) : mncB f = true := by
  simp only [mncB, Bool.and_eq_true, decide_eq_true_eq, beq_iff_eq]; exact ⟨by omega, h1⟩
theorem inv_one {M : Int} (h2 : 2 ≤ M) (h9 : M ≤ 1000000000) : bezX 1 M % M = 1 := by
  have h := bez_inverse (a := 1) (m := M) (by omega) (by omega) (by omega) (by omega) (by simp)
  rw [Int.one_mul, Int.emod_emod] at h
  exact h
theorem invP_one {M : Int} {g : List Int} (h2 : 2 ≤ M) (h9 : M ≤ 1000000000) (hg : mncB g = true) : invP M g = 1 := by
  rw [invP, (mncB_of hg).2, inv_one h2 h9]
theorem invP_mon {M : Int} {g : List Int} (h2 : 2 ≤ M) (h9 : M ≤ 1000000000) (hg : mncB g = true) : M ∣ invP M g * g.getD (g.length - 1) 0 - 1 := by
  rw [invP_one h2 h9 hg, (mncB_of hg).2]; exact ⟨0, by omega⟩
theorem divM_is {M : Int} {f g : List Int} (h2 : 2 ≤ M) (h9 : M ≤ 1000000000) (hf : ModP M f) (hg : mncB g = true) : IsDiv M f g (quoP M f g) (remP M f g) :=
  md_isdiv (by omega) hf (invP_mon h2 h9 hg) (mncB_of hg).1
/-! inverses by a polynomial -/
structure IsInvP (p : Int) (h g s : List Int) : Prop where
  mod : ModP p s
  deg : s.length < g.length
  eq : ∃ k, CgP p (mulL h s) (addL (mulL g k) [1] 1)
theorem invP_unique {p : Int} (hp : PrimeP p) {h g s t : List Int} (hg : ModP p g) (h0 : g ≠ []) (hs : IsInvP p h g s) (ht : IsInvP p h g t) : s = t := by
  have hp0 : 0 < p := by have := hp.1; omega
  obtain ⟨a, u, hu⟩ := hs.eq
  obtain ⟨b, v, hv⟩ := ht.eq
  have d1 : IsDiv p (mulL (mulL s h) t) g (redL p (mulL s b)) s := by
    refine ⟨redL_mod hp0 _, hs.mod, hs.deg, ?_⟩
    obtain ⟨e, he⟩ := redL_cg p (mulL s b)
    refine ⟨addL (mulL s v) (mulL g e) (-1), fun x => ?_⟩
    have h1 := hv x
    have h2 := he x
    simp only [pval_add, pval_mul, pval_one] at h1 h2 ⊢
    grind
  have d2 : IsDiv p (mulL (mulL s h) t) g (redL p (mulL t a)) t := by
    refine ⟨redL_mod hp0 _, ht.mod, ht.deg, ?_⟩
    obtain ⟨e, he⟩ := redL_cg p (mulL t a)
    refine ⟨addL (mulL t u) (mulL g e) (-1), fun x => ?_⟩
    have h1 := hu x
    have h2 := he x
    simp only [pval_add, pval_mul, pval_one] at h1 h2 ⊢
    grind
  exact (div_unique hp (modP_last hg h0) d1 d2 (cgp_refl p _)).2
open Classical in
noncomputable def invL (p : Int) (h g : List Int) : List Int := if e : ∃ s, IsInvP p h g s then Classical.choose e else []
theorem invL_is {p : Int} {h g s : List Int} (hs : IsInvP p h g s) : IsInvP p h g (invL p h g) := by
  have e : ∃ s, IsInvP p h g s := ⟨s, hs⟩
  rw [invL, dif_pos e]; exact Classical.choose_spec e
theorem invL_eq {p : Int} (hp : PrimeP p) {h g s : List Int} (hg : ModP p g) (h0 : g ≠ []) (hs : IsInvP p h g s) : s = invL p h g := invP_unique hp hg h0 hs (invL_is hs)
/-- what holds of the numbers of Euclid -/
structure EuP (p : Int) (g h a b u v : List Int) : Prop where
  ma : ModP p a
  mb : ModP p b
  mu : ModP p u
  mv : ModP p v
  eu : ∃ k, CgP p a (addL (mulL h u) (mulL g k) 1)
  ev : ∃ k, CgP p b (addL (mulL h v) (mulL g k) 1)
  la : 2 ≤ a.length
  one : (gcdL p a b).length = 1
  lu : u = [] ∨ u.length + b.length ≤ g.length + 1
  lv : v = [] ∨ v.length + a.length ≤ g.length + 1
theorem modP_un {p : Int} (hp : 2 ≤ p) : ModP p [1] := ⟨fun i => by
  match i with
  | 0 => exact ⟨by simp, by simp; omega⟩
  | i + 1 => simp; omega, by simp [lastB]⟩
/-- the beginning as impl has it -/
theorem eu_start {p : Int} {g h : List Int} (h2 : 2 ≤ p) (h97 : p ≤ 97) (hp : PrimeP p) (hg : ModP p g) (hh : ModP p h) (lg : 2 ≤ g.length) (h1 : (gcdL p g h).length = 1) : EuP p g h g h [] [1] :=
  ⟨hg, hh, modP_nil (by omega), modP_un h2, ⟨[1], cgp_val fun x => by rw [pval_add, pval_mul, pval_mul, pval_nil, pval_one]; omega⟩, ⟨[], cgp_val fun x => by rw [pval_add, pval_mul, pval_mul, pval_nil, pval_one]; omega⟩, lg, h1, .inl rfl, .inr (by simp; omega)⟩
theorem gcdL_comm {p : Int} {f g : List Int} (h2 : 2 ≤ p) (h97 : p ≤ 97) (hp : PrimeP p) (hf : ModP p f) (hg : ModP p g) : gcdL p f g = gcdL p g f :=
  gcd_unique hp (gcdL_is h2 h97 hp hf hg) (gcd_comm (gcdL_is h2 h97 hp hg hf))
/-- the beginning as spec has it -/
theorem eu_start2 {p : Int} {g h : List Int} (h2 : 2 ≤ p) (h97 : p ≤ 97) (hp : PrimeP p) (hg : ModP p g) (hh : ModP p h) (lg : 2 ≤ g.length) (h1 : (gcdL p g h).length = 1) : EuP p g h g (remP p h g) [] [1] := by
  have hd := divP_is h2 h97 hp hh hg (fun e => by rw [e] at lg; simp at lg)
  refine ⟨hg, hd.mr, modP_nil (by omega), modP_un h2, ⟨[1], cgp_val fun x => by rw [pval_add, pval_mul, pval_mul, pval_nil, pval_one]; omega⟩, ?_, lg, ?_, .inl rfl, .inr (by simp; omega)⟩
  · obtain ⟨k, hk⟩ := hd.eq
    refine ⟨smulL (-1) (quoP p h g), smulL (-1) k, fun x => ?_⟩
    have h3 := hk x
    simp only [pval_add, pval_mul, pval_smul, pval_one] at h3 ⊢
    grind
  · rw [← gcdL_step h2 h97 hp hh hg (by omega), gcdL_comm h2 h97 hp hh hg]; exact h1
theorem eu_nonzero {p : Int} {g h a b u v : List Int} (h2 : 2 ≤ p) (h97 : p ≤ 97) (hp : PrimeP p) (e : EuP p g h a b u v) : b.length ≠ 0 := by
  intro h0
  have h1 := e.one
  rw [gcdL_end h0, (monP_is h2 h97 hp e.ma).2] at h1
  have := e.la
  omega
theorem mulL_none {f g : List Int} (h : f = [] ∨ g = []) : mulL f g = [] := by
  rw [mulL, if_pos (by rcases h with rfl | rfl <;> simp)]
theorem addL_len (f g : List Int) (k : Int) : (addL f g k).length = max f.length g.length := by rw [addL, tabL_length]
theorem eu_step {p : Int} {g h a b u v : List Int} (h2 : 2 ≤ p) (h97 : p ≤ 97) (hp : PrimeP p) (e : EuP p g h a b u v) (hb : 2 ≤ b.length) : EuP p g h b (remP p a b) v (redL p (addL u (mulL (quoP p a b) v) (-1))) := by
  have hd := divP_is h2 h97 hp e.ma e.mb (fun h0 => by rw [h0] at hb; simp at hb)
  have hp0 : 0 < p := by omega
  refine ⟨e.mb, hd.mr, e.mv, redL_mod hp0 _, e.ev, ?_, hb, ?_, ?_, ?_⟩
  · obtain ⟨k, hk⟩ := hd.eq
    obtain ⟨i, j, hj⟩ := e.eu
    obtain ⟨i', j', hj'⟩ := e.ev
    obtain ⟨m, hm⟩ := redL_cg p (addL u (mulL (quoP p a b) v) (-1))
    refine ⟨addL i (mulL (quoP p a b) i') (-1), addL (addL (addL j k (-1)) (mulL (quoP p a b) j') (-1)) (mulL h m) (-1), fun x => ?_⟩
    have f1 := hk x
    have f2 := hj x
    have f3 := hj' x
    have f4 := hm x
    simp only [pval_add, pval_mul] at f1 f2 f3 f4 ⊢
    generalize pval a x = A at *
    generalize pval b x = B at *
    generalize pval (quoP p a b) x = Q at *
    generalize pval (remP p a b) x = R at *
    generalize pval (redL p (addL u (mulL (quoP p a b) v) (-1))) x = W at *
    generalize pval h x = H at *
    generalize pval g x = G at *
    generalize pval u x = U at *
    generalize pval v x = V at *
    generalize pval i x = I at *
    generalize pval i' x = I' at *
    generalize pval j x = J at *
    generalize pval j' x = J' at *
    generalize pval k x = K at *
    generalize pval m x = M at *
    have f5 : R = A - B * Q - p * K := by omega
    rw [f5, f2, f3, f4]
    grind
  · rw [← gcdL_step h2 h97 hp e.ma e.mb (by omega)]; exact e.one
  · rcases e.lv with h0 | h0
    · exact .inl h0
    · right
      have := remP_len p a b
      have := hd.deg
      omega
  · by_cases h0 : (redL p (addL u (mulL (quoP p a b) v) (-1))).length = 0
    · exact .inl (nil_of h0)
    · right
      have h1 := redL_le p (addL u (mulL (quoP p a b) v) (-1))
      rw [addL_len] at h1
      have h3 : u.length = 0 ∨ u.length + b.length ≤ g.length + 1 := by rcases e.lu with h | h; (left; rw [h]; rfl); (right; exact h)
      have h4 : (mulL (quoP p a b) v).length = 0 ∨ (mulL (quoP p a b) v).length + b.length ≤ g.length + 1 := by
        by_cases hq : quoP p a b = []
        · left; rw [mulL_none (.inl hq)]; rfl
        · by_cases hv : v = []
          · left; rw [mulL_none (.inr hv)]; rfl
          · right
            have l1 := mulL_len _ _ hq hv
            have l2 := quoP_len p a b
            have l3 := e.lv.resolve_left hv
            have l4 : (quoP p a b).length ≠ 0 := fun h => hq (nil_of h)
            omega
      omega
theorem const_no {p c : Int} {g k : List Int} (hp : PrimeP p) (hg : ModP p g) (lg : 2 ≤ g.length) (hc : ModP p [c]) : ¬ CgP p [c] (mulL g k) := by
  intro h
  have hg0 : g ≠ [] := fun e => by rw [e] at lg; simp at lg
  have hk := no_div hp (modP_last hg hg0) (by omega) (r := [c]) (fun i hi => by rw [getD_out (by simp; omega)]; exact Int.dvd_zero _) (cgp_symm h)
  have h1 : CgP p k [] := cgp_of fun i => by simpa using hk i
  have h2 : CgP p [c] [] := cgp_trans (cgp_trans h (cgp_mul (cgp_refl p g) h1)) (cgp_val fun x => by rw [pval_mul, pval_nil, Int.mul_zero])
  have h3 := cgp_coef h2 0
  exact modP_last hc (by simp) (by simpa using h3)
/-- the end as impl has it: a number is left -/
theorem eu_end {p c : Int} {g h a u v : List Int} (h2 : 2 ≤ p) (h97 : p ≤ 97) (hp : PrimeP p) (hg : ModP p g) (lg : 2 ≤ g.length) (e : EuP p g h a [c] u v) : IsInvP p h g (quoP p v [c]) := by
  have hd := divP_is h2 h97 hp e.mv e.mb (by simp)
  have hr : remP p v [c] = [] := nil_of (by have := hd.deg; simp at this; simp [this])
  have hi := invP_dvd h2 h97 hp e.mb (by simp)
  simp only [List.length_singleton, Nat.sub_self, List.getD_cons_zero] at hi
  obtain ⟨t, ht⟩ := hi
  have HIV : invP p [c] = invP p [c] := rfl
  obtain ⟨iv, hiv⟩ : ∃ iv, invP p [c] = iv := ⟨_, rfl⟩
  rw [hiv] at ht
  obtain ⟨k, m, hm⟩ := e.ev
  refine ⟨hd.mq, ?_, ?_⟩
  · have l1 := quoP_len p v [c]
    simp only [List.length_singleton] at l1
    have l2 := e.la
    rcases e.lv with h0 | h0
    · exact absurd ⟨m, fun x => by have := hm x; simp only [pval_add, pval_mul, h0, pval_nil, pval_one] at this ⊢; omega⟩ (const_no hp hg lg e.mb (k := k))
    · omega
  · obtain ⟨n, hn⟩ := hd.eq
    refine ⟨smulL (-iv) k, addL (addL (smulL (-iv) (mulL h n)) (smulL (-t) (mulL h (quoP p v [c]))) 1) (addL (smulL t [1]) (smulL (-iv) m) 1) 1, fun x => ?_⟩
    have f1 := hm x
    have f2 := hn x
    rw [hr] at f2
    simp only [pval_add, pval_mul, pval_smul, pval_one, pval_nil] at f1 f2 ⊢
    generalize pval h x = H at *
    generalize pval g x = G at *
    generalize pval (quoP p v [c]) x = Q at *
    generalize pval v x = V at *
    generalize pval k x = K at *
    generalize pval m x = M at *
    generalize pval n x = N at *
    rw [f2] at f1
    grind
/-- the end as spec has it -/
theorem eu_end2 {p c : Int} {g h a u v : List Int} (h2 : 2 ≤ p) (h97 : p ≤ 97) (hp : PrimeP p) (hg : ModP p g) (lg : 2 ≤ g.length) (e : EuP p g h a [c] u v) : IsInvP p h g (remP p (prodL p v [bezX c p % p]) g) := by
  have hi := invP_dvd h2 h97 hp e.mb (by simp)
  simp only [List.length_singleton, Nat.sub_self, List.getD_cons_zero, invP] at hi
  obtain ⟨t, ht⟩ := hi
  generalize bezX c p % p = iv at *
  have hd := divP_is h2 h97 hp (redL_mod (by omega) (mulL v [iv])) hg (fun h0 => by rw [h0] at lg; simp at lg)
  obtain ⟨k, m, hm⟩ := e.ev
  obtain ⟨n, hn⟩ := hd.eq
  obtain ⟨r, hr⟩ := redL_cg p (mulL v [iv])
  refine ⟨hd.mr, hd.deg, addL (smulL (-iv) k) (mulL h (quoP p (prodL p v [iv]) g)) (-1), addL (addL (mulL h r) (mulL h n) (-1)) (addL (smulL t [1]) (smulL (-iv) m) 1) 1, fun x => ?_⟩
  have f1 := hm x
  have f2 := hn x
  have f3 := hr x
  simp only [pval_add, pval_mul, pval_smul, pval_one, prodL] at f1 f2 f3 ⊢
  generalize pval h x = H at *
  generalize pval g x = G at *
  generalize pval (quoP p (redL p (mulL v [iv])) g) x = Q at *
  generalize pval (remP p (redL p (mulL v [iv])) g) x = R at *
  generalize pval (redL p (mulL v [iv])) x = D at *
  generalize pval v x = V at *
  generalize pval k x = K at *
  generalize pval m x = M at *
  generalize pval n x = N at *
  generalize pval r x = RR at *
  have f4 : R = V * iv + p * RR - G * Q - p * N := by omega
  rw [f4]
  grind
/-! one step of a lift -/
/-- what the product lacks, divided by the power -/
def lackL (p q M : Int) (f a b : List Int) : List Int := redL p (tabL (redL M (addL f (prodL M a b) (-1))).length fun i => (redL M (addL f (prodL M a b) (-1))).getD i 0 / q)
noncomputable def lifX (p : Int) (g h c : List Int) : List Int := remP p (prodL p c (invL p h g)) g
/-- both of them a step on -/
noncomputable def stepF (p q M : Int) (f g h : List Int) (ab : List Int × List Int) : List Int × List Int :=
  (redL M (addL ab.1 (lifX p g h (lackL p q M f ab.1 ab.2)) q), redL M (addL ab.2 (lifX p h g (lackL p q M f ab.1 ab.2)) q))
noncomputable def lifN (p M : Int) (f g h : List Int) : Nat → List Int × List Int
  | 0 => (g, h)
  | k + 1 => stepF p (p ^ (k + 1)) M f g h (lifN p M f g h k)
/-- what impl adds to the second one is what spec adds -/
theorem second_same {p : Int} {g h c s t : List Int} (h2 : 2 ≤ p) (h97 : p ≤ 97) (hp : PrimeP p) (hg : ModP p g) (hh : ModP p h) (hc : ModP p c) (lg : 2 ≤ g.length) (lh : 2 ≤ h.length) (lc : c.length + 2 ≤ g.length + h.length) (hs : IsInvP p h g s) (ht : IsInvP p g h t) :
    quoP p (redL p (addL c (prodL p (remP p (prodL p c s) g) h) (-1))) g = remP p (prodL p c t) h := by
  have hp0 : 0 < p := by omega
  have g0 : g ≠ [] := fun e => by rw [e] at lg; simp at lg
  have h0 : h ≠ [] := fun e => by rw [e] at lh; simp at lh
  have d1 := divP_is h2 h97 hp (redL_mod hp0 (mulL c s)) hg g0
  have d2 := divP_is h2 h97 hp (redL_mod hp0 (mulL c t)) hh h0
  obtain ⟨x, hx⟩ : ∃ x, remP p (prodL p c s) g = x := ⟨_, rfl⟩
  have hx' : remP p (redL p (mulL c s)) g = x := hx
  rw [hx'] at d1
  rw [hx]
  have d3 := divP_is h2 h97 hp (redL_mod hp0 (addL c (prodL p x h) (-1))) hg g0
  obtain ⟨d, hd⟩ : ∃ d, redL p (addL c (prodL p x h) (-1)) = d := ⟨_, rfl⟩
  have hdm := redL_mod hp0 (addL c (prodL p x h) (-1))
  have hdc := redL_cg p (addL c (prodL p x h) (-1))
  have hdl := redL_le p (addL c (prodL p x h) (-1))
  rw [addL_len] at hdl
  rw [hd] at d3 hdm hdc hdl ⊢
  have hpl := prodL_len p x h
  have hxl := d1.deg
  obtain ⟨ks, es, hes⟩ := hs.eq
  obtain ⟨kt, et, het⟩ := ht.eq
  obtain ⟨e1, he1⟩ := d1.eq
  obtain ⟨e2, he2⟩ := redL_cg p (mulL c s)
  obtain ⟨e3, he3⟩ := redL_cg p (mulL x h)
  obtain ⟨e4, he4⟩ := hdc
  have hz : remP p d g = [] := by
    refine div_exact hp (modP_last hg g0) d3 (a := addL (mulL h (quoP p (redL p (mulL c s)) g)) (mulL c ks) (-1)) ?_
    refine ⟨addL (addL (mulL h (addL e1 e2 (-1))) (addL e4 e3 (-1)) 1) (mulL c es) (-1), fun y => ?_⟩
    have f1 := hes y
    have f2 := he1 y
    have f3 := he2 y
    have f4 := he3 y
    have f5 := he4 y
    simp only [pval_add, pval_mul, pval_one, prodL] at f1 f2 f3 f4 f5 ⊢
    generalize pval (quoP p (redL p (mulL c s)) g) y = Q at *
    generalize pval (redL p (mulL c s)) y = A at *
    generalize pval (redL p (mulL x h)) y = B at *
    generalize pval h y = H at *
    generalize pval g y = G at *
    generalize pval c y = C at *
    generalize pval s y = S at *
    generalize pval x y = X at *
    generalize pval d y = D at *
    generalize pval ks y = KS at *
    generalize pval es y = ES at *
    generalize pval e1 y = E1 at *
    generalize pval e2 y = E2 at *
    generalize pval e3 y = E3 at *
    generalize pval e4 y = E4 at *
    have f6 : X = C * S + p * E2 - G * Q - p * E1 := by omega
    rw [f5, f4, f6]
    grind
  have hq := quoP_len p d g
  rw [hz] at d3
  obtain ⟨e5, he5⟩ := d3.eq
  obtain ⟨e6, he6⟩ := redL_cg p (addL (mulL (quoP p d g) kt) (mulL x t) 1)
  have d4 : IsDiv p (mulL c t) h (redL p (addL (mulL (quoP p d g) kt) (mulL x t) 1)) (quoP p d g) := by
    refine ⟨redL_mod hp0 _, d3.mq, by omega, ?_⟩
    refine ⟨addL (addL (mulL (quoP p d g) et) (mulL t (addL (addL e5 e4 (-1)) e3 1)) 1) (mulL h e6) (-1), fun y => ?_⟩
    have f1 := het y
    have f4 := he3 y
    have f5 := he4 y
    have f6 := he5 y
    have f7 := he6 y
    simp only [pval_add, pval_mul, pval_one, pval_nil, prodL] at f1 f4 f5 f6 f7 ⊢
    generalize pval (redL p (addL (mulL (quoP p d g) kt) (mulL x t) 1)) y = W at *
    generalize pval (redL p (mulL x h)) y = B at *
    generalize pval (quoP p d g) y = Q at *
    generalize pval h y = H at *
    generalize pval g y = G at *
    generalize pval c y = C at *
    generalize pval t y = T at *
    generalize pval x y = X at *
    generalize pval d y = D at *
    generalize pval kt y = KT at *
    generalize pval et y = ET at *
    generalize pval e3 y = E3 at *
    generalize pval e4 y = E4 at *
    generalize pval e5 y = E5 at *
    generalize pval e6 y = E6 at *
    have f8 : C = G * Q + p * E5 - p * E4 + (X * H + p * E3) := by grind
    rw [f7, f8]
    grind
  exact (div_unique hp (modP_last hh h0) d4 d2 (cgp_symm (redL_cg p (mulL c t)))).2
/-! monic ones -/
theorem mulL_top (a b : List Int) (ha : 1 ≤ a.length) (hb : 1 ≤ b.length) : (mulL a b).getD (a.length + b.length - 2) 0 = a.getD (a.length - 1) 0 * b.getD (b.length - 1) 0 := by
  rw [mulL_getD]
  have h := mulP_one (p := 0) (f := a) (g := b) (n := a.length + b.length - 2) (t := a.length - 1) (by omega) a.length (fun j hj hn hne => by
    rw [getD_out (l := b) (by omega), Int.mul_zero]; exact Int.dvd_zero _)
  rw [if_pos (by omega), Int.zero_dvd, show a.length + b.length - 2 - (a.length - 1) = b.length - 1 by omega] at h
  omega
theorem len_of_top {M : Int} {l : List Int} {n : Nat} (h : l.length ≤ n + 1) (ht : (redL M l).getD n 0 ≠ 0) : (redL M l).length = n + 1 := by
  have h1 := redL_le M l
  by_cases h2 : n < (redL M l).length
  · omega
  · exact absurd (getD_out (by omega)) ht
theorem prod_top {M : Int} (h2 : 2 ≤ M) {a b : List Int} (ha : mncB a = true) (hb : mncB b = true) : (prodL M a b).length + 1 = a.length + b.length ∧ mncB (prodL M a b) = true := by
  obtain ⟨la, ta⟩ := mncB_of ha
  obtain ⟨lb, tb⟩ := mncB_of hb
  have ht : (prodL M a b).getD (a.length + b.length - 2) 0 = 1 := by
    rw [prodL, redL_getD, mulL_top a b la lb, ta, tb, Int.mul_one]; exact Int.emod_eq_of_lt (by omega) (by omega)
  have hl : (prodL M a b).length = a.length + b.length - 2 + 1 := len_of_top (by
    rw [mulL_len a b (fun e => by rw [e] at la; simp at la) (fun e => by rw [e] at lb; simp at lb)]; omega) (by rw [← prodL, ht]; omega)
  exact ⟨by omega, mncB_mk (by omega) (by rw [hl, Nat.add_sub_cancel]; exact ht)⟩
theorem add_top {M q : Int} (h2 : 2 ≤ M) {a x : List Int} (ha : mncB a = true) (hx : x.length < a.length) : (redL M (addL a x q)).length = a.length ∧ mncB (redL M (addL a x q)) = true := by
  obtain ⟨la, ta⟩ := mncB_of ha
  have ht : (redL M (addL a x q)).getD (a.length - 1) 0 = 1 := by
    rw [redL_getD, addL_getD, ta, getD_out (by omega), Int.mul_zero, Int.add_zero]; exact Int.emod_eq_of_lt (by omega) (by omega)
  have hl := len_of_top (M := M) (l := addL a x q) (n := a.length - 1) (by rw [addL_len]; omega) (by rw [ht]; omega)
  exact ⟨by omega, mncB_mk (by omega) (by rw [hl, Nat.add_sub_cancel]; exact ht)⟩
/-- a monic one keeps its degree by the prime -/
theorem red_top {p : Int} (h2 : 2 ≤ p) {f : List Int} (hf : mncB f = true) : (redL p f).length = f.length ∧ mncB (redL p f) = true := by
  obtain ⟨la, ta⟩ := mncB_of hf
  have ht : (redL p f).getD (f.length - 1) 0 = 1 := by rw [redL_getD, ta]; exact Int.emod_eq_of_lt (by omega) (by omega)
  have hl := len_of_top (M := p) (l := f) (n := f.length - 1) (by omega) (by rw [ht]; omega)
  exact ⟨by omega, mncB_mk (by omega) (by rw [hl, Nat.add_sub_cancel]; exact ht)⟩
/-- a pair -/
def twinB (p : Int) (f g h : List Int) : Bool := mncB g && (mncB h && (decide (1 < g.length) && (decide (1 < h.length) && (decide (prodL p g h = redL p f) && decide ((gcdL p g h).length = 1)))))
structure TwinOk (p : Int) (f g h : List Int) : Prop where
  mg : mncB g = true
  mh : mncB h = true
  lg : 2 ≤ g.length
  lh : 2 ≤ h.length
  prod : prodL p g h = redL p f
  one : (gcdL p g h).length = 1
theorem twinB_of {p : Int} {f g h : List Int} (e : twinB p f g h = true) : TwinOk p f g h := by
  simp only [twinB, Bool.and_eq_true, decide_eq_true_eq] at e
  obtain ⟨h1, h2, h3, h4, h5, h6⟩ := e
  exact ⟨h1, h2, h3, h4, h5, h6⟩
theorem pair_len {p : Int} (h2 : 2 ≤ p) {f g h : List Int} (hf : mncB f = true) (e : TwinOk p f g h) : f.length + 1 = g.length + h.length := by
  have h3 := (prod_top h2 e.mg e.mh).1
  rw [e.prod, (red_top h2 hf).1] at h3
  exact h3
/-- what stays true while a pair is lifted -/
structure LifI (M : Int) (g h a b : List Int) : Prop where
  ma : ModP M a
  mb : ModP M b
  la : a.length = g.length
  lb : b.length = h.length
  oa : mncB a = true
  ob : mncB b = true
theorem lack_len {p q M : Int} (hp : 0 < p) (h2 : 2 ≤ M) {f g h a b : List Int} (hf : mncB f = true) (hl : f.length + 1 = g.length + h.length) (e : LifI M g h a b) :
    (redL M (addL f (prodL M a b) (-1))).length + 2 ≤ g.length + h.length ∧ (lackL p q M f a b).length + 2 ≤ g.length + h.length ∧ ModP p (lackL p q M f a b) := by
  have ht := prod_top h2 e.oa e.ob
  have hla := (mncB_of e.oa).1
  have hlb := (mncB_of e.ob).1
  have la := e.la
  have lb := e.lb
  have h1 := redL_le M (addL f (prodL M a b) (-1))
  rw [addL_len] at h1
  have h0 : (redL M (addL f (prodL M a b) (-1))).getD (f.length - 1) 0 = 0 := by
    have e1 := (mncB_of hf).2
    have e2 := (mncB_of ht.2).2
    rw [redL_getD, addL_getD, e1, show f.length - 1 = (prodL M a b).length - 1 by omega, e2]; simp
  have hlast := (redL_mod (p := M) (by omega) (addL f (prodL M a b) (-1))).last
  have h3 : (redL M (addL f (prodL M a b) (-1))).length + 2 ≤ g.length + h.length := by
    by_cases h4 : (redL M (addL f (prodL M a b) (-1))).length = f.length
    · exfalso
      unfold lastB at hlast
      rw [h4, h0] at hlast
      have := (mncB_of hf).1
      simp at hlast
      rw [hlast] at this
      simp at this
    · omega
  refine ⟨h3, ?_, redL_mod hp _⟩
  have h5 := redL_le p (tabL (redL M (addL f (prodL M a b) (-1))).length fun i => (redL M (addL f (prodL M a b) (-1))).getD i 0 / q)
  rw [tabL_length] at h5
  unfold lackL
  omega
theorem modP_up {p M : Int} (h : p ≤ M) {f : List Int} (hf : ModP p f) : ModP M f := ⟨fun i => by have := hf.rng i; omega, hf.last⟩
theorem lifI_start {p M : Int} (h : p ≤ M) {f g h' : List Int} (hg : ModP p g) (hh : ModP p h') (e : TwinOk p f g h') : LifI M g h' g h' := ⟨modP_up h hg, modP_up h hh, rfl, rfl, e.mg, e.mh⟩
/-- what is known of a pair: its inverses -/
structure InvOk (p : Int) (g h : List Int) : Prop where
  s : IsInvP p h g (invL p h g)
  t : IsInvP p g h (invL p g h)
theorem lifX_len {p : Int} (h2 : 2 ≤ p) (h97 : p ≤ 97) (hp : PrimeP p) {g h c : List Int} (hg : ModP p g) (lg : 2 ≤ g.length) : (lifX p g h c).length < g.length ∧ ModP p (lifX p g h c) := by
  have d := divP_is h2 h97 hp (redL_mod (by omega) (mulL c (invL p h g))) hg (fun e => by rw [e] at lg; simp at lg)
  exact ⟨d.deg, d.mr⟩
theorem lifI_step {p q M : Int} (h2 : 2 ≤ p) (h97 : p ≤ 97) (hp : PrimeP p) (hM : 2 ≤ M) {f g h a b : List Int} (hg : ModP p g) (hh : ModP p h) (lg : 2 ≤ g.length) (lh : 2 ≤ h.length) (e : LifI M g h a b) :
    LifI M g h (stepF p q M f g h (a, b)).1 (stepF p q M f g h (a, b)).2 := by
  have x := (lifX_len h2 h97 hp (h := h) (c := lackL p q M f a b) hg lg).1
  have y := (lifX_len h2 h97 hp (h := g) (c := lackL p q M f a b) hh lh).1
  have A := add_top (q := q) hM e.oa (x := lifX p g h (lackL p q M f a b)) (by have := e.la; omega)
  have B := add_top (q := q) hM e.ob (x := lifX p h g (lackL p q M f a b)) (by have := e.lb; omega)
  exact ⟨redL_mod (by omega) _, redL_mod (by omega) _, by rw [← e.la]; exact A.1, by rw [← e.lb]; exact B.1, A.2, B.2⟩
theorem lifI_all {p M : Int} (h2 : 2 ≤ p) (h97 : p ≤ 97) (hp : PrimeP p) (hM : p ≤ M) {f g h : List Int} (hg : ModP p g) (hh : ModP p h) (e : TwinOk p f g h) : ∀ k, LifI M g h (lifN p M f g h k).1 (lifN p M f g h k).2
  | 0 => lifI_start hM hg hh e
  | k + 1 => lifI_step h2 h97 hp (by omega) hg hh e.lg e.lh (lifI_all h2 h97 hp hM hg hh e k)
end Go.Proofs.Ytbjkcoajabcibaa
namespace Go.Proofs.Ytbjkcoajabcibaa
set_option linter.unusedVariables false
set_option maxRecDepth 20000
set_option linter.unusedSimpArgs false
structure PP (p : Int) : Prop where
  two : 2 ≤ p
  top : p ≤ 97
  prime : PrimeP p
/-- d divides f -/
def Dv (p : Int) (d f : List Int) : Prop := ∃ k, CgP p f (mulL d k)
theorem dv_refl (p : Int) (f : List Int) : Dv p f f := ⟨[1], cgp_val fun x => by rw [pval_mul, pval_one, Int.mul_one]⟩
theorem dv_cg {p : Int} {d f g : List Int} (h : Dv p d f) (e : CgP p g f) : Dv p d g := by
  obtain ⟨k, hk⟩ := h; exact ⟨k, cgp_trans e hk⟩
theorem dv_trans {p : Int} {a b c : List Int} (h1 : Dv p a b) (h2 : Dv p b c) : Dv p a c := by
  obtain ⟨k, m, hk⟩ := h1
  obtain ⟨l, n, hl⟩ := h2
  refine ⟨mulL k l, addL (mulL m l) n 1, fun x => ?_⟩
  have e1 := hk x
  have e2 := hl x
  simp only [pval_mul, pval_add] at e1 e2 ⊢
  grind
theorem dv_left (p : Int) (a b : List Int) : Dv p a (mulL a b) := ⟨b, cgp_refl p _⟩
theorem dv_right (p : Int) (a b : List Int) : Dv p b (mulL a b) := ⟨a, cgp_val fun x => by rw [pval_mul, pval_mul, Int.mul_comm]⟩
structure IrrP (p : Int) (q : List Int) : Prop where
  mod : ModP p q
  mon : q.getD (q.length - 1) 0 = 1
  deg : 2 ≤ q.length
  irr : ∀ d, ModP p d → d.getD (d.length - 1) 0 = 1 → Dv p d q → d = [1] ∨ d = q
theorem IrrP.ne {p : Int} {q : List Int} (h : IrrP p q) : q ≠ [] := fun e => by have := h.deg; rw [e] at this; simp at this
theorem modP_one {p : Int} (hp : 2 ≤ p) : ModP p [1] := by
  refine ⟨fun i => ?_, by simp [lastB]⟩
  match i with
  | 0 => exact ⟨by simp, by simp; omega⟩
  | i + 1 => simp; omega
theorem IrrP.not_one {p : Int} (P : PP p) {q : List Int} (h : IrrP p q) : ¬ Dv p q [1] := fun ⟨k, hk⟩ => by
  have := multiple_le P.prime (modP_one P.two) h.mod (by simp) h.ne hk
  have h2 := h.deg
  simp at this; omega
/-- an irreducible one that divides a product divides one of both -/
theorem irr_prime {p : Int} (P : PP p) {q a b : List Int} (h : IrrP p q) (hd : Dv p q (mulL a b)) : Dv p q a ∨ Dv p q b := by
  have hp0 : 0 < p := by have := P.two; omega
  have ha := redL_mod hp0 a
  have G := gcdL_is P.two P.top P.prime h.mod ha
  have h0 : gcdL p q (redL p a) ≠ [] := fun e => h.ne ((gcd_zero hp0 h.mod ha G).1 e).1
  rcases h.irr _ G.mod (G.mon.resolve_left h0) G.left with e | e
  · right
    obtain ⟨u, v, k, hk⟩ := G.comb
    obtain ⟨c, m, hc⟩ := hd
    obtain ⟨n, hn⟩ := redL_cg p a
    rw [e] at hk
    refine ⟨addL (mulL b u) (mulL v c) 1, addL (addL (mulL v (mulL n b)) (mulL v m) 1) (mulL k b) 1, fun x => ?_⟩
    have e1 := hk x
    have e2 := hc x
    have e3 := hn x
    simp only [pval_mul, pval_add, pval_one] at e1 e2 e3 ⊢
    grind
  · left
    have hr := G.right
    rw [e] at hr
    exact dv_cg hr (cgp_symm (redL_cg p a))
theorem irr_same {p : Int} {q r : List Int} (h : IrrP p q) (h' : IrrP p r) (hd : Dv p q r) : q = r := by
  rcases h'.irr q h.mod h.mon hd with e | e
  · have := h.deg; rw [e] at this; simp at this
  · exact e
/-! powers and products -/
def powP (q : List Int) : Nat → List Int
  | 0 => [1]
  | n + 1 => mulL q (powP q n)
theorem pval_powP (q : List Int) (x : Int) : ∀ n, pval (powP q n) x = pval q x ^ n
  | 0 => by rw [powP, pval_one, Int.pow_zero]
  | n + 1 => by rw [powP, pval_mul, pval_powP q x n, Int.pow_succ, Int.mul_comm]
theorem cancel {p : Int} (P : PP p) {g a b : List Int} (hg : ModP p g) (h0 : g ≠ []) (h : CgP p (mulL g a) (mulL g b)) : CgP p a b := by
  have h1 : CgP p (mulL g (addL a b (-1))) [] := by
    obtain ⟨k, hk⟩ := h
    refine ⟨k, fun x => ?_⟩
    have := hk x
    simp only [pval_mul, pval_add, pval_nil] at this ⊢
    grind
  have h2 := no_div P.prime (modP_last hg h0) (by cases g with | nil => exact absurd rfl h0 | cons a b => simp) (r := []) (fun i _ => by simp) h1
  exact cgp_of fun i => by have := h2 i; rw [addL_getD] at this; rwa [show a.getD i 0 + -1 * b.getD i 0 = a.getD i 0 - b.getD i 0 by omega] at this
theorem cancel_pow {p : Int} (P : PP p) {g : List Int} (hg : ModP p g) (h0 : g ≠ []) : ∀ (n : Nat) {a b : List Int}, CgP p (mulL (powP g n) a) (mulL (powP g n) b) → CgP p a b
  | 0, a, b, h => by
    refine cgp_trans (cgp_val fun x => ?_) (cgp_trans h (cgp_val fun x => ?_)) <;> rw [pval_mul, powP, pval_one, Int.one_mul]
  | n + 1, a, b, h => by
    refine cancel_pow P hg h0 n (cancel P hg h0 (cgp_trans (cgp_val fun x => ?_) (cgp_trans h (cgp_val fun x => ?_)))) <;> simp only [powP, pval_mul, Int.mul_assoc]
theorem dv_powP {p : Int} (P : PP p) {q a : List Int} (h : IrrP p q) : ∀ n, Dv p q (powP a n) → Dv p q a
  | 0, hd => absurd hd (h.not_one P)
  | n + 1, hd => (irr_prime P h hd).elim id (dv_powP P h n)
def prodF : List (List Int × Nat) → List Int
  | [] => [1]
  | x :: l => mulL (powP x.1 x.2) (prodF l)
theorem pval_prodF (l m : List (List Int × Nat)) (x : Int) : pval (prodF (l ++ m)) x = pval (prodF l) x * pval (prodF m) x := by
  induction l with
  | nil => rw [List.nil_append, prodF, pval_one, Int.one_mul]
  | cons a l ih => rw [List.cons_append, prodF, prodF, pval_mul, pval_mul, ih, Int.mul_assoc]
theorem dv_prodF {p : Int} (P : PP p) {q : List Int} (h : IrrP p q) : ∀ l, Dv p q (prodF l) → ∃ x, x ∈ l ∧ Dv p q x.1
  | [], hd => absurd hd (h.not_one P)
  | x :: l, hd => by
    rcases irr_prime P h hd with h1 | h1
    · exact ⟨x, by simp, dv_powP P h x.2 h1⟩
    · obtain ⟨y, hy, h2⟩ := dv_prodF P h l h1
      exact ⟨y, by simp [hy], h2⟩
/-! the order -/
def cmpN (f g : List Int) : Nat → Int
  | 0 => 0
  | k + 1 => if f.getD k 0 < g.getD k 0 then -1 else if f.getD k 0 > g.getD k 0 then 1 else cmpN f g k
def cmpL (f g : List Int) : Int := if f.length < g.length then -1 else if f.length > g.length then 1 else cmpN f g f.length
theorem cmpN_swap (f g : List Int) : ∀ k, cmpN g f k = -cmpN f g k
  | 0 => rfl
  | k + 1 => by
    rw [cmpN, cmpN, cmpN_swap f g k]
    split <;> split <;> (try split) <;> omega
theorem cmpL_swap (f g : List Int) : cmpL g f = -cmpL f g := by
  unfold cmpL
  by_cases h1 : f.length < g.length
  · rw [if_neg (by omega), if_pos (by omega), if_pos h1]; rfl
  · by_cases h2 : f.length > g.length
    · rw [if_pos h2, if_neg h1, if_pos h2]
    · rw [if_neg h2, if_neg h1, if_neg h1, if_neg h2, show g.length = f.length by omega]; exact cmpN_swap f g _
theorem cmpN_zero {f g : List Int} : ∀ k, cmpN f g k = 0 → ∀ i, i < k → f.getD i 0 = g.getD i 0
  | 0, _, i, hi => absurd hi (by omega)
  | k + 1, h, i, hi => by
    rw [cmpN] at h
    split at h
    · omega
    · split at h
      · omega
      · by_cases e : i = k
        · subst e; omega
        · exact cmpN_zero k h i (by omega)
theorem cmpL_zero {f g : List Int} (h : cmpL f g = 0) : f = g := by
  unfold cmpL at h
  split at h
  · omega
  · split at h
    · omega
    · refine List.ext_getElem (by omega) fun i h1 h2 => ?_
      have := cmpN_zero _ h i h1
      rw [List.getD, List.getD, List.getElem?_eq_getElem h1, List.getElem?_eq_getElem h2] at this
      exact this
def ltP (f g : List Int) : Prop := cmpL f g = -1
theorem ltP_asymm {f g : List Int} (h : ltP f g) : ¬ ltP g f := fun h' => by unfold ltP at *; rw [cmpL_swap] at h'; omega
theorem ltP_irrefl (f : List Int) : ¬ ltP f f := fun h => ltP_asymm h h
def Ordered (l : List (List Int × Nat)) : Prop := l.Pairwise fun a b => ltP a.1 b.1
theorem ordered_same : ∀ {l m : List (List Int × Nat)}, Ordered l → Ordered m → (∀ x, x ∈ l ↔ x ∈ m) → l = m
  | [], [], _, _, _ => rfl
  | [], y :: m, _, _, h => absurd ((h y).2 (by simp)) (by simp)
  | x :: l, [], _, _, h => absurd ((h x).1 (by simp)) (by simp)
  | x :: l, y :: m, hl, hm, h => by
    have hl' := List.pairwise_cons.1 hl
    have hm' := List.pairwise_cons.1 hm
    have e : x = y := by
      have h1 := (h x).1 (by simp)
      have h2 := (h y).2 (by simp)
      rcases List.mem_cons.1 h1 with h1 | h1
      · exact h1
      · rcases List.mem_cons.1 h2 with h2 | h2
        · exact h2.symm
        · exact absurd (hl'.1 y h2) (ltP_asymm (hm'.1 x h1))
    subst e
    rw [ordered_same hl'.2 hm'.2 fun z => ?_]
    constructor
    · intro hz
      rcases List.mem_cons.1 ((h z).1 (by simp [hz])) with e | e
      · exact absurd (hl'.1 z hz) (by rw [e]; exact ltP_irrefl _)
      · exact e
    · intro hz
      rcases List.mem_cons.1 ((h z).2 (by simp [hz])) with e | e
      · exact absurd (hm'.1 z hz) (by rw [e]; exact ltP_irrefl _)
      · exact e
/-- the factors of f, in order -/
structure IsFac (p : Int) (f : List Int) (l : List (List Int × Nat)) : Prop where
  irr : ∀ x, x ∈ l → IrrP p x.1 ∧ 1 ≤ x.2
  ord : Ordered l
  eq : CgP p f (prodF l)
theorem pow_le_dv {p : Int} {q f : List Int} {m n : Nat} (h : m ≤ n) (hd : Dv p (powP q n) f) : Dv p (powP q m) f := by
  refine dv_trans ⟨powP q (n - m), cgp_val fun x => ?_⟩ hd
  rw [pval_mul, pval_powP, pval_powP, pval_powP, ← Int.pow_add, show m + (n - m) = n by omega]
/-- who is in the list: the irreducible ones that divide, each with the number of times -/
theorem fac_mem {p : Int} (P : PP p) {f : List Int} {l : List (List Int × Nat)} (F : IsFac p f l) (q : List Int) (t : Nat) :
    (q, t) ∈ l ↔ IrrP p q ∧ 1 ≤ t ∧ Dv p (powP q t) f ∧ ¬ Dv p (powP q (t + 1)) f := by
  have fwd : ∀ q t, (q, t) ∈ l → IrrP p q ∧ 1 ≤ t ∧ Dv p (powP q t) f ∧ ¬ Dv p (powP q (t + 1)) f := by
    intro q t hm
    obtain ⟨hq, ht⟩ := F.irr _ hm
    simp only at hq ht
    obtain ⟨l1, l2, e⟩ := List.append_of_mem hm
    have hO := F.ord
    rw [e] at hO
    have hO2 := List.pairwise_append.1 hO
    have hO3 := List.pairwise_cons.1 hO2.2.1
    have hE : CgP p f (mulL (powP q t) (prodF (l1 ++ l2))) := cgp_trans F.eq (cgp_val fun x => by
      rw [e, pval_prodF, pval_mul, pval_prodF, prodF, pval_mul]
      simp only
      grind)
    refine ⟨hq, ht, ⟨_, hE⟩, fun ⟨k, hk⟩ => ?_⟩
    have h1 : CgP p (mulL (powP q t) (prodF (l1 ++ l2))) (mulL (powP q t) (mulL q k)) := cgp_trans (cgp_symm hE) (cgp_trans hk (cgp_val fun x => by
      rw [powP, pval_mul, pval_mul, pval_mul, pval_mul]; grind))
    obtain ⟨y, hy, hd⟩ := dv_prodF P hq _ ⟨k, cancel_pow P hq.mod hq.ne t h1⟩
    have hyl : y ∈ l := by
      rw [e]
      rcases List.mem_append.1 hy with h | h <;> simp [h]
    have hs := irr_same hq (F.irr y hyl).1 hd
    rcases List.mem_append.1 hy with h | h
    · have := hO2.2.2 y h (q, t) (by simp)
      simp only [← hs] at this
      exact ltP_irrefl _ this
    · have := hO3.1 y h
      simp only [← hs] at this
      exact ltP_irrefl _ this
  refine ⟨fwd q t, fun ⟨hq, ht, h1, h2⟩ => ?_⟩
  have h3 : Dv p q f := dv_trans ⟨[1], cgp_val fun x => by simp only [pval_mul, pval_powP, pval_one]; rw [Int.pow_succ, Int.pow_zero]; omega⟩ (pow_le_dv (m := 1) ht h1)
  obtain ⟨y, hy, hd⟩ := dv_prodF P hq l (dv_cg h3 (cgp_symm F.eq))
  have hs := irr_same hq (F.irr y hy).1 hd
  obtain ⟨y1, y2⟩ := y
  simp only at hs
  subst hs
  obtain ⟨_, g1, g2, g3⟩ := fwd _ _ hy
  have e : t = y2 := by
    rcases Nat.lt_trichotomy t y2 with h | h | h
    · exact absurd (pow_le_dv h g2) h2
    · exact h
    · exact absurd (pow_le_dv h h1) g3
  rw [e]; exact hy
/-- FACTORS ARE TOLD IN ONE WAY ONLY -/
theorem fac_unique {p : Int} (P : PP p) {f : List Int} {l m : List (List Int × Nat)} (h : IsFac p f l) (h' : IsFac p f m) : l = m :=
  ordered_same h.ord h'.ord fun x => by obtain ⟨q, t⟩ := x; rw [fac_mem P h, fac_mem P h']
end Go.Proofs.Ytbjkcoajabcibaa
namespace Go.Proofs.Ytbjkcoajabcibaa
set_option linter.unusedVariables false
set_option maxRecDepth 20000
set_option linter.unusedSimpArgs false
theorem top_mul {p : Int} (hp : PrimeP p) {a b : List Int} (ha : a ≠ []) (hb : b ≠ []) : p ∣ (mulL a b).getD (a.length + b.length - 2) 0 - a.getD (a.length - 1) 0 * b.getD (b.length - 1) 0 := by
  have h1 : a.length ≠ 0 := fun e => ha (nil_of e)
  have h2 : b.length ≠ 0 := fun e => hb (nil_of e)
  rw [mulL_getD]
  have := mulP_one (p := p) (f := a) (g := b) (n := a.length + b.length - 2) (t := a.length - 1) (by omega) a.length (fun j hj hn hne => by
    rw [getD_out (l := b) (by omega), Int.mul_zero]; exact Int.dvd_zero _)
  rw [if_pos (by omega), show a.length + b.length - 2 - (a.length - 1) = b.length - 1 by omega] at this
  exact this
/-- the degree of a product -/
theorem prod_len {p : Int} (hp : PrimeP p) {a b : List Int} (ha : ModP p a) (hb : ModP p b) (h1 : a ≠ []) (h2 : b ≠ []) : (prodL p a b).length = a.length + b.length - 1 := by
  have l1 : a.length ≠ 0 := fun e => h1 (nil_of e)
  have l2 : b.length ≠ 0 := fun e => h2 (nil_of e)
  have ht := top_mul hp h1 h2
  have hn : ¬ p ∣ (mulL a b).getD (a.length + b.length - 2) 0 := fun h => by
    have h3 : p ∣ a.getD (a.length - 1) 0 * b.getD (b.length - 1) 0 := by
      obtain ⟨c, hc⟩ := h
      obtain ⟨d, hd⟩ := ht
      exact ⟨c - d, by rw [Int.mul_sub]; omega⟩
    rcases hp.2 _ _ h3 with h | h
    · exact modP_last ha h1 h
    · exact modP_last hb h2 h
  refine Nat.le_antisymm (prodL_len p a b) ?_
  by_cases hl : a.length + b.length - 1 ≤ (prodL p a b).length
  · exact hl
  · exfalso
    have h3 := redL_getD p (mulL a b) (a.length + b.length - 2)
    rw [show redL p (mulL a b) = prodL p a b from rfl, getD_out (by omega)] at h3
    exact hn (Int.dvd_of_emod_eq_zero h3.symm)
theorem prod_ne {p : Int} (hp : PrimeP p) {a b : List Int} (ha : ModP p a) (hb : ModP p b) (h1 : a ≠ []) (h2 : b ≠ []) : prodL p a b ≠ [] := fun e => by
  have := prod_len hp ha hb h1 h2
  have l1 : a.length ≠ 0 := fun e => h1 (nil_of e)
  have l2 : b.length ≠ 0 := fun e => h2 (nil_of e)
  rw [e] at this; simp at this; omega
theorem prod_mon {p : Int} (hp : PrimeP p) {a b : List Int} (ha : ModP p a) (hb : ModP p b) (h1 : a ≠ []) (h2 : b ≠ []) (ma : a.getD (a.length - 1) 0 = 1) (mb : b.getD (b.length - 1) 0 = 1) : (prodL p a b).getD ((prodL p a b).length - 1) 0 = 1 := by
  have l1 : a.length ≠ 0 := fun e => h1 (nil_of e)
  have l2 : b.length ≠ 0 := fun e => h2 (nil_of e)
  have ht := top_mul hp h1 h2
  rw [ma, mb] at ht
  have h3 := redL_getD p (mulL a b) (a.length + b.length - 2)
  rw [show redL p (mulL a b) = prodL p a b from rfl] at h3
  rw [prod_len hp ha hb h1 h2, show a.length + b.length - 1 - 1 = a.length + b.length - 2 by omega, h3]
  have h4 := Int.emod_emod_of_dvd ((mulL a b).getD (a.length + b.length - 2) 0) (Int.dvd_refl p)
  have hp2 := hp.1
  refine mod_same (p := p) ⟨Int.emod_nonneg _ (by omega), Int.emod_lt_of_pos _ (by omega)⟩ ⟨by omega, by omega⟩ ?_
  obtain ⟨c, hc⟩ := ht
  have h5 := Int.emod_add_mul_ediv ((mulL a b).getD (a.length + b.length - 2) 0) p
  exact ⟨c - ((mulL a b).getD (a.length + b.length - 2) 0) / p, by rw [Int.mul_sub]; omega⟩
/-! derivatives -/
theorem derL_getD (f : List Int) (i : Nat) : (derL f).getD i 0 = ((i : Int) + 1) * f.getD (i + 1) 0 := by
  rw [derL]
  by_cases h : i < f.length - 1
  · rw [tabL_getD h]
  · rw [tabL_out (by omega), getD_out (l := f) (by omega), Int.mul_zero]
theorem pval_cons (a : Int) (l : List Int) (x : Int) : pval (a :: l) x = a + x * pval l x := by
  have : pval (a :: l) x = pval (addL [a] (0 :: l) 1) x := pval_same x fun i => by
    rw [addL_getD]
    cases i with
    | zero => simp
    | succ i => simp
  rw [this, pval_add, pval_one, pval_up, Int.one_mul]
theorem der_cons (a : Int) (l : List Int) (x : Int) : pval (derL (a :: l)) x = pval l x + x * pval (derL l) x := by
  have : pval (derL (a :: l)) x = pval (addL l (0 :: derL l) 1) x := pval_same x fun i => by
    rw [addL_getD, derL_getD, show (a :: l).getD (i + 1) 0 = l.getD i 0 by simp]
    cases i with
    | zero => simp
    | succ i => rw [show (0 :: derL l).getD (i + 1) 0 = (derL l).getD i 0 by simp, derL_getD]; push_cast; grind
  rw [this, pval_add, pval_up, Int.one_mul]
theorem taylor (x e : Int) : ∀ f : List Int, ∃ R, pval f (x + e) = pval f x + e * pval (derL f) x + e * e * R
  | [] => ⟨0, by rw [show derL [] = [] from rfl]; simp only [pval_nil]; omega⟩
  | a :: l => by
    obtain ⟨R, h⟩ := taylor x e l
    refine ⟨pval (derL l) x + x * R + e * R, ?_⟩
    rw [pval_cons, pval_cons, der_cons, h]
    grind
theorem far_zero {d : Int} (h : ∀ e : Int, e ≠ 0 → e ∣ d) : d = 0 := by
  have := h ((d.natAbs : Int) + 1) (by omega)
  refine Int.eq_zero_of_dvd_of_natAbs_lt_natAbs this (by omega)
theorem der_mul (f g : List Int) (x : Int) : pval (derL (mulL f g)) x = pval (derL f) x * pval g x + pval f x * pval (derL g) x := by
  have : pval (derL (mulL f g)) x - (pval (derL f) x * pval g x + pval f x * pval (derL g) x) = 0 := by
    refine far_zero fun e he => ?_
    obtain ⟨R, h⟩ := taylor x e (mulL f g)
    obtain ⟨S, h1⟩ := taylor x e f
    obtain ⟨T, h2⟩ := taylor x e g
    rw [pval_mul, pval_mul, h1, h2] at h
    refine ⟨pval f x * T + pval (derL f) x * pval (derL g) x + S * pval g x + e * (pval (derL f) x * T + S * pval (derL g) x) + e * e * (S * T) - R, ?_⟩
    refine Int.eq_of_mul_eq_mul_left he ?_
    grind
  omega
theorem der_cg {p : Int} {f g : List Int} (h : CgP p f g) : CgP p (derL f) (derL g) := cgp_of fun i => by
  obtain ⟨c, hc⟩ := cgp_coef h (i + 1)
  rw [derL_getD, derL_getD]
  exact ⟨((i : Int) + 1) * c, by grind⟩
theorem der_pow (q : List Int) (x : Int) : ∀ n : Nat, pval (derL (powP q (n + 1))) x = ((n : Int) + 1) * pval q x ^ n * pval (derL q) x
  | 0 => by rw [powP, der_mul, powP, show derL [1] = [] from rfl, pval_nil, pval_one]; simp
  | n + 1 => by
    rw [powP, der_mul, der_pow q x n, pval_powP, Int.pow_succ]
    push_cast
    grind
/-- no square of an irreducible one divides -/
def SqFree (p : Int) (f : List Int) : Prop := ∀ q, IrrP p q → ¬ Dv p (powP q 2) f
/-- some power does not divide -/
theorem pow_stop {p : Int} (P : PP p) {q : List Int} (h : IrrP p q) : ∀ (n : Nat) (c : List Int), c.length ≤ n → ModP p c → c ≠ [] → ∃ t, ¬ Dv p (powP q t) c
  | 0, c, hn, hc, h0 => absurd (nil_of (by omega)) h0
  | n + 1, c, hn, hc, h0 => by
    have hp0 : 0 < p := by have := P.two; omega
    by_cases hd : Dv p q c
    · obtain ⟨k, hk⟩ := hd
      have hk' : CgP p c (mulL q (redL p k)) := cgp_trans hk (cgp_mul (cgp_refl p q) (cgp_symm (redL_cg p k)))
      have hk0 : redL p k ≠ [] := fun e => h0 (modP_zero hc fun i => by
        have := cgp_coef hk' i
        rwa [e, mulL, if_pos (.inr rfl), show ([] : List Int).getD i 0 = 0 by simp, Int.sub_zero] at this)
      have e : c = prodL p q (redL p k) := modP_eq hc (redL_mod hp0 _) (cgp_trans hk' (cgp_symm (redL_cg p _)))
      have hl := prod_len P.prime h.mod (redL_mod hp0 k) h.ne hk0
      rw [← e] at hl
      have hdeg := h.deg
      obtain ⟨t, ht⟩ := pow_stop P h n (redL p k) (by omega) (redL_mod hp0 k) hk0
      refine ⟨t + 1, fun ⟨m, hm⟩ => ht ⟨m, cancel P h.mod h.ne (cgp_trans (cgp_symm hk') (cgp_trans hm (cgp_val fun x => ?_)))⟩⟩
      simp only [powP, pval_mul, Int.mul_assoc]
    · exact ⟨1, fun hh => hd (dv_trans ⟨[1], cgp_val fun x => by simp only [powP, pval_mul, pval_one, Int.mul_one]⟩ hh)⟩
/-- divided by what it has in common with its derivative it has no square -/
theorem part_free {p : Int} (P : PP p) {f c k : List Int} (hc0 : c ≠ []) (hG : IsGcd p f (redL p (derL f)) c) (hk : CgP p f (mulL c k)) : SqFree p k := fun q hq ⟨m, hm⟩ => by
  have key : ∀ n, Dv p (powP q n) c := by
    intro n
    induction n with
    | zero => exact ⟨c, cgp_val fun x => by rw [powP, pval_mul, pval_one, Int.one_mul]⟩
    | succ n ih =>
      obtain ⟨a, ha⟩ := ih
      have hf : CgP p f (mulL (powP q (n + 2)) (mulL a m)) := by
        refine cgp_trans hk (cgp_trans (cgp_mul ha hm) (cgp_val fun x => ?_))
        simp only [pval_mul, pval_powP]
        rw [Int.pow_add]; grind
      have hd := der_cg hf
      obtain ⟨u, v, w, hw⟩ := hG.comb
      obtain ⟨w1, h1⟩ := hf
      obtain ⟨w2, h2⟩ := hd
      obtain ⟨w3, h3⟩ := redL_cg p (derL f)
      refine ⟨addL (mulL u (mulL q (mulL a m))) (mulL v (addL (smulL ((n : Int) + 2) (mulL (derL q) (mulL a m))) (mulL q (derL (mulL a m))) 1)) 1, addL (addL w (mulL u w1) 1) (mulL v (addL w2 w3 1)) 1, fun x => ?_⟩
      have e := hw x
      have e1 := h1 x
      have e2 := h2 x
      have e3 := h3 x
      rw [der_mul, der_pow q x (n + 1)] at e2
      simp only [pval_add, pval_mul, pval_powP, pval_smul] at e e1 e2 e3 ⊢
      rw [Int.pow_succ, Int.pow_succ] at e1 e2
      push_cast at e2
      rw [Int.pow_succ]
      rw [e, e3, e2, e1]
      rw [Int.pow_succ]
      grind
  obtain ⟨t, ht⟩ := pow_stop P hq _ c (Nat.le_refl _) hG.mod hc0
  exact ht (key t)
end Go.Proofs.Ytbjkcoajabcibaa
namespace Go.Proofs.Ytbjkcoajabcibaa
set_option linter.unusedVariables false
set_option maxRecDepth 20000
set_option linter.unusedSimpArgs false
theorem binZ_succ (a b : Nat) : binZ (a + 1) (b + 1) = binZ a b + binZ a (b + 1) := by simp [binZ]
theorem bin_mul : ∀ n k : Nat, ((k : Int) + 1) * binZ (n + 1) (k + 1) = ((n : Int) + 1) * binZ n k
  | 0, k => by
    rw [binZ_succ, bin_out (a := 0) (b := k + 1) (by omega)]
    cases k with
    | zero => simp
    | succ k => rw [bin_out (by omega)]; simp
  | n + 1, 0 => by
    have h := bin_mul n 0
    rw [binZ_succ (n + 1) 0, bin_zero]
    rw [bin_zero] at h
    push_cast at h ⊢
    omega
  | n + 1, k + 1 => by
    have h1 := bin_mul n (k + 1)
    have h2 := bin_mul n k
    have h3 := binZ_succ n k
    rw [binZ_succ (n + 1) (k + 1)]
    push_cast at *
    generalize binZ (n + 1) (k + 1) = A at *
    generalize binZ (n + 1) (k + 1 + 1) = B at *
    generalize binZ n k = C at *
    generalize binZ n (k + 1) = D at *
    subst h3
    grind
theorem bin_dvd {p : Int} {P : Nat} (hp : PrimeP p) (hP : (P : Int) = p) {k : Nat} (h0 : 0 < k) (h1 : k < P) : p ∣ binZ P k := by
  obtain ⟨j, rfl⟩ : ∃ j, k = j + 1 := ⟨k - 1, by omega⟩
  obtain ⟨n, rfl⟩ : ∃ n, P = n + 1 := ⟨P - 1, by omega⟩
  have h := bin_mul n j
  have h2 : p ∣ ((j : Int) + 1) * binZ (n + 1) (j + 1) := ⟨binZ n j, by rw [h, ← hP]; push_cast; rfl⟩
  rcases hp.2 _ _ h2 with h3 | h3
  · exfalso
    have := Int.le_of_dvd (by omega) h3
    omega
  · exact h3
theorem binom (a b : Int) : ∀ n, (a + b) ^ n = sumZ (n + 1) fun k => binZ n k * (a ^ k * b ^ (n - k))
  | 0 => by simp [sumZ, bin_zero]
  | n + 1 => by
    have h := binom a b n
    rw [Int.pow_succ, h, sumZ_first (n + 1) (fun k => binZ (n + 1) k * (a ^ k * b ^ (n + 1 - k)))]
    have e1 : sumZ (n + 1) (fun k => binZ (n + 1) (k + 1) * (a ^ (k + 1) * b ^ (n + 1 - (k + 1)))) = sumZ (n + 1) (fun k => a * (binZ n k * (a ^ k * b ^ (n - k))) + 1 * (binZ n (k + 1) * (a ^ (k + 1) * b ^ (n + 1 - (k + 1))))) := sumZ_congr fun i hi => by
      rw [binZ_succ, show n + 1 - (i + 1) = n - i by omega, Int.pow_succ]; grind
    rw [e1, sumZ_lin]
    have e2 := sumZ_first (n + 1) (fun k => binZ n k * (a ^ k * b ^ (n + 1 - k)))
    have e3 : sumZ (n + 2) (fun k => binZ n k * (a ^ k * b ^ (n + 1 - k))) = sumZ (n + 1) (fun k => binZ n k * (a ^ k * b ^ (n + 1 - k))) := by
      rw [sumZ, bin_out (by omega)]; simp
    have e4 : sumZ (n + 1) (fun k => binZ n k * (a ^ k * b ^ (n + 1 - k))) = sumZ (n + 1) (fun k => b * (binZ n k * (a ^ k * b ^ (n - k))) + 0 * 0) := sumZ_congr fun i hi => by
      rw [show n + 1 - i = (n - i) + 1 by omega, Int.pow_succ]; grind
    rw [sumZ_lin b 0 (n + 1) (fun k => binZ n k * (a ^ k * b ^ (n - k))) (fun _ => 0)] at e4
    simp only [bin_zero, Nat.sub_zero, Int.pow_zero] at e2 ⊢
    generalize sumZ (n + 1) (fun k => binZ n k * (a ^ k * b ^ (n - k))) = S at *
    rw [e3, e4] at e2
    grind
/-- a sum of polynomials -/
def sumL : Nat → (Nat → List Int) → List Int
  | 0, _ => []
  | n + 1, F => addL (sumL n F) (F n) 1
theorem pval_sumL (F : Nat → List Int) (x : Int) : ∀ n, pval (sumL n F) x = sumZ n fun k => pval (F k) x
  | 0 => rfl
  | n + 1 => by rw [sumL, pval_add, pval_sumL F x n, sumZ, Int.one_mul]
theorem frob_add {p : Int} {P : Nat} (hp : PrimeP p) (hP : (P : Int) = p) (u v : List Int) : CgP p (powP (addL u v 1) P) (addL (powP u P) (powP v P) 1) := by
  obtain ⟨n, rfl⟩ : ∃ n, P = n + 1 := ⟨P - 1, by have := hp.1; omega⟩
  refine ⟨sumL n fun k => smulL (binZ (n + 1) (k + 1) / p) (mulL (powP u (k + 1)) (powP v (n - k))), fun x => ?_⟩
  rw [pval_powP, pval_add, Int.one_mul, binom, sumZ_first, sumZ, bin_self, bin_zero, pval_sumL, pval_add, pval_powP, pval_powP]
  have e : sumZ n (fun k => binZ (n + 1) (k + 1) * (pval u x ^ (k + 1) * pval v x ^ (n + 1 - (k + 1)))) = sumZ n (fun k => p * pval (smulL (binZ (n + 1) (k + 1) / p) (mulL (powP u (k + 1)) (powP v (n - k)))) x + 0 * 0) := sumZ_congr fun i hi => by
    have hd := Int.mul_ediv_cancel' (bin_dvd hp hP (k := i + 1) (by omega) (by omega))
    rw [pval_smul, pval_mul, pval_powP, pval_powP, show n + 1 - (i + 1) = n - i by omega]
    grind
  rw [sumZ_lin p 0 n (fun k => pval (smulL (binZ (n + 1) (k + 1) / p) (mulL (powP u (k + 1)) (powP v (n - k)))) x) (fun _ => 0)] at e
  rw [e]
  simp only [Nat.sub_self, Nat.sub_zero, Int.pow_zero]
  omega
theorem dvd_pow_sub {p x y : Int} (h : p ∣ x - y) : ∀ n : Nat, p ∣ x ^ n - y ^ n
  | 0 => by simp
  | n + 1 => by
    obtain ⟨c, hc⟩ := h
    obtain ⟨d, hd⟩ := dvd_pow_sub ⟨c, hc⟩ n
    exact ⟨c * x ^ n + y * d, by rw [Int.pow_succ, Int.pow_succ]; grind⟩
theorem fermatP_nat {p : Int} {P : Nat} (hp : PrimeP p) (hP : (P : Int) = p) : ∀ a : Nat, p ∣ (a : Int) ^ P - a
  | 0 => by
    obtain ⟨n, rfl⟩ : ∃ n, P = n + 1 := ⟨P - 1, by have := hp.1; omega⟩
    simp [Int.pow_succ]
  | a + 1 => by
    obtain ⟨c, hc⟩ := fermatP_nat hp hP a
    obtain ⟨w, hw⟩ := frob_add hp hP [(a : Int)] [1]
    have := hw 0
    rw [pval_powP, pval_add, pval_add, pval_powP, pval_powP, pval_one, pval_one, Int.one_mul, Int.one_pow, Int.one_mul] at this
    exact ⟨c + pval w 0, by push_cast; rw [this]; rw [Int.mul_add]; omega⟩
theorem fermatP {p : Int} {P : Nat} (hp : PrimeP p) (hP : (P : Int) = p) (a : Int) : p ∣ a ^ P - a := by
  have hp2 := hp.1
  have h0 := Int.emod_nonneg a (show p ≠ 0 by omega)
  obtain ⟨c, hc⟩ := fermatP_nat hp hP (a % p).toNat
  rw [Int.toNat_of_nonneg h0] at hc
  have h1 := Int.emod_add_mul_ediv a p
  obtain ⟨d, hd⟩ := dvd_pow_sub (p := p) (x := a) (y := a % p) ⟨a / p, by omega⟩ P
  exact ⟨c + d - a / p, by rw [Int.mul_sub, Int.mul_add]; omega⟩
/-- g of x to the p -/
def upX (P : Nat) : List Int → List Int
  | [] => []
  | a :: l => a :: (List.replicate (P - 1) 0 ++ upX P l)
theorem pval_zeros (h : List Int) (x : Int) : ∀ m, pval (List.replicate m 0 ++ h) x = x ^ m * pval h x
  | 0 => by simp
  | m + 1 => by rw [List.replicate_succ, List.cons_append, pval_up, pval_zeros h x m, Int.pow_succ]; grind
theorem pval_upX {P : Nat} (hP : 0 < P) (x : Int) : ∀ g, pval (upX P g) x = pval g (x ^ P)
  | [] => rfl
  | a :: l => by
    rw [upX, pval_cons, pval_cons, pval_zeros, pval_upX hP x l]
    obtain ⟨n, rfl⟩ : ∃ n, P = n + 1 := ⟨P - 1, by omega⟩
    rw [Nat.add_sub_cancel, Int.pow_succ]; grind
theorem upX_getD {P : Nat} (hP : 0 < P) : ∀ (g : List Int) (j : Nat), (upX P g).getD j 0 = if j % P = 0 then g.getD (j / P) 0 else 0
  | [], j => by simp [upX]
  | a :: l, j => by
    rw [upX]
    cases j with
    | zero => simp
    | succ j =>
      rw [show (a :: (List.replicate (P - 1) 0 ++ upX P l)).getD (j + 1) 0 = (List.replicate (P - 1) 0 ++ upX P l).getD j 0 by simp]
      by_cases h : j + 1 < P
      · rw [Nat.mod_eq_of_lt h, if_neg (by omega)]
        simp [List.getD, List.getElem?_append, show j < P - 1 by omega]
      · obtain ⟨m, rfl⟩ : ∃ m, j = m + (P - 1) := ⟨j - (P - 1), by omega⟩
        have e : m + (P - 1) + 1 = m + P := by omega
        rw [e, Nat.add_mod_right, Nat.add_div_right _ hP]
        rw [show (List.replicate (P - 1) (0 : Int) ++ upX P l).getD (m + (P - 1)) 0 = (upX P l).getD m 0 by
          simp [List.getD, List.getElem?_append, show ¬ m + (P - 1) < P - 1 by omega]]
        rw [upX_getD hP l m]
        simp
/-- powers by the prime itself -/
theorem frob {p : Int} {P : Nat} (hp : PrimeP p) (hP : (P : Int) = p) : ∀ g, CgP p (powP g P) (upX P g)
  | [] => cgp_val fun x => by
    obtain ⟨n, rfl⟩ : ∃ n, P = n + 1 := ⟨P - 1, by have := hp.1; omega⟩
    rw [pval_powP, pval_upX (by omega), pval_nil, pval_nil, Int.pow_succ, Int.mul_zero]
  | a :: l => by
    have hP0 : 0 < P := by have := hp.1; omega
    obtain ⟨w, hw⟩ := frob_add hp hP [a] (0 :: l)
    obtain ⟨v, hv⟩ := frob hp hP l
    obtain ⟨c, hc⟩ := fermatP hp hP a
    refine ⟨addL (addL w [c] 1) (mulL (xL P) v) 1, fun x => ?_⟩
    have e1 := hw x
    have e2 := hv x
    rw [pval_upX hP0] at e2 ⊢
    simp only [pval_add, pval_mul, pval_powP, pval_one, pval_up, pval_cons, pval_xL, pval_nil, Int.one_mul, Int.mul_zero, Int.add_zero, Int.zero_add] at e1 e2 ⊢
    rw [Int.mul_pow, e2] at e1
    rw [e1]
    grind
/-- a polynomial whose derivative is 0 is the power of another one -/
def rootX (P : Nat) (f : List Int) : List Int := tabL ((f.length + (P - 1)) / P) fun i => f.getD (i * P) 0
theorem der_none {p : Int} {P : Nat} (hp : PrimeP p) (hP : (P : Int) = p) {f : List Int} (hf : ModP p f) (h : ∀ i, p ∣ (derL f).getD i 0) : CgP p f (powP (rootX P f) P) := by
  have hP0 : 0 < P := by have := hp.1; omega
  refine cgp_trans (cgp_val fun x => pval_same x fun j => ?_) (cgp_symm (frob hp hP _))
  rw [upX_getD hP0]
  by_cases h0 : j % P = 0
  · rw [if_pos h0, rootX]
    have h1 : j / P * P = j := by have := Nat.div_add_mod j P; rw [Nat.mul_comm]; omega
    by_cases h2 : j / P < (f.length + (P - 1)) / P
    · rw [tabL_getD h2, h1]
    · rw [tabL_out (by omega), getD_out]
      have h3 : f.length + (P - 1) < (j / P + 1) * P := by
        rw [← Nat.div_lt_iff_lt_mul hP0]; omega
      rw [Nat.add_mul, h1] at h3
      omega
  · rw [if_neg h0]
    obtain ⟨i, rfl⟩ : ∃ i, j = i + 1 := ⟨j - 1, by have : j ≠ 0 := fun e => h0 (by rw [e]; simp); omega⟩
    have h1 := h i
    rw [derL_getD] at h1
    rcases hp.2 _ _ h1 with h2 | h2
    · exfalso
      rw [← hP] at h2
      have h3 : P ∣ i + 1 := by exact_mod_cast h2
      exact h0 (Nat.mod_eq_zero_of_dvd h3)
    · exact mod_same (hf.rng _) ⟨Int.le_refl _, by have := hp.1; omega⟩ (by rwa [Int.sub_zero])
end Go.Proofs.Ytbjkcoajabcibaa
namespace Go.Proofs.Ytbjkcoajabcibaa
set_option linter.unusedVariables false
set_option linter.unusedSimpArgs false
/-- the value by a modulus -/
def vM (m : Int) (f : List Int) (x : Int) : Int := evM m f x f.length
theorem vM_dvd (m : Int) (f : List Int) (x : Int) : m ∣ vM m f x - pval f x := by
  have h := evM_dvd m f x f.length
  have e : evalD f x f.length = pval f x := by
    rw [evalD_pv f x f.length (Nat.le_refl _)]
    unfold pval
    exact pv_congr fun i _ => by rw [Nat.sub_self, Nat.zero_add]
  rw [e] at h
  exact h
theorem vM_range {m : Int} (hm : 0 < m) (f : List Int) (x : Int) : 0 ≤ vM m f x ∧ vM m f x < m := by
  unfold vM
  cases hl : f.length with
  | zero => simp [evM]; exact hm
  | succ j => exact ⟨Int.emod_nonneg _ (by omega), Int.emod_lt_of_pos _ hm⟩
theorem vM_is {m : Int} (hm : 0 < m) (f : List Int) (x : Int) : vM m f x = pval f x % m := by
  obtain ⟨a, b⟩ := vM_range hm f x
  obtain ⟨c, hc⟩ := vM_dvd m f x
  rw [show pval f x = vM m f x + m * (-c) by grind, Int.add_mul_emod_self_left, Int.emod_eq_of_lt a b]
theorem vM_zero {m : Int} (hm : 0 < m) (f : List Int) (x : Int) : vM m f x = 0 ↔ m ∣ pval f x := by
  rw [vM_is hm]
  exact ⟨Int.dvd_of_emod_eq_zero, Int.emod_eq_zero_of_dvd⟩
/-- values of what is congruent are congruent -/
theorem pval_cong {m x y : Int} (h : m ∣ y - x) (f : List Int) : m ∣ pval f y - pval f x := by
  obtain ⟨R, hR⟩ := taylor x (y - x) f
  obtain ⟨c, hc⟩ := h
  rw [show x + (y - x) = y by omega] at hR
  rw [hR, hc]
  exact ⟨c * pval (derL f) x + c * (m * c) * R, by grind⟩
theorem vM_cong {m x y : Int} (hm : 0 < m) (h : m ∣ y - x) (f : List Int) : vM m f y = vM m f x := by
  rw [vM_is hm, vM_is hm]
  have := pval_cong h f
  exact Int.emod_eq_emod_iff_emod_sub_eq_zero.2 (Int.emod_eq_zero_of_dvd this)
/-- a power of a prime that divides a product one factor of which it is prime to -/
theorem pow_cancel {p c : Int} (hp : PrimeP p) (hc : ¬ p ∣ c) : ∀ (n : Nat) (e : Int), p ^ n ∣ e * c → p ^ n ∣ e
  | 0, e, _ => by rw [Int.pow_zero]; exact Int.one_dvd e
  | n + 1, e, h => by
    have hpe : p ∣ e * c := Int.dvd_trans ⟨p ^ n, by rw [Int.pow_succ, Int.mul_comm]⟩ h
    rcases hp.2 _ _ hpe with h1 | h1
    · obtain ⟨d, rfl⟩ := h1
      have h2 : p ^ n ∣ d * c := by
        obtain ⟨k, hk⟩ := h
        refine ⟨k, ?_⟩
        rw [Int.pow_succ] at hk
        have : p * (d * c) = p * (p ^ n * k) := by grind
        exact Int.eq_of_mul_eq_mul_left (by have := hp.1; omega) this
      obtain ⟨k, hk⟩ := pow_cancel hp hc n d h2
      exact ⟨k, by rw [hk, Int.pow_succ]; grind⟩
    · exact absurd h1 hc
/-- Hensel: only one root with that remainder -/
theorem hensel_one {p x y : Int} {n : Nat} {f : List Int} (hp : PrimeP p) (hxy : p ∣ y - x) (hd : ¬ p ∣ pval (derL f) x) (hx : p ^ n ∣ pval f x) (hy : p ^ n ∣ pval f y) : p ^ n ∣ y - x := by
  obtain ⟨R, hR⟩ := taylor x (y - x) f
  rw [show x + (y - x) = y by omega] at hR
  refine pow_cancel hp (c := pval (derL f) x + (y - x) * R) ?_ n (y - x) ?_
  · intro h
    obtain ⟨a, ha⟩ := h
    obtain ⟨b, hb⟩ := hxy
    exact hd ⟨a - b * R, by rw [hb] at ha; grind⟩
  · obtain ⟨a, ha⟩ := hx
    obtain ⟨b, hb⟩ := hy
    exact ⟨b - a, by rw [ha, hb] at hR; grind⟩
/-- a step of Newton -/
theorem newton_step {f : List Int} {x x' u M D q : Int} (hu : M ∣ u * pval (derL f) x - 1) (hq : q ∣ pval f x) (h1 : D ∣ M) (h2 : D ∣ q * q) (hx : M ∣ x' - (x - pval f x * u)) : D ∣ pval f x' := by
  obtain ⟨R, hR⟩ := taylor x (x' - x) f
  rw [show x + (x' - x) = x' by omega] at hR
  obtain ⟨a, ha⟩ := hu
  obtain ⟨b, hb⟩ := hq
  obtain ⟨c, hc⟩ := h1
  obtain ⟨d, hd⟩ := h2
  obtain ⟨t, ht⟩ := hx
  have e1 : x' - x = M * t - pval f x * u := by omega
  rw [hR, e1]
  have e2 : pval f x + (M * t - pval f x * u) * pval (derL f) x = M * (t * pval (derL f) x - pval f x * a) := by
    have : u * pval (derL f) x = 1 + M * a := by omega
    grind
  have e3 : (M * t - pval f x * u) * (M * t - pval f x * u) = M * (M * t * t - 2 * t * (pval f x * u)) + (q * q) * (b * b * (u * u)) := by rw [hb]; grind
  rw [e2, e3, hd, hc]
  exact ⟨c * (t * pval (derL f) x - pval f x * a) + (c * (D * c * t * t - 2 * t * (pval f x * u)) + d * (b * b * (u * u))) * R, by grind⟩
theorem newton_near {f : List Int} {x x' u M q : Int} (hq : q ∣ pval f x) (h1 : q ∣ M) (hx : M ∣ x' - (x - pval f x * u)) : q ∣ x' - x := by
  obtain ⟨b, hb⟩ := hq
  obtain ⟨c, hc⟩ := h1
  obtain ⟨t, ht⟩ := hx
  exact ⟨c * t - b * u, by rw [hc, hb] at ht; grind⟩
/-- the derivative stays prime to p -/
theorem der_stays {p x y : Int} {f : List Int} (h : p ∣ y - x) (hd : ¬ p ∣ pval (derL f) x) : ¬ p ∣ pval (derL f) y := by
  intro h2
  obtain ⟨a, ha⟩ := pval_cong h (derL f)
  obtain ⟨b, hb⟩ := h2
  exact hd ⟨b - a, by grind⟩
/-! lifts -/
def SimpleR (p : Int) (f : List Int) (a : Int) : Prop := p ∣ pval f a ∧ ¬ p ∣ pval (derL f) a
def LiftOf (p : Int) (n : Nat) (f : List Int) (a x : Int) : Prop := 0 ≤ x ∧ x < p ^ n ∧ p ∣ x - a ∧ p ^ n ∣ pval f x
theorem same_residue {m x y : Int} (hx : 0 ≤ x) (hx1 : x < m) (hy : 0 ≤ y) (hy1 : y < m) (h : m ∣ y - x) : x = y := by
  have e := Int.emod_eq_emod_iff_emod_sub_eq_zero.2 (Int.emod_eq_zero_of_dvd h)
  rw [Int.emod_eq_of_lt hx hx1, Int.emod_eq_of_lt hy hy1] at e
  exact e.symm
theorem lift_one {p a x y : Int} {n : Nat} {f : List Int} (hp : PrimeP p) (hs : SimpleR p f a) (hx : LiftOf p n f a x) (hy : LiftOf p n f a y) : x = y := by
  have hxy : p ∣ y - x := by
    obtain ⟨b, hb⟩ := hx.2.2.1
    obtain ⟨c, hc⟩ := hy.2.2.1
    exact ⟨c - b, by grind⟩
  exact same_residue hx.1 hx.2.1 hy.1 hy.2.1 (hensel_one hp hxy (der_stays hx.2.2.1 hs.2) hx.2.2.2 hy.2.2.2)
/-- a root that is a lift stays where it is -/
theorem lift_stays {p x u : Int} {n : Nat} {f : List Int} (h0 : 0 ≤ x) (h1 : x < p ^ n) (h : p ^ n ∣ pval f x) : (x - vM (p ^ n) f x * u) % p ^ n = x := by
  have hm : 0 < p ^ n := by omega
  rw [(vM_zero hm f x).2 h, Int.zero_mul, Int.sub_zero, Int.emod_eq_of_lt h0 h1]
/-- what holds on the way to a lift: p^k divides the value -/
def OnWay (p : Int) (n : Nat) (f : List Int) (a : Int) (k : Nat) (x : Int) : Prop := 0 ≤ x ∧ x < p ^ n ∧ p ∣ x - a ∧ p ^ k ∣ pval f x
theorem onway_start {p a : Int} {n : Nat} {f : List Int} (hp : 2 ≤ p) (hn : 1 ≤ n) (h0 : 0 ≤ a) (h1 : a < p) (hs : SimpleR p f a) : OnWay p n f a 1 a := by
  refine ⟨h0, ?_, by rw [Int.sub_self]; exact Int.dvd_zero p, by simpa [Int.pow_succ] using hs.1⟩
  obtain ⟨m, rfl⟩ : ∃ m, n = m + 1 := ⟨n - 1, by omega⟩
  have hq : ∀ m : Nat, 1 ≤ p ^ m := fun m => by
    induction m with
    | zero => simp
    | succ m ih => rw [Int.pow_succ]; have := Int.mul_le_mul_of_nonneg_left (show (1 : Int) ≤ p by omega) (show 0 ≤ p ^ m by omega); omega
  have := Int.mul_le_mul_of_nonneg_right (hq m) (show 0 ≤ p by omega)
  rw [Int.pow_succ]; omega
theorem pow_div {p : Int} {a b : Nat} (h : a ≤ b) : p ^ a ∣ p ^ b := ⟨p ^ (b - a), by rw [← Int.pow_add]; congr 1; omega⟩
/-- one step doubles what is right -/
theorem onway_step {p a x u : Int} {n k : Nat} {f : List Int} (hp : 2 ≤ p) (hk : 1 ≤ k) (hkn : k ≤ n) (h : OnWay p n f a k x) (hu : p ^ n ∣ u * vM (p ^ n) (derL f) x - 1) (hm : 0 < p ^ n) :
    OnWay p n f a (min (2 * k) n) ((x - vM (p ^ n) f x * u) % p ^ n) := by
  have hu2 : p ^ n ∣ u * pval (derL f) x - 1 := by
    obtain ⟨c, hc⟩ := hu
    obtain ⟨d, hd⟩ := vM_dvd (p ^ n) (derL f) x
    exact ⟨c - u * d, by grind⟩
  have hx : p ^ n ∣ (x - vM (p ^ n) f x * u) % p ^ n - (x - pval f x * u) := by
    obtain ⟨d, hd⟩ := vM_dvd (p ^ n) f x
    have e := Int.emod_add_mul_ediv (x - vM (p ^ n) f x * u) (p ^ n)
    exact ⟨-((x - vM (p ^ n) f x * u) / p ^ n) - d * u, by grind⟩
  refine ⟨Int.emod_nonneg _ (by omega), Int.emod_lt_of_pos _ hm, ?_, ?_⟩
  · have hn := newton_near h.2.2.2 (pow_div hkn) hx
    have hp1 : p ∣ p ^ k := by have := pow_div (p := p) hk; simpa [Int.pow_succ] using this
    obtain ⟨c, hc⟩ := Int.dvd_trans hp1 hn
    obtain ⟨d, hd⟩ := h.2.2.1
    exact ⟨c + d, by grind⟩
  · refine newton_step hu2 h.2.2.2 (pow_div (Nat.min_le_right _ _)) ?_ hx
    rw [← Int.pow_add]
    exact pow_div (by omega)
theorem onway_lift {p a x : Int} {n : Nat} {f : List Int} (h : OnWay p n f a n x) : LiftOf p n f a x := h
end Go.Proofs.Ytbjkcoajabcibaa
namespace Go.Proofs.Ytbjkcoajabcibaa
open Go.RowKit
set_option linter.unusedVariables false
/-- what holds at the head of a round -/
def BzRel (a b r x y s u v : Int) : Prop :=
  r.natAbs ≤ 1000000000000 ∧ s.natAbs ≤ 1000000000000 ∧ ∃ f, s.natAbs ≤ f ∧ bzF f r x y s u v = bzT a b
theorem bzRel_start {a b : Int} (ha1 : -1000000000000 ≤ a) (ha2 : a ≤ 1000000000000) (hb1 : -1000000000000 ≤ b) (hb2 : b ≤ 1000000000000) : BzRel a b a 1 0 b 0 1 :=
  ⟨by omega, by omega, b.natAbs, Nat.le_refl _, rfl⟩
theorem bzRel_step {a b r x y s u v : Int} (hs : s ≠ 0) (h : BzRel a b r x y s u v) :
    BzRel a b s u v (wrap64 (r - wrap64 (wrap64 (r.tdiv s) * s))) (wrap64 (x - wrap64 (wrap64 (r.tdiv s) * u))) (wrap64 (y - wrap64 (wrap64 (r.tdiv s) * v))) ∧
    (wrap64 (r - wrap64 (wrap64 (r.tdiv s) * s))).natAbs < s.natAbs := by
  obtain ⟨h1, h2, f, h3, h4⟩ := h
  rw [rem_step h1 h2]
  have h5 := tmod_le r s
  refine ⟨⟨h2, by omega, ?_⟩, tmod_lt r hs⟩
  match f, h3, h4 with
  | 0, h3, h4 => omega
  | f + 1, h3, h4 =>
    obtain ⟨e, hl⟩ := bzF_step (r := r) (x := x) (y := y) (u := u) (v := v) hs h3
    exact ⟨f, hl, by rw [← e, h4]⟩
theorem bzRel_end {a b r x y u v : Int} (h : BzRel a b r x y 0 u v) : bzT a b = (r, x, y) := by
  obtain ⟨_, _, f, _, h4⟩ := h; rw [← h4, bzF_zero]
theorem bez_neg {a b r x y u v : Int} (h : BzRel a b r x y 0 u v) (hr : r < 0) : wrap64 (-x) = bezX a b ∧ wrap64 (-y) = bezY a b := by
  have e := bzRel_end h; simp [bezX, bezY, e, hr]
theorem bez_pos {a b r x y u v : Int} (h : BzRel a b r x y 0 u v) (hr : 0 ≤ r) : x = bezX a b ∧ y = bezY a b := by
  have e := bzRel_end h; have : ¬ r < 0 := by omega
  simp [bezX, bezY, e, this]
theorem ret_int2 {k l : IntKind} {a b c d : Int} (h : a = b) (h' : c = d) : Ending.returned (.tuple #[.int k a, .int l c]) = .returned (.tuple #[.int k b, .int l d]) := by rw [h, h']
theorem ret_int3 {k l m : IntKind} {a b c d p q : Int} (h : a = b) (h' : c = d) (h'' : p = q) : Ending.returned (.tuple #[.int k a, .int l c, .int m p]) = .returned (.tuple #[.int k b, .int l d, .int m q]) := by rw [h, h', h'']
set_option maxHeartbeats 400000 in
theorem l01Bez_any (a b : Int) (w : World) (ha1 : -1000000000000 ≤ a) (ha2 : a ≤ 1000000000000) (hb1 : -1000000000000 ≤ b) (hb2 : b ≤ 1000000000000) :
    Calls Try.prog 185 #[.int .i64 a, .int .i64 b] w fun e w' => e = .returned (.tuple #[.int .i64 (bezX a b), .int .i64 (bezY a b)]) ∧ w = w' := by
  have HS := Lib.hid (bzRel_start ha1 ha2 hb1 hb2)
  clear ha1 ha2 hb1 hb2
  go_enter Try.func185, Try.ntmps185
  go_wp2
  go_loop [6, 7, 8, 9, 10, 11, 12] (fun r x y s u v q => ∃ r' x' y' s' u' v' : Int, r = .int .i64 r' ∧ x = .int .i64 x' ∧ y = .int .i64 y' ∧ s = .int .i64 s' ∧ u = .int .i64 u' ∧ v = .int .i64 v' ∧ BzRel a b r' x' y' s' u' v') (fun r x y s u v q => (intOf s).natAbs)
  case atStart => exact ⟨_, _, _, _, _, _, rfl, rfl, rfl, rfl, rfl, rfl, HS.out⟩
  case round =>
    obtain ⟨r, x, y, s, u, v, rfl, rfl, rfl, rfl, rfl, rfl, hr⟩ := hrel
    by_cases hs : s = 0
    · subst hs
      have H := Lib.hid hr
      clear hr HS
      by_cases hr0 : r < 0
      · go_wp2
        go_ret2
        exact ⟨ret_int2 (bez_neg H.out hr0).1 (bez_neg H.out hr0).2, rfl⟩
      · have hr1 : 0 ≤ r := by omega
        go_wp2
        go_ret2
        exact ⟨ret_int2 (bez_pos H.out hr1).1 (bez_pos H.out hr1).2, rfl⟩
    · have hs' : (s == 0) = false := by simpa using hs
      have hs'' : (s != 0) = true := by simpa using hs
      have H := Lib.hid (bzRel_step hs hr)
      clear hr HS
      go_wp2
      exact ⟨⟨_, _, _, _, _, _, rfl, rfl, rfl, rfl, rfl, rfl, H.out.1⟩, by simpa only [intOf] using H.out.2⟩
theorem implBez_no (a b : Int) (w : World) (h : valueB a = false ∨ valueB b = false) :
    Calls Try.prog 160 #[.int .i64 a, .int .i64 b] w fun e w' => e = .returned (.tuple #[.int .i64 0, .int .i64 0, .int .i64 2]) ∧ w = w' := by
  cases ha : valueB a
  · clear h
    go_enter Try.func160, Try.ntmps160
    go_wp2_with (go_at_call 181; refine (isValue_any _ _).mono ?_; rintro e w' ⟨rfl, rfl⟩)
    go_ret3
    exact ⟨rfl, rfl⟩
  · have hb : valueB b = false := by simpa [ha] using h
    clear h
    go_enter Try.func160, Try.ntmps160
    go_wp2_with (go_at_call 181; refine (isValue_any _ _).mono ?_; rintro e w' ⟨rfl, rfl⟩)
    go_ret3
    exact ⟨rfl, rfl⟩
set_option maxHeartbeats 400000 in
theorem implBez_val (a b : Int) (w : World) (ha : valueB a = true) (hb : valueB b = true) :
    Calls Try.prog 160 #[.int .i64 a, .int .i64 b] w fun e w' => e = .returned (.tuple #[.int .i64 (bezX a b), .int .i64 (bezY a b), .int .i64 0]) ∧ w = w' := by
  have ba := valueB_bd ha
  have bb := valueB_bd hb
  have HS := Lib.hid (bzRel_start ba.1 ba.2 bb.1 bb.2)
  clear ba bb
  go_enter Try.func160, Try.ntmps160
  go_wp2_with (go_at_call 181; refine (isValue_any _ _).mono ?_; rintro e w' ⟨rfl, rfl⟩)
  go_loop [7, 8, 9, 10, 11, 12, 13] (fun r x y s u v q => ∃ r' x' y' s' u' v' : Int, r = .int .i64 r' ∧ x = .int .i64 x' ∧ y = .int .i64 y' ∧ s = .int .i64 s' ∧ u = .int .i64 u' ∧ v = .int .i64 v' ∧ BzRel a b r' x' y' s' u' v') (fun r x y s u v q => (intOf s).natAbs)
  case atStart => exact ⟨_, _, _, _, _, _, rfl, rfl, rfl, rfl, rfl, rfl, HS.out⟩
  case round =>
    obtain ⟨r, x, y, s, u, v, rfl, rfl, rfl, rfl, rfl, rfl, hr⟩ := hrel
    by_cases hs : s = 0
    · subst hs
      have H := Lib.hid hr
      clear hr HS
      by_cases hr0 : r < 0
      · go_wp2
        go_ret3
        exact ⟨ret_int3 (bez_neg H.out hr0).1 (bez_neg H.out hr0).2 rfl, rfl⟩
      · have hr1 : 0 ≤ r := by omega
        go_wp2
        go_ret3
        exact ⟨ret_int3 (bez_pos H.out hr1).1 (bez_pos H.out hr1).2 rfl, rfl⟩
    · have hs' : (s == 0) = false := by simpa using hs
      have hs'' : (s != 0) = true := by simpa using hs
      have H := Lib.hid (bzRel_step hs hr)
      clear hr HS
      go_wp2
      exact ⟨⟨_, _, _, _, _, _, rfl, rfl, rfl, rfl, rfl, rfl, H.out.1⟩, by simpa only [intOf] using H.out.2⟩
end Go.Proofs.Ytbjkcoajabcibaa
namespace Go.Proofs.Ytbjkcoajabcibaa
open Go.RowKit
set_option linter.unusedVariables false
theorem basePrime_any (p : Int) (w : World) :
    Calls Try.prog 122 #[.int .i64 p] w fun e w' => e = .returned (.bool (smallB p)) ∧ w = w' := by
  by_cases h : p ≤ 97
  · have e : isPrimeB p = smallB p := by
      by_cases h2 : 2 ≤ p
      · rw [isPrimeB_in h2 (by omega), smallB_in h2 h]
      · rw [isPrimeB_out (by omega), smallB_out (by omega)]
    have E := Lib.hid e
    clear e
    go_enter Try.func122, Try.ntmps122
    go_wp2_with (go_at_call 157; refine (implIsPrime_any _ _).mono ?_; rintro e w' ⟨rfl, rfl⟩)
    go_ret
    exact ⟨ret_bool E.out, rfl⟩
  · rw [smallB_out (by omega)]
    go_enter Try.func122, Try.ntmps122
    go_wp2_with fail
    go_ret
    exact ⟨rfl, rfl⟩
theorem l01Small_any (p : Int) (w : World) :
    Calls Try.prog 111 #[.int .i64 p] w fun e w' => e = .returned (.bool (smallB p)) ∧ w = w' := by
  by_cases h : 2 ≤ p ∧ p ≤ 97
  · have e := inB_t h.1 h.2
    rw [smallB_in h.1 h.2]
    obtain ⟨h1, h2⟩ := h
    go_enter Try.func111, Try.ntmps111
    go_wp2_with (first | (go_at_call 102; refine (in_any _ _ _ _).mono ?_; rintro e w' ⟨rfl, rfl⟩) | (go_at_call 154; refine (l01Prime_any _ _ (by omega) (by omega)).mono ?_; rintro e w' ⟨rfl, rfl⟩))
    go_ret
    exact ⟨rfl, rfl⟩
  · have e : inB p 2 97 = false := inB_f (by omega)
    rw [smallB_out (by omega)]
    clear h
    go_enter Try.func111, Try.ntmps111
    go_wp2_with (go_at_call 102; refine (in_any _ _ _ _).mono ?_; rintro e w' ⟨rfl, rfl⟩)
    go_ret
    exact ⟨rfl, rfl⟩
set_option maxHeartbeats 400000 in
theorem l01Val_any (n p : Int) (w : World) (hp : 2 ≤ p) (h0 : n ≠ 0) (h1 : n.natAbs ≤ 1000000000000) :
    Calls Try.prog 133 #[.int .i64 n, .int .i64 p] w fun e w' => e = .returned (.int .i64 (valCount n p)) ∧ w = w' := by
  have HS := Lib.hid (vRel_start (p := p) h0 h1)
  clear h0 h1
  go_enter Try.func133, Try.ntmps133
  go_wp2
  go_loop [0, 5] (fun a c => ∃ m k : Int, a = .int .i64 m ∧ c = .int .i64 k ∧ VRel n p m k) (fun a _ => (intOf a).natAbs)
  case atStart => exact ⟨n, 0, rfl, rfl, HS.out⟩
  case round =>
    obtain ⟨m, k, rfl, rfl, hr⟩ := hrel
    have HR := Lib.hid hr
    have b0 := hr.2.1
    have b1 := hr.2.2.1
    have b2 := hr.2.2.2.1
    have b4 : (p == 0) = false := by simp; omega
    have b3 : k ≤ 4000000000000000000 := by
      obtain ⟨_, _, h, _, _, _⟩ := hr
      have : n.natAbs ≤ 1000000000000 := HS.out.2.2.2.1
      omega
    clear hr HS b1
    by_cases hm : m.tmod p = 0
    · have H := Lib.hid (vRel_step hp HR.out hm)
      have hm' : (m.tmod p == 0) = true := by simp [hm]
      clear hm
      go_wp2
      exact ⟨⟨_, _, rfl, rfl, H.out.1⟩, by simpa only [intOf] using H.out.2⟩
    · have H := Lib.hid (vRel_end HR.out hm)
      have hm' : (m.tmod p == 0) = false := by simp [hm]
      clear hm
      go_wp2
      go_ret
      exact ⟨ret_int H.out.1, rfl⟩
end Go.Proofs.Ytbjkcoajabcibaa
namespace Go.Proofs.Ytbjkcoajabcibaa
open Go.RowKit
set_option linter.unusedVariables false
set_option maxHeartbeats 400000 in
theorem implModulus_any (p n : Int) (w : World) :
    Calls Try.prog 72 #[.agg #[.int .i64 p, .int .i64 n]] w fun e w' => e = .returned (.int .i64 (ringM p n)) ∧ Below w.heap.size w w' := by
  cases hs : smallB p
  · rw [ringM_small hs]
    go_enter Try.func72, Try.ntmps72
    go_wp2_with (go_at_call 122; refine (basePrime_any _ _).mono ?_; rintro e w' ⟨rfl, rfl⟩)
    go_ret
    exact ⟨rfl, (Below.refl _ _).alloc (Nat.le_refl _) _⟩
  · by_cases hn : n < 1
    · rw [ringM_low hn]
      go_enter Try.func72, Try.ntmps72
      go_wp2_with (go_at_call 122; refine (basePrime_any _ _).mono ?_; rintro e w' ⟨rfl, rfl⟩)
      go_ret
      exact ⟨rfl, (Below.refl _ _).alloc (Nat.le_refl _) _⟩
    · obtain ⟨hp2, hp97⟩ := smallB_bd hs
      have HS := Lib.hid hs
      go_enter Try.func72, Try.ntmps72
      go_wp2_with (go_at_call 122; refine (basePrime_any _ _).mono ?_; rintro e w' ⟨rfl, rfl⟩)
      clear hs
      have hp0 : (p == 0) = false := by simp; omega
      go_loop [3, 15] (fun m i => ∃ M I : Int, m = .int .i64 M ∧ i = .int .i64 I ∧ MRel p I M ∧ I ≤ n) (fun _ i => 40 - (intOf i).toNat)
      case atStart => exact ⟨1, 0, rfl, rfl, mRel_start p, by omega⟩
      case round =>
        obtain ⟨M, I, rfl, rfl, hr, hin⟩ := hrel
        have h1 := mRel_prod hp2 hp97 hr
        have h2 := hr.1
        have h3 := hr.2.1
        have HR := Lib.hid hr
        clear hr
        by_cases hlt : I < n
        · by_cases ho : 1000000000 < M * p
          · have HE := Lib.hid (mRel_over hp2 HR.out ho hlt)
            have hov := (over_iff (m := M) hp2).2 ho
            go_wp2
            go_ret
            exact ⟨ret_int HE.out.symm, (Below.refl _ _).alloc (Nat.le_refl _) _⟩
          · have HE := Lib.hid (mRel_step hp2 hp97 HR.out (by omega))
            have hov : ¬ (1000000000 : Int) / p < M := fun h => ho ((over_iff (m := M) hp2).1 h)
            go_wp2
            exact ⟨⟨_, _, rfl, rfl, HE.out, by omega⟩, by simp only [intOf]; omega⟩
        · have HE := Lib.hid (mRel_end HS.out HR.out (show I = n by omega) (by omega))
          go_wp2
          go_ret
          exact ⟨ret_int HE.out.symm, (Below.refl _ _).alloc (Nat.le_refl _) _⟩
set_option maxHeartbeats 400000 in
theorem l02Modulus_any (p n : Int) (w : World) (hs : smallB p = true) (hn : 1 ≤ n) (hn2 : n ≤ 1000) :
    Calls Try.prog 70 #[.int .i64 p, .int .i64 n] w fun e w' => e = .returned (.int .i64 (ringM p n)) ∧ w = w' := by
  obtain ⟨hp2, hp97⟩ := smallB_bd hs
  have HS := Lib.hid hs
  clear hs
  go_enter Try.func70, Try.ntmps70
  go_wp2
  go_loop [1, 5] (fun i m => ∃ M I : Int, m = .int .i64 M ∧ i = .int .i64 (n - I) ∧ MRel p I M ∧ I ≤ n) (fun i _ => (intOf i).toNat)
  case atStart => exact ⟨1, 0, rfl, by simp, mRel_start p, by omega⟩
  case round =>
    obtain ⟨M, I, rfl, rfl, hr, hin⟩ := hrel
    have h1 := mRel_prod hp2 hp97 hr
    have h2 := hr.1
    have h3 := hr.2.1
    have HR := Lib.hid hr
    clear hr
    by_cases hlt : I < n
    · by_cases ho : 1000000000 < M * p
      · have HE := Lib.hid (mRel_over hp2 HR.out ho hlt)
        go_wp2
        go_ret
        exact ⟨ret_int HE.out.symm, rfl⟩
      · have HE := Lib.hid (mRel_step hp2 hp97 HR.out (by omega))
        go_wp2
        exact ⟨⟨_, _, rfl, by congr 1; omega, HE.out, by omega⟩, by simp only [intOf]; omega⟩
    · have HE := Lib.hid (mRel_end HS.out HR.out (show I = n by omega) (by omega))
      go_wp2
      go_ret
      exact ⟨ret_int HE.out.symm, rfl⟩
end Go.Proofs.Ytbjkcoajabcibaa
namespace Go.Proofs.Ytbjkcoajabcibaa
open Go.RowKit
set_option linter.unusedVariables false
set_option linter.unusedSimpArgs false
set_option maxRecDepth 20000
theorem cofB_cases (x : Int) : cofB x = true ∧ -1000000 ≤ x ∧ x ≤ 1000000 ∨ cofB x = false ∧ (x < -1000000 ∨ 1000000 < x) := inB_cases x _ _
def withB (B : Int) (l : List Int) : Bool := l.all fun x => inB x (-B) B
set_option maxHeartbeats 800000 in
theorem within_any (B : Int) (hB0 : 0 ≤ B) (hB1 : B ≤ 1000000) {o : Option Addr} {n c : Nat} {l : List Int} {w : World} (h : Seen w o n c l) :
    Calls Try.prog 140 #[.slice o n c, .int .i64 B] w fun e w' => e = .returned (.bool (withB B l)) ∧ w = w' := by
  obtain ⟨hl, hn, hno, hnc, g, h1, h2⟩ := h
  clear hno hnc
  have HO := Lib.hid fun h => (h1 h).1
  have HL := Lib.hid hl
  have HC := Lib.hid h2
  have hneg : IntKind.i64.wrap (-B) = -B := IntWalk.i64_in _ (by omega)
  clear h1 h2 hl
  go_enter Try.func140, Try.ntmps140
  go_wp2
  go_loop [9] (fun i => ∃ k : Nat, k ≤ n ∧ i = .int .i64 k ∧ (l.take k).all (fun x => inB x (-B) B) = true) (fun i => n - (intOf i).toNat)
  case atStart => exact ⟨0, Nat.zero_le _, rfl, by simp⟩
  case round =>
    obtain ⟨k, hk, rfl, hall⟩ := hrel
    by_cases hlt : k < n
    · have hkl : k < l.length := by have := HL.out; omega
      have hog := HO.out (by omega)
      subst hog
      have a2 := HC.out k hlt
      have HS := Lib.hid (all_take6 (f := fun x => inB x (-B) B) hkl)
      rcases inB_cases (l.getD k 0) (-B) B with ⟨hc, x0, x1⟩ | ⟨hc, x0⟩
      · have HE := Lib.hid (show (l.take (k + 1)).all (fun x => inB x (-B) B) = true by rw [HS.out, hall]; simpa using hc)
        generalize l.getD k 0 = x at *
        have x2 : ¬ x < -B := by omega
        have x3 : ¬ B < x := by omega
        clear hkl hall hc
        go_wp2
        exact ⟨⟨k + 1, by omega, by go_num, HE.out⟩, by simp [intOf]; omega⟩
      · have HP := Lib.hid (show withB B l = false by unfold withB; exact all_false hkl hc)
        generalize l.getD k 0 = x at *
        clear hkl hall hc
        rcases x0 with x0 | x0
        · go_wp2
          go_ret
          rw [HP.out]; exact ⟨rfl, rfl⟩
        · have x1 : ¬ x < -B := by omega
          go_wp2
          go_ret
          rw [HP.out]; exact ⟨rfl, rfl⟩
    · have hkn : k = n := by omega
      rw [hkn, HL.out, List.take_of_length_le (Nat.le_refl _)] at hall
      have HP := Lib.hid (show withB B l = true from hall)
      clear hlt hall
      subst hkn
      go_wp2
      go_ret
      rw [HP.out]; exact ⟨rfl, rfl⟩
theorem polyB_eq (l : List Int) : polyB l = (withB 1000000 l && (decide (l.length ≤ 9) && lastB l)) := rfl
def canB (l : List Int) : Bool := decide (l.length ≤ 9) && lastB l
set_option maxHeartbeats 800000 in
theorem canBe_any {o : Option Addr} {n c : Nat} {l : List Int} {w : World} (h : Seen w o n c l) :
    Calls Try.prog 139 #[.slice o n c] w fun e w' => e = .returned (.bool (canB l)) ∧ w = w' := by
  obtain ⟨hl, hn, hno, hnc, g, h1, h2⟩ := h
  clear hno hnc
  have HO := Lib.hid fun h => (h1 h).1
  have HL := Lib.hid hl
  have HC := Lib.hid h2
  clear h1 h2 hl
  by_cases h9 : n ≤ 9
  · by_cases h0 : n = 0
    · have HP := Lib.hid (show canB l = true by simp [canB, lastB, ← HL.out, h0])
      subst h0
      go_enter Try.func139, Try.ntmps139
      go_wp2_with fail
      go_ret
      rw [HP.out]; exact ⟨rfl, rfl⟩
    · have hog := HO.out (by omega)
      subst hog
      have a2 := HC.out (n - 1) (by omega)
      have HP := Lib.hid (show canB l = !(l.getD (n - 1) 0 == 0) by
        rw [HL.out] at h9 h0 ⊢
        simp only [canB, lastB, Bool.true_and, decide_eq_true h9, decide_eq_false h0, Bool.false_or])
      generalize l.getD (n - 1) 0 = x at *
      have h0' : ((n : Int) == 0) = false := by simp; omega
      have hn1 : (n : Int) - 1 = ((n - 1 : Nat) : Int) := by omega
      go_enter Try.func139, Try.ntmps139
      go_wp2_with fail
      go_ret
      rw [HP.out]; exact ⟨rfl, rfl⟩
  · have HP := Lib.hid (show canB l = false by
      have := HL.out
      rw [this] at h9
      simp only [canB, decide_eq_false h9, Bool.false_and])
    go_enter Try.func139, Try.ntmps139
    go_wp2_with fail
    go_ret
    rw [HP.out]; exact ⟨rfl, rfl⟩
theorem polyB_can (l : List Int) : polyB l = (canB l && withB 1000000 l) := by rw [polyB_eq]; unfold canB; exact Bool.and_comm _ _
theorem implIsPoly_any {o : Option Addr} {n c : Nat} {l : List Int} {w : World} (h : Seen w o n c l) :
    Calls Try.prog 100 #[.slice o n c] w fun e w' => e = .returned (.bool (polyB l)) ∧ w = w' := by
  have HS := Lib.hid h
  have HP := Lib.hid (polyB_can l)
  clear h
  cases hc : canB l
  · rw [hc] at HP
    go_enter Try.func100, Try.ntmps100
    go_wp2_with fail
    refine (canBe_any HS.out).mono ?_
    rw [hc]
    rintro e w2 ⟨rfl, rfl⟩
    go_wp2_with fail
    go_ret
    rw [HP.out]; exact ⟨rfl, rfl⟩
  · cases hw : withB 1000000 l
    all_goals
      rw [hc, hw] at HP
      go_enter Try.func100, Try.ntmps100
      go_wp2_with fail
      refine (canBe_any HS.out).mono ?_
      rw [hc]
      rintro e w2 ⟨rfl, rfl⟩
      go_wp2_with fail
      refine (within_any 1000000 (by omega) (by omega) HS.out).mono ?_
      rw [hw]
      rintro e w2 ⟨rfl, rfl⟩
      go_wp2_with fail
      go_ret
      rw [HP.out]; exact ⟨rfl, rfl⟩
theorem row_cut {b n c k : Nat} {o : Option Addr} {w : World} {l : List Int} (h : IntRow b w (.slice o n c) l) (hk : k ≤ n) : IntRow b w (.slice o k c) (l.take k) := by
  have hl : l.length = n := by
    obtain ⟨o', c', e⟩ : ∃ o' c', Value.slice o n c = .slice o' l.length c' := by
      rcases row_shape h with ⟨h0, _⟩ | ⟨_, g, c', e, _⟩
      · obtain ⟨_, h2⟩ := h
        rcases h2 with ⟨e, _⟩ | ⟨g, cap, cur, e, _⟩
        · injection e with e1 e2 e3; exact ⟨none, 0, by rw [e1, e2, e3, h0]⟩
        · exact ⟨_, _, e⟩
      · exact ⟨_, _, e⟩
    injection e with _ e2 _; exact e2.symm
  obtain ⟨h1, h2⟩ := h
  refine ⟨by simp, ?_⟩
  have hlt : (l.take k).length = k := by rw [List.length_take]; omega
  rcases h2 with ⟨e, h0⟩ | ⟨g, cap, cur, e, hb, hg, hnc, hm, hs, ht⟩
  · injection e with e1 e2 e3
    exact .inl ⟨by rw [e1, e3, show k = 0 by omega], by rw [hlt]; omega⟩
  · injection e with e1 e2 e3
    refine .inr ⟨g, cap, cur, by rw [e1, e3, hlt], hb, hg, by rw [hlt]; omega, hm, hs, ?_⟩
    rw [hlt, List.map_take, ← ht, List.take_take]
    congr 1; omega
set_option maxHeartbeats 800000 in
theorem trimmed_any {o : Option Addr} {n c : Nat} {l : List Int} {w : World} (h : Seen w o n c l) :
    Calls Try.prog 136 #[.slice o n c] w fun e w' => e = .returned (.slice o (trimN l l.length) c) ∧ w = w' := by
  obtain ⟨hl, hn, hno, hnc, g, h1, h2⟩ := h
  have HO := Lib.hid fun h => (h1 h).1
  have HL := Lib.hid hl
  have HC := Lib.hid h2
  have HNO := Lib.hid hno
  rw [← hl]
  clear h1 h2 hl hno
  go_enter Try.func136, Try.ntmps136
  go_wp2
  go_loop [3] (fun i => ∃ k : Nat, k ≤ n ∧ i = .int .i64 k ∧ trimN l k = trimN l n) (fun i => (intOf i).toNat)
  case atStart => exact ⟨n, Nat.le_refl _, rfl, rfl⟩
  case round =>
    obtain ⟨k, hk, rfl, ht⟩ := hrel
    by_cases h0 : k = 0
    · have HT := Lib.hid (show trimN l n = 0 by rw [← ht, h0]; rfl)
      clear ht
      subst h0
      cases o with
      | none =>
        have := HNO.out rfl
        go_wp2
        go_ret
        rw [HT.out]; exact ⟨rfl, rfl⟩
      | some a =>
        go_wp2
        go_ret
        rw [HT.out]; exact ⟨rfl, rfl⟩
    · have hog := HO.out (by omega)
      subst hog
      have a2 := HC.out (k - 1) (by omega)
      have HX := Lib.hid (show l.getD (k - 1) 0 = 0 → trimN l (k - 1) = trimN l n by intro h; rw [← ht]; rw [show k = k - 1 + 1 by omega]; exact (trimN_zero h).symm)
      have HY := Lib.hid (show l.getD (k - 1) 0 ≠ 0 → trimN l n = k by intro h; rw [← ht]; rw [show k = k - 1 + 1 by omega, trimN_stay h])
      have hk1 : (k : Int) - 1 = ((k - 1 : Nat) : Int) := by omega
      have hkc : k ≤ c := by omega
      generalize l.getD (k - 1) 0 = x at *
      clear ht
      by_cases hx : x = 0
      · have HX' := Lib.hid (HX.out hx)
        have hx' : (x == 0) = true := by simp [hx]
        clear hx
        go_wp2
        exact ⟨⟨k - 1, by omega, by go_num, HX'.out⟩, by simp [intOf]; omega⟩
      · have HY' := Lib.hid (HY.out hx)
        have hx' : (x == 0) = false := by simpa using hx
        clear hx HX HY
        go_wp2
        go_ret
        rw [HY'.out]; exact ⟨rfl, rfl⟩
theorem clone_any {g n c : Nat} {l : List Int} {w : World} (h : Seen w (some ⟨g, 0, none⟩) n c l) :
    Calls Try.prog 135 #[.slice (some ⟨g, 0, none⟩) n c] w (OwnPost l w) := by
  obtain ⟨hl, hn, hno, hnc, g', h1, h2⟩ := h
  obtain ⟨i0, hi, hz0, hz1, hz2⟩ := info_parts Try.infoInt64
  have HI := Lib.hid hi
  have HZ0 := Lib.hid hz0
  have HZ1 := Lib.hid hz1
  have HZ2 := Lib.hid hz2
  clear hi hz0 hz1 hz2
  have hrow := intRow_made w
  have hnil : (binOp .eql 26 (.slice (some ⟨g, 0, none⟩) n c) (.slice none 0 0)).run Try.prog w = .ok (.bool false) w := Lib.run_eql_slice_nil (P := Try.prog) w 26 2 (some ⟨g, 0, none⟩) n c 0 0 Try.underlying26
  by_cases h0 : n = 0
  · subst h0
    have e : l = [] := List.eq_nil_of_length_eq_zero hl.symm
    subst e
    have HR := Lib.hid hrow
    have HB := Lib.hid ((Below.refl w.heap.size w).alloc (Nat.le_refl _) (.cells #[] 2))
    clear hno hrow h1 h2 hl
    go_enter Try.func135, Try.ntmps135
    go_wp2_with (at_builtin; refine wpList_append_fits_any _ rfl (.tmp 5) (.tmp 6) 26 rfl w.heap.size 2 i0 1 Try.underlying26 HI.out HZ1.out w.heap.size 0 0 [] rfl HR.out _ 0 c [] rfl rfl (fun h => by cases h) (fun _ _ j u h => by simp at h) (fun u h => by simp at h) (by omega) ?_)
    intro w1 hown hgrow
    have HO := Lib.hid hown
    have HG := Lib.hid (HB.out.grown hgrow (by simp) (fun k hk => by cases hk; exact Nat.le_refl _))
    clear hown hgrow
    go_wp2
    go_ret
    exact ⟨_, rfl, HO.out, HG.out⟩
  · obtain ⟨hgg, hg⟩ := h1 (by omega)
    have hge : g = g' := by injection hgg with e; injection e
    subst hge
    have hnews : ∀ j u, (l.map (Value.int .i64))[j]? = some u → (w.alloc (.cells #[] 2)).cell? ((⟨g, 0, none⟩ : Addr).add j) = some u := by
      intro j u hj
      have hjl : j < n := by
        have := (List.getElem?_eq_some_iff.1 hj).1
        rw [List.length_map] at this; omega
      have e : (⟨g, 0, none⟩ : Addr).add j = ⟨g, j, none⟩ := by simp [Addr.add]; omega
      rw [e, ((Below.refl w.heap.size w).alloc (Nat.le_refl _) (.cells #[] 2)).cell (p := ⟨g, j, none⟩) hg, h2 j hjl]
      have hj2 : j < l.length := by omega
      simp [hj2] at hj
      rw [← hj]; simp [List.getD, hj2]
    have HN := Lib.hid hnews
    have HL := Lib.hid hl
    have HR := Lib.hid hrow
    have HB := Lib.hid ((Below.refl w.heap.size w).alloc (Nat.le_refl _) (.cells #[] 2))
    clear hnews h1 h2 hl hrow hgg
    go_enter Try.func135, Try.ntmps135
    go_wp2_with (at_builtin; refine wpList_append_own _ rfl (.tmp 5) (.tmp 6) 26 rfl w.heap.size 2 i0 (.int .i64 0) 1 8 Try.underlying26 HI.out HZ0.out HZ1.out HZ2.out rfl (by decide) _ _ _ rfl HR.out ⟨g, 0, none⟩ n c (l.map (Value.int .i64)) rfl (by rw [List.length_map, Nat.mul_one]; exact HL.out.symm) HN.out (oneCell_map l) ?c3 ?c4 ?c5 ?_)
    case c3 => unfold maxLen; simp; omega
    case c4 => simp; omega
    case c5 => first | omega | simp
    intro v' w1 hown hgrow _
    have HO : Hid (IntRow w.heap.size w1 v' l) := Lib.hid (by unfold IntRow; rw [← HL.out]; simpa using hown)
    have HG := Lib.hid (HB.out.grown hgrow (by simp) (fun k hk => by cases hk; exact Nat.le_refl _))
    clear hown hgrow
    go_wp2
    go_ret
    exact ⟨_, rfl, HO.out, HG.out⟩
theorem clone_nil (w : World) : Calls Try.prog 135 #[.slice none 0 0] w fun e w' => e = .returned (.slice none 0 0) ∧ w = w' := by
  have hnil : (binOp .eql 26 (.slice none 0 0) (.slice none 0 0)).run Try.prog w = .ok (.bool true) w := Lib.run_eql_slice_nil (P := Try.prog) w 26 2 none 0 0 0 0 Try.underlying26
  go_enter Try.func135, Try.ntmps135
  go_wp2
  go_ret
  exact ⟨rfl, rfl⟩
theorem clone_odd (a : Addr) (c : Nat) (w : World) : Calls Try.prog 135 #[.slice (some a) 0 c] w (OwnPost [] w) := by
  obtain ⟨i0, hi, hz0, hz1, hz2⟩ := info_parts Try.infoInt64
  have HI := Lib.hid hi
  have HZ1 := Lib.hid hz1
  clear hi hz0 hz1 hz2
  have hnil : (binOp .eql 26 (.slice (some a) 0 c) (.slice none 0 0)).run Try.prog w = .ok (.bool false) w := Lib.run_eql_slice_nil (P := Try.prog) w 26 2 (some a) 0 c 0 0 Try.underlying26
  have HR := Lib.hid (intRow_made w)
  have HB := Lib.hid ((Below.refl w.heap.size w).alloc (Nat.le_refl _) (.cells #[] 2))
  go_enter Try.func135, Try.ntmps135
  go_wp2_with (at_builtin; refine wpList_append_fits_any _ rfl (.tmp 5) (.tmp 6) 26 rfl w.heap.size 2 i0 1 Try.underlying26 HI.out HZ1.out w.heap.size 0 0 [] rfl HR.out _ 0 c [] rfl rfl (fun h => by cases h) (fun _ _ j u h => by simp at h) (fun u h => by simp at h) (by omega) ?_)
  intro w1 hown hgrow
  have HO := Lib.hid hown
  have HG := Lib.hid (HB.out.grown hgrow (by simp) (fun k hk => by cases hk; exact Nat.le_refl _))
  clear hown hgrow
  go_wp2
  go_ret
  exact ⟨_, rfl, HO.out, HG.out⟩
theorem clone8_any {o : Option Addr} {n c : Nat} {l : List Int} {w : World} (h : Seen w o n c l) :
    Calls Try.prog 135 #[.slice o n c] w (OwnPost l w) := by
  have h' := h
  obtain ⟨hl, hn, hno, hnc, g, h1, h2⟩ := h
  by_cases h0 : n = 0
  · have e : l = [] := List.eq_nil_of_length_eq_zero (by omega)
    subst h0 e
    cases o with
    | none =>
      rw [hno rfl]
      exact (clone_nil w).mono fun e w' h => ⟨_, h.1, intRow_nil _ _, h.2 ▸ Below.refl _ _⟩
    | some a => exact clone_odd a c w
  · obtain ⟨rfl, _⟩ := h1 (by omega)
    exact clone_any h'
end Go.Proofs.Ytbjkcoajabcibaa
namespace Go.Proofs.Ytbjkcoajabcibaa
set_option linter.unusedVariables false
set_option maxRecDepth 20000
theorem shiftP_stay (f : List Int) (a : Int) {i k : Nat} (hi : i < k) (hn : i < f.length) : ∀ j, (shiftP f a (k + j)).getD i 0 = (shiftP f a k).getD i 0
  | 0 => rfl
  | j + 1 => by
    show (tabL f.length fun i => if i < k + j then (shiftP f a (k + j)).getD i 0 else evalD (shiftP f a (k + j)) a (f.length - i)).getD i 0 = _
    rw [tabL_getD hn, if_pos (by omega)]
    exact shiftP_stay f a hi hn j
theorem shiftP_final (f : List Int) (a : Int) {i k : Nat} (hi : i < k) (hk : k ≤ f.length) : (shiftP f a k).getD i 0 = (shiftL f a).getD i 0 := by
  have h := shiftP_stay f a hi (by omega) (f.length - k)
  rw [show k + (f.length - k) = f.length by omega] at h
  exact h.symm
theorem back_bd {l : List Int} {a B : Int} {m : Nat} (hB : 1000000 ≤ B) (hl : ∀ i, -B ≤ l.getD i 0 ∧ l.getD i 0 ≤ B) (hm : -1000000 ≤ evalD l a m ∧ evalD l a m ≤ 1000000) :
    ∀ j : Nat, j ≤ m → -(1000000 + (j : Int) * B) ≤ evalD l a (m - j) ∧ evalD l a (m - j) ≤ 1000000 + (j : Int) * B
  | 0, _ => by simpa using hm
  | j + 1, h => by
    obtain ⟨x, y⟩ := back_bd hB hl hm j (by omega)
    have hjB : 0 ≤ (j : Int) * B := Int.mul_nonneg (by omega) (by omega)
    have e : ((j + 1 : Nat) : Int) * B = (j : Int) * B + B := by push_cast; rw [Int.add_mul, Int.one_mul]
    rw [e]
    rw [show m - j = (m - (j + 1)) + 1 by omega, evalD] at x y
    obtain ⟨c, d⟩ := hl (l.length - 1 - (m - (j + 1)))
    by_cases ha : a = 0
    · cases hm2 : m - (j + 1) with
      | zero => simp only [evalD]; omega
      | succ q =>
        obtain ⟨c2, d2⟩ := hl (l.length - 1 - q)
        simp only [evalD, ha, Int.mul_zero, Int.zero_add]; omega
    · generalize evalD l a (m - (j + 1)) = e at *
      generalize l.getD (l.length - 1 - (m - (j + 1))) 0 = z at *
      have p : e.natAbs ≤ (e * a).natAbs := by
        rw [Int.natAbs_mul]
        have := Nat.mul_le_mul_left e.natAbs (show 1 ≤ a.natAbs by omega)
        omega
      generalize e * a = t at *
      generalize (j : Int) * B = s at *
      omega
theorem shiftP_bd {f : List Int} {a : Int} (hf : ∀ i, -1000000 ≤ f.getD i 0 ∧ f.getD i 0 ≤ 1000000) (h9 : f.length ≤ 9) (hs : ∀ i, -1000000 ≤ (shiftL f a).getD i 0 ∧ (shiftL f a).getD i 0 ≤ 1000000) :
    ∀ k, k ≤ f.length → (∀ i, -(1000000 * 9 ^ k) ≤ (shiftP f a k).getD i 0 ∧ (shiftP f a k).getD i 0 ≤ 1000000 * 9 ^ k) ∧
      (k < f.length → ∀ i, k ≤ i → i < f.length → -(1000000 * 9 ^ (k + 1)) ≤ evalD (shiftP f a k) a (f.length - i) ∧ evalD (shiftP f a k) a (f.length - i) ≤ 1000000 * 9 ^ (k + 1)) := by
  have step : ∀ k, k < f.length → (∀ i, -(1000000 * 9 ^ k) ≤ (shiftP f a k).getD i 0 ∧ (shiftP f a k).getD i 0 ≤ 1000000 * 9 ^ k) →
      ∀ i, k ≤ i → i < f.length → -(1000000 * 9 ^ (k + 1)) ≤ evalD (shiftP f a k) a (f.length - i) ∧ evalD (shiftP f a k) a (f.length - i) ≤ 1000000 * 9 ^ (k + 1) := by
    intro k hk hb i hi hn
    have hp : (1 : Int) ≤ 9 ^ k := by have := Int.pow_pos (n := (9 : Int)) (m := k) (by omega); omega
    have he : evalD (shiftP f a k) a (f.length - k) = (shiftL f a).getD k 0 := by
      rw [← shiftP_final f a (Nat.lt_succ_self k) hk]
      show _ = (tabL f.length fun i => if i < k then (shiftP f a k).getD i 0 else evalD (shiftP f a k) a (f.length - i)).getD k 0
      rw [tabL_getD hk, if_neg (Nat.lt_irrefl _)]
    have hm := hs k
    rw [← he] at hm
    have := back_bd (B := 1000000 * 9 ^ k) (by omega) hb hm (i - k) (by omega)
    rw [show f.length - k - (i - k) = f.length - i by omega] at this
    have hq : ((i - k : Nat) : Int) ≤ 8 := by omega
    have h8 := Int.mul_le_mul_of_nonneg_right hq (show (0 : Int) ≤ 1000000 * 9 ^ k by omega)
    rw [Int.pow_succ]
    generalize (9 : Int) ^ k = q at *
    generalize ((i - k : Nat) : Int) * (1000000 * q) = s at *
    omega
  intro k
  induction k with
  | zero => exact fun _ => ⟨fun i => by simpa [shiftP] using hf i, fun h => step 0 h (fun i => by simpa [shiftP] using hf i)⟩
  | succ k ih =>
    intro hk
    obtain ⟨h1, h2⟩ := ih (by omega)
    have key : ∀ i, -(1000000 * 9 ^ (k + 1)) ≤ (shiftP f a (k + 1)).getD i 0 ∧ (shiftP f a (k + 1)).getD i 0 ≤ 1000000 * 9 ^ (k + 1) := by
      intro i
      have hp : (1 : Int) ≤ 9 ^ (k + 1) := by have := Int.pow_pos (n := (9 : Int)) (m := k + 1) (by omega); omega
      by_cases hi : i < f.length
      · show _ ≤ (tabL f.length fun i => if i < k then (shiftP f a k).getD i 0 else evalD (shiftP f a k) a (f.length - i)).getD i 0 ∧ (tabL f.length fun i => if i < k then (shiftP f a k).getD i 0 else evalD (shiftP f a k) a (f.length - i)).getD i 0 ≤ _
        rw [tabL_getD hi]
        split
        · rename_i hik
          rw [shiftP_final f a hik (by omega)]
          have := hs i
          omega
        · exact h2 (by omega) i (by omega) hi
      · rw [getD_out (by rw [shiftP_length]; omega)]; omega
    exact ⟨key, fun h => step (k + 1) h key⟩
theorem pow9_le : ∀ {j : Nat}, j ≤ 9 → (9 : Int) ^ j ≤ 387420489 := by decide
/-- the early end of a shift -/
theorem shift_stop {f : List Int} {a : Int} {k i : Nat} (hp : polyB f = true) (hk : k ≤ i) (hi : i < f.length) (hf : inB (evalD (shiftP f a k) a (f.length - i)) (-1000000000000000) 1000000000000000 = false) :
    resC (shiftL f a) = 3 ∧ resL (shiftL f a) = [] := by
  cases hr : polyB (trimL (shiftL f a))
  · simp [resC, resL, hr]
  · obtain ⟨h9, hb, _⟩ := polyB_of hp
    have hs : ∀ i, -1000000 ≤ (shiftL f a).getD i 0 ∧ (shiftL f a).getD i 0 ≤ 1000000 := fun i => by rw [← trimL_getD]; exact (polyB_of hr).2.1 i
    have h := (shiftP_bd hb h9 hs k (by omega)).2 (by omega) i hk hi
    have h2 := pow9_le (show k + 1 ≤ 9 by omega)
    rw [inB_t (by omega) (by omega)] at hf
    cases hf
end Go.Proofs.Ytbjkcoajabcibaa
namespace Go.Proofs.Ytbjkcoajabcibaa
open Go.RowKit
set_option linter.unusedVariables false
set_option linter.unusedSimpArgs false
/-- the list within pass k, behind q steps -/
def shV (f : List Int) (a : Int) (k q : Nat) : List Int := tabL f.length fun j => if f.length - 1 - q ≤ j ∧ k ≤ j then evalD (shiftP f a k) a (f.length - j) else (shiftP f a k).getD j 0
theorem shV_length (f : List Int) (a : Int) (k q : Nat) : (shV f a k q).length = f.length := tabL_length _ _
theorem shV_zero (f : List Int) (a : Int) (k : Nat) : shV f a k 0 = shiftP f a k := by
  refine ext_getD (by rw [shV_length, shiftP_length]) fun j hj => ?_
  rw [shV_length] at hj
  rw [shV, tabL_getD hj]
  split
  · rw [show f.length - j = 0 + 1 by omega, evalD, show evalD (shiftP f a k) a 0 = 0 from rfl, Int.zero_mul, Int.zero_add, shiftP_length, show f.length - 1 - 0 = j by omega]
  · rfl
theorem shV_end {f : List Int} {a : Int} {k q : Nat} (h : f.length - 1 - k ≤ q) : shV f a k q = shiftP f a (k + 1) := by
  show tabL _ _ = tabL _ _
  refine tabL_ext fun j hj => ?_
  by_cases hk : j < k
  · rw [if_neg (by omega), if_pos hk]
  · rw [if_pos (by omega), if_neg hk]
theorem shV_at {f : List Int} {a : Int} {k q i : Nat} (hi : i + 1 < f.length) (hq : i + q + 2 = f.length) (hk : k ≤ i) :
    (shV f a k q).getD i 0 = (shiftP f a k).getD i 0 ∧ (shV f a k q).getD (i + 1) 0 = evalD (shiftP f a k) a (f.length - (i + 1)) ∧
    evalD (shiftP f a k) a (f.length - i) = (shiftP f a k).getD i 0 + a * evalD (shiftP f a k) a (f.length - (i + 1)) := by
  refine ⟨?_, ?_, ?_⟩
  · rw [shV, tabL_getD (by omega), if_neg (by omega)]
  · rw [shV, tabL_getD hi, if_pos (by omega)]
  · rw [show f.length - i = (f.length - (i + 1)) + 1 by omega, evalD, shiftP_length, show f.length - 1 - (f.length - (i + 1)) = i by omega, Int.mul_comm, Int.add_comm]
theorem shV_step {f : List Int} {a : Int} {k q i : Nat} {y : Int} (hi : i + 1 < f.length) (hq : i + q + 2 = f.length) (hk : k ≤ i) (hy : evalD (shiftP f a k) a (f.length - i) = y) :
    (shV f a k q).set i y = shV f a k (q + 1) := by
  rw [shV, tab_set y (by omega)]
  refine tabL_ext fun j hj => ?_
  by_cases e : j = i
  · rw [if_pos e, if_pos (by omega), e, hy]
  · rw [if_neg e]
    by_cases h2 : f.length - 1 - q ≤ j ∧ k ≤ j
    · rw [if_pos h2, if_pos (by omega)]
    · rw [if_neg h2, if_neg (by omega)]
def shiftC (f : List Int) (a : Int) : Int := if polyB f then (if inB a (-1000) 1000 then resC (shiftL f a) else 2) else 1
def shiftQ (f : List Int) (a : Int) : List Int := if polyB f then (if inB a (-1000) 1000 then resL (shiftL f a) else []) else []
theorem set_bd {l : List Int} {B y : Int} {i : Nat} (h : ∀ j, -B ≤ l.getD j 0 ∧ l.getD j 0 ≤ B) (hy : -B ≤ y ∧ y ≤ B) : ∀ j, -B ≤ (l.set i y).getD j 0 ∧ (l.set i y).getD j 0 ≤ B := by
  intro j
  by_cases e : j = i
  · subst e
    by_cases hj : j < l.length
    · simp [List.getD, hj]; exact hy
    · rw [getD_out (by rw [List.length_set]; omega)]
      have := h j
      rw [getD_out (by omega)] at this; exact this
  · have : (l.set i y).getD j 0 = l.getD j 0 := by simp [List.getD, List.getElem?_set_ne (Ne.symm e)]
    rw [this]; exact h j
set_option maxRecDepth 20000
end Go.Proofs.Ytbjkcoajabcibaa
namespace Go.Proofs.Ytbjkcoajabcibaa
open Go.RowKit
set_option linter.unusedVariables false
set_option maxRecDepth 20000
set_option linter.unusedSimpArgs false
/-- a list of integers that came in -/
def ArgInt (w : World) (o : Option Addr) (l : List Int) : Prop :=
  l.length = 0 ∨ ∃ b off, o = some ⟨b, off, none⟩ ∧ b < w.heap.size ∧ ∀ k, k < l.length → w.cell? ⟨b, off + k, none⟩ = some (.int .i64 (l.getD k 0))
theorem argInt_below {w w' : World} {o : Option Addr} {l : List Int} (h : ArgInt w o l) (hb : Below w.heap.size w w') : ArgInt w' o l := by
  rcases h with h | ⟨b, off, rfl, hlt, hc⟩
  · exact .inl h
  · exact .inr ⟨b, off, rfl, Nat.lt_of_lt_of_le hlt hb.size, fun k hk => by rw [hb.cell (p := ⟨b, off + k, none⟩) hlt]; exact hc k hk⟩
set_option maxRecDepth 100000 in
set_option maxHeartbeats 1600000 in
theorem toInt64S_any (o : Option Addr) (c : Nat) (l : List Int) (w : World) (hn : l.length ≤ 1048576) (ha : ArgInt w o l) :
    Calls Try.prog 52 #[.slice o l.length c] w fun e w' => ∃ v, e = .returned v ∧ IntRow w.heap.size w' v l ∧ Below w.heap.size w w' := by
  obtain ⟨i0, hi, hz0, hz1, hz2⟩ := info_parts Try.infoInt64
  have HI := Lib.hid hi
  have HZ0 := Lib.hid hz0
  have HZ1 := Lib.hid hz1
  have HZ2 := Lib.hid hz2
  have HA := Lib.hid ha
  clear hi hz0 hz1 hz2 ha
  go_enter Try.func52, Try.ntmps52
  go_wp2_with (at_make; refine wpList_make_full _ rfl (.tmp 6) (.tmp 6) 26 rfl w.heap.size 2 i0 (.int .i64 0) 1 Try.underlying26 HI.out HZ0.out HZ1.out .i64 .i64 _ _ l.length rfl rfl rfl rfl ?m1 ?m2 (Nat.le_refl _) ?_)
  case m1 => rw [HZ2.out]; omega
  case m2 => unfold maxLen; omega
  intro w2 hown hgrow
  have HO := Lib.hid hown
  have HB2 := Lib.hid ((Below.refl w.heap.size w).grown hgrow (Nat.le_refl _) (fun k h => by cases h))
  clear hown hgrow
  go_wp2
  go_loopw [4] (fun i wr => ∃ (k : Nat) (xs : List Value), k ≤ l.length ∧ i = .int .i64 k ∧ wr.ownsRow w.heap.size 2 1 (.slice (some ⟨w.heap.size, 0, none⟩) l.length l.length) l.length xs ∧ (∀ j, j < k → xs[j]? = (l.map (Value.int .i64))[j]?) ∧ Below w.heap.size w wr) (fun i _ => l.length - (intOf i).toNat)
  case atStart => exact ⟨0, _, Nat.zero_le _, rfl, HO.out, fun j h => absurd h (by omega), HB2.out⟩
  case round =>
    obtain ⟨k, xs, hk, rfl, hrow, hxs, hb⟩ := hrel
    have HW := Lib.hid hrow
    have HX := Lib.hid hxs
    have HB := Lib.hid hb
    have bs := hb.size
    have HXL := Lib.hid hrow.1
    clear hrow hxs
    by_cases hlt : k < l.length
    · rcases HA.out with hz | ⟨b, off, rfl, hbw, hcell⟩
      · omega
      · have a1 := hcell k hlt
        rw [← hb.cell (by exact hbw)] at a1
        clear hb hcell
        have HP := Lib.hid (show (l.map (Value.int .i64))[k]? = some (.int .i64 (l.getD k 0)) by simp [List.getD, hlt])
        generalize l.getD k 0 = x1 at *
        have S1 := Lib.hid (World.ownsRow.stored HW.out k (.int .i64 x1))
        have c3 := World.ownsRow.cellAt HW.out k (by omega)
        have f3 := World.ownsRow.frozenAt HW.out k
        obtain ⟨u3, hu3⟩ : ∃ u, xs[k]? = some u := ⟨_, List.getElem?_eq_getElem (by have := HXL.out; omega)⟩
        rw [hu3] at c3
        clear hu3
        have HN : Hid (∀ j, j < k + 1 → (xs.set k (.int .i64 x1))[j]? = (l.map (Value.int .i64))[j]?) := by
          intro j hj
          have hl2 := HXL.out
          by_cases e2 : j = k
          · subst e2
            rw [List.getElem?_set_self (by omega)]; exact HP.out.symm
          · rw [List.getElem?_set_ne (by omega)]; exact HX.out j (by omega)
        go_wp2
        exact ⟨⟨k + 1, _, by omega, by go_num, S1.out.1, HN.out, HB.out.setCell (Nat.le_refl _) _⟩, by simp only [intOf]; omega⟩
    · have hkl : k = l.length := by omega
      have HE : Hid (xs = l.map (Value.int .i64)) := by
        show xs = l.map (Value.int .i64)
        apply List.ext_getElem?
        intro j
        by_cases hj : j < k
        · exact HX.out j hj
        · rw [List.getElem?_eq_none (by have := HXL.out; omega), List.getElem?_eq_none (by rw [List.length_map]; omega)]
      clear hkl
      go_wp2
      go_ret
      exact ⟨_, rfl, by have h := HW.out; rw [HE.out] at h; exact h, hb⟩

theorem arg_of_row {a : Option Addr} {len cap : Nat} {z : List Int} {w : World}
    (h : (a = none ∧ len = 0 ∧ cap = 0 ∧ z = []) ∨ ∃ x, a = some x ∧ len ≤ cap ∧ cap ≤ maxLen ∧ z.length = cap ∧ (∀ i, i < z.length → w.cell? (x.add i) = some (.int .i64 (z.getD i 0))) ∧ ∀ n ∈ z, (Lit.int .i64 n).wf = true) :
    ∃ l : List Int, l.length = len ∧ ArgInt w a l := by
  rcases h with ⟨rfl, rfl, rfl, rfl⟩ | ⟨x, rfl, h1, h2, h3, h4, _⟩
  · exact ⟨[], rfl, .inl rfl⟩
  · refine ⟨z.take len, by rw [List.length_take]; omega, ?_⟩
    by_cases h0 : len = 0
    · exact .inl (by rw [List.length_take]; omega)
    · obtain ⟨b, off, spot⟩ := x
      have c0 := h4 0 (by omega)
      have hs : spot = none := by
        cases spot with
        | none => rfl
        | some s =>
          simp only [World.cell?, Addr.add] at c0
          cases hh : w.heap[b]? with
          | none => simp [hh] at c0
          | some o => cases o <;> simp [hh] at c0
      subst hs
      have hlt := World.block_lt_of_cell? _ _ c0
      refine .inr ⟨b, off, rfl, hlt, fun k hk => ?_⟩
      rw [List.length_take] at hk
      have c := h4 k (by omega)
      have e : (⟨b, off, none⟩ : Addr).add k = ⟨b, off + k, none⟩ := by
        by_cases hk0 : k = 0
        · subst hk0; simp [Addr.add]
        · simp [Addr.add, hk0]
      rw [e] at c
      rw [c]
      congr 2
      simp [List.getD, List.getElem?_take, show k < len by omega]
theorem len_of_row {a : Option Addr} {len cap : Nat} {z : List Int} {w : World}
    (h : (a = none ∧ len = 0 ∧ cap = 0 ∧ z = []) ∨ ∃ x, a = some x ∧ len ≤ cap ∧ cap ≤ maxLen ∧ z.length = cap ∧ (∀ i, i < z.length → w.cell? (x.add i) = some (.int .i64 (z.getD i 0))) ∧ ∀ n ∈ z, (Lit.int .i64 n).wf = true) : (len : Int) ≤ 9223372036854775807 := by
  rcases h with ⟨_, rfl, _⟩ | ⟨x, _, h1, h2, _⟩
  · omega
  · unfold maxLen at h2; omega
theorem row_seen {b n c : Nat} {o : Option Addr} {w : World} {l : List Int} (h : IntRow b w (.slice o n c) l) (hl : l.length ≤ 1100000) : Seen w o n c l := by
  obtain ⟨o', c', e, hs⟩ := seen_row h hl
  injection e with e1 e2 e3
  subst e1 e2 e3
  exact hs
/-- two rows: the younger one stays where the elder one is marked -/
theorem row_apart2 {w w' : World} {b1 b2 : Nat} {T : TypeId} {sz : Nat} {v v' : Value} {n n' : Nat} {xs xs' : List Value} {T' : TypeId} {sz' : Nat} {w0 : World}
    (h : w.ownsRow b2 T sz v n xs) (h' : w0.ownsRow b1 T' sz' v' n' xs') (hs : w0.heap.size ≤ b2) (hg : w.grownBy w' v'.ownBlock) : w'.ownsRow b2 T sz v n xs := by
  refine h.kept hg ?_
  cases hv : v.ownBlock with
  | none => exact .inl rfl
  | some k =>
    right
    intro he
    have h1 := h.lt k hv
    have h2 := h'.lt k he.symm
    omega
theorem resL_len (l : List Int) : (resL l).length ≤ 9 := by
  unfold resL
  split
  · rename_i h; exact (polyB_of h).1
  · simp
theorem if_len {b : Bool} {l : List Int} : (if b = true then resL l else []).length ≤ 9 := by
  split
  · exact resL_len l
  · simp
theorem shiftQ_len (l : List Int) (a : Int) : (shiftQ l a).length ≤ 9 := by
  unfold shiftQ
  split
  · split
    · exact resL_len _
    · simp
  · simp
end Go.Proofs.Ytbjkcoajabcibaa
namespace Go.Proofs.Ytbjkcoajabcibaa
open Go.RowKit
set_option linter.unusedVariables false
set_option maxRecDepth 20000
set_option linter.unusedSimpArgs false
theorem ringM_8 {p : Int} (hs : smallB p = true) : ringM p 1 = p := by
  obtain ⟨_, hp⟩ := smallB_bd hs
  have : p ^ (1 : Int).toNat = p := by simp [Int.pow_succ]
  unfold ringM
  rw [this, hs]
  simp [show p ≤ 1000000000 by omega]
theorem remainder8_any (x m : Int) (w : World) (h1 : 2 ≤ m) (h2 : m ≤ 1000000000) :
    Calls Try.prog 132 #[.int .i64 x, .int .i64 m] w fun e w' => e = .returned (.int .i64 (x % m)) ∧ w = w' := by
  have hm : (m == 0) = false := by simp; omega
  have hb := tmod_bd (x := x) (show 0 < m by omega)
  by_cases h : x.tmod m < 0
  · have HE := Lib.hid (rem_neg (by omega) h)
    go_enter Try.func132, Try.ntmps132
    go_wp2
    go_ret
    exact ⟨ret_int HE.out, rfl⟩
  · have HE := Lib.hid (rem_pos (by omega) h)
    go_enter Try.func132, Try.ntmps132
    go_wp2
    go_ret
    exact ⟨ret_int HE.out, rfl⟩
theorem mod8_any (x m : Int) (w : World) (h1 : 2 ≤ m) (h2 : m ≤ 1000000000) :
    Calls Try.prog 125 #[.int .i64 x, .int .i64 m] w fun e w' => e = .returned (.int .i64 (x % m)) ∧ w = w' := by
  have hm : (m == 0) = false := by simp; omega
  have hb := tmod_bd (x := x) (show 0 < m by omega)
  have HE := Lib.hid (mod_twice2 (x := x) (show 0 < m by omega))
  go_enter Try.func125, Try.ntmps125
  go_wp2
  go_ret
  exact ⟨ret_int HE.out, rfl⟩
theorem inverse8_any (a m : Int) (w : World) (h1 : 0 ≤ a) (h2 : a < m) (hm1 : 2 ≤ m) (hm2 : m ≤ 1000000000) :
    Calls Try.prog 134 #[.int .i64 a, .int .i64 m] w fun e w' => e = .returned (.int .i64 (bezX a m % m)) ∧ w = w' := by
  have hva : valueB a = true := valueB_t (by omega) (by omega)
  have hvm : valueB m = true := valueB_t (by omega) (by omega)
  go_enter Try.func134, Try.ntmps134
  go_wp2_with (first | (go_at_call 160; refine (implBez_val _ _ _ hva hvm).mono ?_; rintro e wn ⟨rfl, rfl⟩) | (go_at_call 132; refine (remainder8_any _ _ _ hm1 hm2).mono ?_; rintro e wn ⟨rfl, rfl⟩))
  go_ret
  exact ⟨rfl, rfl⟩
theorem l02Inv8_any (a m : Int) (w : World) (h1 : 0 ≤ a) (h2 : a < m) (hm1 : 2 ≤ m) (hm2 : m ≤ 1000000000) :
    Calls Try.prog 163 #[.int .i64 a, .int .i64 m] w fun e w' => e = .returned (.int .i64 (bezX a m % m)) ∧ w = w' := by
  have hv1 : -1000000000000 ≤ a := by omega
  have hv2 : a ≤ 1000000000000 := by omega
  have hv3 : -1000000000000 ≤ m := by omega
  have hv4 : m ≤ 1000000000000 := by omega
  go_enter Try.func163, Try.ntmps163
  go_wp2_with (first | (go_at_call 185; refine (l01Bez_any _ _ _ hv1 hv2 hv3 hv4).mono ?_; rintro e wn ⟨rfl, rfl⟩) | (go_at_call 125; refine (mod8_any _ _ _ hm1 hm2).mono ?_; rintro e wn ⟨rfl, rfl⟩))
  go_ret
  exact ⟨rfl, rfl⟩
/-- the ring by p: its two numbers -/
abbrev R1 (p : Int) : Value := .agg #[.int .i64 p, .int .i64 1]
theorem modulus8_any (p : Int) (hs : smallB p = true) (w : World) :
    Calls Try.prog 72 #[R1 p] w fun e w' => e = .returned (.int .i64 p) ∧ Below w.heap.size w w' := by
  have h := implModulus_any p 1 w
  rw [ringM_8 hs] at h
  exact h
theorem ringBy_any (p : Int) (w : World) :
    Calls Try.prog 95 #[.int .i64 p] w fun e w' => e = .returned (R1 p) ∧ Below w.heap.size w w' := by
  have hb : Below w.heap.size w (w.alloc (.cells #[.int .i64 p, .int .i64 1] 25)) := (Below.refl _ _).alloc (Nat.le_refl _) _
  go_enter Try.func95, Try.ntmps95
  go_wp2
  exact bodyPost_ret (v := R1 p) (by simp [results, Try.results95, go_sem]) rfl ⟨rfl, hb⟩
/-! lists -/
/-- a list that lies in a row from some place on -/
def SeenD (w : World) (o : Option Addr) (n c : Nat) (l : List Int) : Prop :=
  n = l.length ∧ n ≤ 1100000 ∧ (o = none → c = 0) ∧ n ≤ c ∧ ∃ g d, (0 < n → o = some ⟨g, d, none⟩ ∧ g < w.heap.size) ∧ ∀ k, k < n → w.cell? ⟨g, d + k, none⟩ = some (.int .i64 (l.getD k 0))
theorem seen_d {w : World} {o : Option Addr} {n c : Nat} {l : List Int} (h : Seen w o n c l) : SeenD w o n c l := by
  obtain ⟨hl, hn, ho, hnc, g, h1, h2⟩ := h
  exact ⟨hl, hn, ho, hnc, g, 0, h1, fun k hk => by rw [Nat.zero_add]; exact h2 k hk⟩
theorem seenD_below {w w' : World} {o : Option Addr} {n c : Nat} {l : List Int} (h : SeenD w o n c l) (hb : Below w.heap.size w w') : SeenD w' o n c l := by
  obtain ⟨hl, hn, ho, hnc, g, d, h1, h2⟩ := h
  refine ⟨hl, hn, ho, hnc, g, d, fun h0 => ⟨(h1 h0).1, by have := (h1 h0).2; have := hb.size; omega⟩, fun i hi => ?_⟩
  rw [hb.cell (p := ⟨g, d + i, none⟩) (h1 (by omega)).2]; exact h2 i hi
end Go.Proofs.Ytbjkcoajabcibaa
namespace Go.Proofs.Ytbjkcoajabcibaa
open Go.RowKit
set_option linter.unusedVariables false
set_option linter.unusedSimpArgs false
set_option maxRecDepth 20000
def resB (p : Int) (f : List Int) : Bool := f.all fun x => inB x 0 (p - 1)
theorem modB_eq (p : Int) (f : List Int) : modB p f = (smallB p && (decide (f.length ≤ 9) && (resB p f && lastB f))) := rfl
set_option maxHeartbeats 1000000 in
theorem specIsMod_any (p : Int) {o : Option Addr} {n c : Nat} {f : List Int} {w : World} (h : Seen w o n c f) :
    Calls Try.prog 112 #[.int .i64 p, .slice o n c] w fun e w' => e = .returned (.bool (modB p f)) ∧ w = w' := by
  obtain ⟨hl, hn, hno, hnc, g, h1, h2⟩ := h
  clear hno hnc
  have HO := Lib.hid fun h => (h1 h).1
  have HL := Lib.hid hl
  have HC := Lib.hid h2
  clear h1 h2 hl
  cases hs : smallB p
  · have HP := Lib.hid (show modB p f = false by rw [modB_eq, hs, Bool.false_and])
    go_enter Try.func112, Try.ntmps112
    go_wp2_with fail
    refine (l01Small_any p w).mono ?_
    rw [hs]
    rintro e w2 ⟨rfl, rfl⟩
    go_wp2_with fail
    go_ret
    rw [HP.out]; exact ⟨rfl, rfl⟩
  · by_cases h9 : n ≤ 9
    · obtain ⟨p2, p97⟩ := smallB_bd hs
      have wp1 : IntKind.i64.wrap (p - 1) = p - 1 := IntWalk.i64_in _ (by omega)
      go_enter Try.func112, Try.ntmps112
      go_wp2_with fail
      refine (l01Small_any p w).mono ?_
      rw [hs]
      rintro e w2 ⟨rfl, rfl⟩
      go_wp2_with fail
      go_loop [5] (fun i => ∃ k : Nat, k ≤ n ∧ i = .int .i64 k ∧ resB p (f.take k) = true) (fun i => n - (intOf i).toNat)
      case atStart => exact ⟨0, Nat.zero_le _, rfl, by simp [resB]⟩
      case round =>
        obtain ⟨k, hk, rfl, hall⟩ := hrel
        by_cases hlt : k < n
        · have hkl : k < f.length := by have := HL.out; omega
          have hog := HO.out (by omega)
          subst hog
          have a2 := HC.out k hlt
          have HA := Lib.hid (all_take6 (f := fun x => inB x 0 (p - 1)) hkl)
          cases hc : inB (f.getD k 0) 0 (p - 1)
          · have HP := Lib.hid (show modB p f = false by rw [modB_eq, show resB p f = false from all_false hkl hc]; simp)
            generalize f.getD k 0 = x at *
            clear hkl hall
            go_wp2_with fail
            refine (in_any x 0 (p - 1) w).mono ?_
            rw [hc]
            rintro e w2 ⟨rfl, rfl⟩
            go_wp2_with fail
            go_ret
            rw [HP.out]; exact ⟨rfl, rfl⟩
          · have HE := Lib.hid (show resB p (f.take (k + 1)) = true by unfold resB at hall ⊢; rw [HA.out, hall]; simpa using hc)
            generalize f.getD k 0 = x at *
            clear hkl hall
            go_wp2_with fail
            refine (in_any x 0 (p - 1) w).mono ?_
            rw [hc]
            rintro e w2 ⟨rfl, rfl⟩
            go_wp2_with fail
            exact ⟨⟨k + 1, by omega, by go_num, HE.out⟩, by simp [intOf]; omega⟩
        · have hkn : k = n := by omega
          rw [hkn, HL.out, List.take_of_length_le (Nat.le_refl _)] at hall
          clear hlt
          by_cases h0 : n = 0
          · have HP := Lib.hid (show modB p f = true by
              have := HL.out
              rw [modB_eq, hs, hall, show decide (f.length ≤ 9) = true by simp; omega]
              simp [lastB, ← this, h0])
            clear hall
            subst h0
            go_wp2_with fail
            go_ret
            rw [HP.out]; exact ⟨rfl, rfl⟩
          · have hog := HO.out (by omega)
            subst hog
            have a2 := HC.out (n - 1) (by omega)
            have HP := Lib.hid (show modB p f = !(f.getD (n - 1) 0 == 0) by
              have := HL.out
              rw [modB_eq, hs, hall, show decide (f.length ≤ 9) = true by simp; omega]
              rw [this] at h0 ⊢
              simp only [lastB, Bool.true_and, decide_eq_false h0, Bool.false_or])
            generalize f.getD (n - 1) 0 = x at *
            have h0' : ((n : Int) == 0) = false := by simp; omega
            have hn1 : (n : Int) - 1 = ((n - 1 : Nat) : Int) := by omega
            clear hall
            go_wp2_with fail
            go_ret
            rw [HP.out]; exact ⟨rfl, rfl⟩
    · have h9' : (9 : Int) < (n : Int) := by omega
      have HP := Lib.hid (show modB p f = false by
        have := HL.out
        rw [this] at h9
        rw [modB_eq, decide_eq_false h9]; simp)
      go_enter Try.func112, Try.ntmps112
      go_wp2_with fail
      refine (l01Small_any p w).mono ?_
      rw [hs]
      rintro e w2 ⟨rfl, rfl⟩
      go_wp2_with fail
      go_ret
      rw [HP.out]; exact ⟨rfl, rfl⟩
set_option maxHeartbeats 1000000 in
theorem l08Reduce_any (p : Int) (p2 : 2 ≤ p) (p97 : p ≤ 97) {o : Option Addr} {n c : Nat} {l : List Int} {w : World} (h : Seen w o n c l) (hn9 : n ≤ 1000) :
    Calls Try.prog 97 #[.int .i64 p, .slice o n c] w (OwnPost (redL p l) w) := by
  obtain ⟨hl, hn, hno, hnc, g, h1, h2⟩ := h
  obtain ⟨i0, hi, hz0, hz1, hz2⟩ := info_parts Try.infoInt64
  have HI := Lib.hid hi
  have HZ0 := Lib.hid hz0
  have HZ1 := Lib.hid hz1
  have HZ2 := Lib.hid hz2
  have HO := Lib.hid fun h => (h1 h).1
  have HG := Lib.hid fun h => (h1 h).2
  have HL := Lib.hid hl
  have HC := Lib.hid h2
  clear hi hz0 hz1 hz2 h1 h2 hl hno hnc
  go_enter Try.func97, Try.ntmps97
  go_wp2_with fail
  go_loopw [5, 6] (fun v d wr => ∃ k : Nat, d = .int .i64 k ∧ k ≤ n ∧ IntRow w.heap.size wr v (tabL k fun i => l.getD i 0 % p) ∧ Below w.heap.size w wr) (fun _ d _ => n - (intOf d).toNat)
  case atStart => exact ⟨0, rfl, Nat.zero_le _, intRow_made _, (Below.refl _ _).alloc (Nat.le_refl _) _⟩
  case round =>
    obtain ⟨k, rfl, hk, hrow, hb⟩ := hrel
    have bl : (tabL k fun i => l.getD i 0 % p).length ≤ 1000000 := by rw [tabL_length]; omega
    have bs := hb.size
    have HW := Lib.hid hrow
    have HB := Lib.hid hb
    clear hrow hb
    by_cases hlt : k < n
    · have hog := HO.out (by omega)
      subst hog
      have a2 := HC.out k hlt
      rw [← HB.out.cell (p := ⟨g, k, none⟩) (HG.out (by omega))] at a2
      have HS := Lib.hid (show (tabL (k + 1) fun i => l.getD i 0 % p) = (tabL k fun i => l.getD i 0 % p) ++ [l.getD k 0 % p] from tabL_succ _ _)
      generalize l.getD k 0 = z at *
      generalize (tabL k fun i => l.getD i 0 % p) = acc at *
      go_wp2_with fail
      refine (mod8_any z p wr p2 (by omega)).mono ?_
      rintro e w2 ⟨rfl, rfl⟩
      go_wp2_with (at_builtin; refine wpList_append_own _ rfl (.tmp 14) (.tmp 21) 26 rfl w.heap.size 2 i0 (.int .i64 0) 1 8 Try.underlying26 HI.out HZ0.out HZ1.out HZ2.out rfl (by decide) _ _ _ rfl (HW.out.alloc _) ⟨wr.heap.size, 0, none⟩ 1 1 [.int .i64 (z % p)] rfl rfl ?c1 ?c2 ?c3 ?c4 ?c5 ?_)
      try (case c1 => first | exact news_one _ _ _ | simp [Addr.add])
      try (case c2 => first | exact one_one _ | rfl)
      case c3 => unfold maxLen; omega
      case c4 => omega
      case c5 => first | omega | (simp; omega)
      intro v' w1 hown hgrow _
      have HO2 := Lib.hid (intRow_snoc hown)
      have HG2 := Lib.hid (below_appendI HB.out HW.out hgrow)
      clear hown hgrow
      go_wp2_with fail
      go_roundw
      case rel => exact ⟨k + 1, by first | rfl | go_num, by omega, by rw [HS.out]; exact HO2.out, HG2.out⟩
      case measure => simp [intOf]; omega
    · have hkn : k = l.length := by have := HL.out; omega
      have HT := Lib.hid (show trimL (tabL k fun i => l.getD i 0 % p) = redL p l by rw [hkn]; rfl)
      obtain ⟨o2, c2, rfl, HS2⟩ := seen_row HW.out (by omega)
      have hsz : HS2 = HS2 := rfl
      generalize (tabL k fun i => l.getD i 0 % p) = acc at *
      clear hkn hsz
      go_wp2_with fail
      refine (specTrim_any HS2).mono ?_
      rintro e w2 ⟨v, rfl, hr, hb⟩
      have HR := Lib.hid (intRow_lower hr HB.out.size)
      have HB2 := Lib.hid (HB.out.trans (hb.mono HB.out.size))
      clear hr hb
      go_wp2_with fail
      go_ret
      rw [← HT.out]
      exact ⟨_, rfl, HR.out, HB2.out⟩
def rdC (p : Int) (f : List Int) : Int := if smallB p && polyB f then 0 else 1
def rdQ (p : Int) (f : List Int) : List Int := if smallB p && polyB f then redL p f else []
theorem prodL_le (p : Int) (f g : List Int) : (prodL p f g).length ≤ f.length + g.length := by have := prodL_len p f g; omega
theorem l08Mul_any (p : Int) (p2 : 2 ≤ p) (p97 : p ≤ 97) {o o' : Option Addr} {n n' c c' : Nat} {f g : List Int} {w : World} (h : Seen w o n c f) (h' : Seen w o' n' c' g) (hp : polyB f = true) (hq : polyB g = true) :
    Calls Try.prog 113 #[.int .i64 p, .slice o n c, .slice o' n' c'] w (OwnPost (prodL p f g) w) := by
  have HS := Lib.hid h
  have HS' := Lib.hid h'
  have hm : (trimL (mulL f g)).length ≤ 18 := by
    have h1 := mulL_le f g
    have h2 := (polyB_of hp).1
    have h3 := (polyB_of hq).1
    exact trim_le (by omega)
  have HE := Lib.hid (show redL p (trimL (mulL f g)) = prodL p f g from redL_trim _)
  clear h h'
  go_enter Try.func113, Try.ntmps113
  go_wp2_with fail
  refine (l06Mul_any HS.out HS'.out hp hq).mono ?_
  rintro e w2 ⟨v, rfl, hr, hb⟩
  obtain ⟨o2, c2, rfl, HS2⟩ := seen_row hr (by omega)
  have HB := Lib.hid hb
  clear hr hb
  go_wp2_with fail
  refine (l08Reduce_any p p2 p97 HS2 (by omega)).mono ?_
  rw [HE.out]
  rintro e w3 ⟨v, rfl, hr3, hb3⟩
  have HR := Lib.hid (intRow_lower hr3 HB.out.size)
  have HB2 := Lib.hid (HB.out.trans (hb3.mono HB.out.size))
  clear hr3 hb3
  go_wp2_with fail
  go_ret
  exact ⟨_, rfl, HR.out, HB2.out⟩
def twoM (p : Int) (f g : List Int) : Bool := modB p f && modB p g
def mmC (p : Int) (f g : List Int) : Int := if twoM p f g then (if (prodL p f g).length ≤ 9 then 0 else 3) else 1
def mmQ (p : Int) (f g : List Int) : List Int := if mmC p f g = 0 then prodL p f g else []
theorem twoM_of {p : Int} {f g : List Int} (h : twoM p f g = true) : modB p f = true ∧ modB p g = true := by
  simpa [twoM] using h
theorem modB_poly {p : Int} {f : List Int} (h : modB p f = true) : polyB f = true := mod_poly (modB_of h).top (modB_of h).len (modB_of h).mod
theorem modB_small {p : Int} {f : List Int} (h : modB p f = true) : smallB p = true := by simp only [modB, Bool.and_eq_true] at h; exact h.1
theorem mmC_none {p : Int} {f g : List Int} (h : twoM p f g = false) : mmC p f g = 1 ∧ mmQ p f g = [] := by
  have e : mmC p f g = 1 := by simp [mmC, h]
  exact ⟨e, by simp [mmQ, e]⟩
theorem mmC_long {p : Int} {f g : List Int} (h : twoM p f g = true) (hl : ¬ (prodL p f g).length ≤ 9) : mmC p f g = 3 ∧ mmQ p f g = [] := by
  have e : mmC p f g = 3 := by simp [mmC, h, hl]
  exact ⟨e, by simp [mmQ, e]⟩
theorem mmC_fit {p : Int} {f g : List Int} (h : twoM p f g = true) (hl : (prodL p f g).length ≤ 9) : mmC p f g = 0 ∧ mmQ p f g = prodL p f g := by
  have e : mmC p f g = 0 := by simp [mmC, h, hl]
  exact ⟨e, by simp [mmQ, e]⟩
end Go.Proofs.Ytbjkcoajabcibaa
namespace Go.Proofs.Ytbjkcoajabcibaa
open Go.RowKit
set_option linter.unusedVariables false
set_option linter.unusedSimpArgs false
set_option maxRecDepth 20000
theorem row_other8 {b : Nat} {w : World} {v : Value} {l : List Int} (h : IntRow b w v l) {a : Addr} (ha : v.ownBlock ≠ some a.block) (u : Value) : IntRow b (w.setCell a u) v l := ownsRow_setCell_other h ha u
theorem own_ne8 {G Q n c : Nat} (h : G ≠ Q) : (Value.slice (some ⟨G, 0, none⟩) n c).ownBlock ≠ some Q := by
  show some G ≠ some Q
  exact fun e => h (by injection e)
theorem apart8 {w1 w2 : World} {b : Nat} {v u : Value} {l m : List Int} (h : IntRow b w1 v l) (h2 : IntRow w1.heap.size w2 u m) : v.ownBlock = none ∨ v.ownBlock ≠ u.ownBlock := by
  cases hv : v.ownBlock with
  | none => exact .inl rfl
  | some k =>
    right
    intro e
    have a1 := World.ownsRow.lt h k hv
    have a2 := World.ownsRow.lt h2 k e.symm
    omega
/-- two lists as results -/
def Own2Post (l m : List Int) (w : World) (e : Ending) (w' : World) : Prop :=
  ∃ v u, e = .returned (.tuple #[v, u]) ∧ IntRow w.heap.size w' v l ∧ IntRow w.heap.size w' u m ∧ Below w.heap.size w w' ∧ (v.ownBlock = none ∨ v.ownBlock ≠ u.ownBlock)
/-- what the division's numbers are like -/
theorem mdS_lt {p inv : Int} {f g : List Int} {N : Nat} (hf : ModP p f) (k j : Nat) : 0 ≤ mdS p inv g (fun j => f.getD j 0) N k j ∧ mdS p inv g (fun j => f.getD j 0) N k j < p :=
  mdS_rng (by have := hf.rng 0; omega) hf.rng k j
theorem invP_lt {p : Int} {g : List Int} (p2 : 2 ≤ p) : 0 ≤ invP p g ∧ invP p g < p := ⟨Int.emod_nonneg _ (by omega), Int.emod_lt_of_pos _ (by omega)⟩
theorem prod_small {p x y : Int} (p97 : p ≤ 97) (hx : 0 ≤ x ∧ x < p) (hy : 0 ≤ y ∧ y < p) : 0 ≤ x * y ∧ x * y ≤ 9409 := by
  have h1 := Int.mul_nonneg hx.1 hy.1
  have h2 := Int.mul_le_mul (show x ≤ 97 by omega) (show y ≤ 97 by omega) hy.1 (by omega)
  omega
set_option maxHeartbeats 8000000 in
theorem l08Div_any (p : Int) (hs : smallB p = true) {o o' : Option Addr} {n n' c c' : Nat} {f g : List Int} {w : World} (h : Seen w o n c f) (h' : Seen w o' n' c' g) (hf : ModP p f) (hg : ModP p g) (h0 : g.length ≠ 0) (hn20 : n ≤ 20) (hn9' : n' ≤ 20) :
    Calls Try.prog 143 #[.int .i64 p, .slice o n c, .slice o' n' c'] w (Own2Post (quoP p f g) (remP p f g) w) := by
  obtain ⟨p2, p97, pp⟩ := small_prime hs
  have HS := Lib.hid h
  obtain ⟨hl', hn', hno', hnc', a', h1', h2'⟩ := h'
  obtain ⟨rfl, hag'⟩ := h1' (by omega)
  have b1 := h2' (n' - 1) (by omega)
  have hn1 : (n' : Int) - 1 = ((n' - 1 : Nat) : Int) := by omega
  have HC' := Lib.hid h2'
  have HL' := Lib.hid hl'
  have HL := Lib.hid h.1
  obtain ⟨i0, hi, hz0, hz1, hz2⟩ := info_parts Try.infoInt64
  have HI := Lib.hid hi
  have HZ0 := Lib.hid hz0
  have HZ1 := Lib.hid hz1
  have HZ2 := Lib.hid hz2
  have HF := Lib.hid hf
  have HG := Lib.hid hg
  have hpz : (p == 0) = false := by simp; omega
  have hle1 : 1 ≤ n' := by omega
  have hn1' : n' - 1 < n' := by omega
  have hlast := hg.rng (n' - 1)
  have HV := Lib.hid (show invP p g = bezX (g.getD (n' - 1) 0) p % p by unfold invP; rw [← hl'])
  generalize hla : g.getD (n' - 1) 0 = la at *
  obtain ⟨iv, hiv⟩ : ∃ x, invP p g = x := ⟨_, rfl⟩
  have hivb := invP_lt (p := p) (g := g) p2
  rw [hiv] at HV hivb
  have HIV := Lib.hid hiv
  obtain ⟨la0, la1⟩ := hlast
  obtain ⟨iv0, iv1⟩ := hivb
  clear h h1' h2' hl' hn' hno' hnc' hi hz0 hz1 hz2 hf hg h0 hla hiv
  go_enter Try.func143, Try.ntmps143
  go_wp2_with fail
  refine (specOwn_any HS.out).mono ?_
  rintro e W1 ⟨v, rfl, hr1, hb1⟩
  have HR1 := Lib.hid hr1
  have HB1 := Lib.hid hb1
  have hbs := hb1.size
  have b1' : W1.cell? ⟨a', n' - 1, none⟩ = some (.int .i64 la) := by rw [hb1.cell (p := ⟨a', n' - 1, none⟩) hag']; exact b1
  clear b1
  by_cases hle : n' ≤ n
  · obtain ⟨q, hqq⟩ : ∃ q, n + 1 - n' = q := ⟨_, rfl⟩
    have hsum : (n : Int) - (n' : Int) + 1 = (q : Int) := by omega
    have hq0 : max (0 : Int) (q : Int) = (q : Int) := by omega
    have hq9 : q ≤ 20 := by omega
    have hqn : q + g.length = f.length + 1 := by have := HL.out; have := HL'.out; omega
    have HQN := Lib.hid hqn
    have hr1' : W1.ownsRow w.heap.size 2 1 v n (f.map (Value.int .i64)) := by rw [HL.out]; exact hr1
    rcases row_shape hr1' with ⟨hz, _⟩ | ⟨_, G, cap, rfl, hbg, hgw⟩
    · omega
    clear hr1 hr1' hb1 hqn hqq
    have hm0 : max (0 : Int) ((n : Int) - (n' : Int) + 1) = (q : Int) := by omega
    go_upto_region 2 with fail
    go_wp2_with (at_make; refine wpList_make_full _ rfl (.tmp 22) (.tmp 22) 26 rfl W1.heap.size 2 i0 (.int .i64 0) 1 Try.underlying26 HI.out HZ0.out HZ1.out .i64 .i64 _ _ q rfl rfl rfl rfl (by rw [HZ2.out]; omega) (by unfold maxLen; omega) (Nat.le_refl _) ?_; intro w2 hown hgrow; have b2 : w2.cell? ⟨a', n' - 1, none⟩ = some (.int .i64 la) := (by rw [(HB1.out.grown hgrow hbs (fun k h => by cases h)).cell (p := ⟨a', n' - 1, none⟩) hag', ← HB1.out.cell (p := ⟨a', n' - 1, none⟩) hag']; exact b1'))
    have HB2 := Lib.hid (HB1.out.grown hgrow hbs (fun k h => by cases h))
    have HR2 := Lib.hid (show IntRow w.heap.size w2 (.slice (some ⟨G, 0, none⟩) n cap) f from World.ownsRow.kept HR1.out hgrow (.inr (by intro e; cases e)))
    have HQ2 := Lib.hid (int_made hown)
    have hGQ : G ≠ W1.heap.size := by omega
    generalize W1.heap.size = Q at *
    clear hown hgrow HR1 HB1 hm0 hsum hq0 b1'
    go_wp2_with fail
    refine (l02Inv8_any la p w2 la0 la1 p2 (by omega)).mono ?_
    rw [← HV.out]
    rintro e w3 ⟨rfl, rfl⟩
    clear b2
    go_wp2_with fail
    go_loopw [11] (fun s wr => ∃ (k : Nat) (y : Int), k + n' ≤ n + 1 ∧ s = .int .i64 y ∧ y = (n : Int) - (n' : Int) - (k : Int) ∧ IntRow w.heap.size wr (.slice (some ⟨G, 0, none⟩) n cap) (tabL n (mdS p iv g (fun j => f.getD j 0) n k)) ∧ IntRow Q wr (.slice (some ⟨Q, 0, none⟩) q q) (qX p iv f g q k) ∧ Below w.heap.size w wr) (fun s _ => (intOf s + 1).toNat)
    case atStart =>
      refine ⟨0, (q : Int) - 1, by omega, by first | rfl | go_num, by have := HQN.out; have := HL.out; have := HL'.out; omega, ?_, ?_, HB2.out⟩
      · have : f = tabL n (mdS p iv g (fun j => f.getD j 0) n 0) := by
          refine ext_getD (by rw [tabL_length]; exact HL.out.symm) fun i hi => ?_
          rw [tabL_getD (by have := HL.out; omega)]; rfl
        rw [← this]; exact HR2.out
      · rw [qX_zero HQN.out]; exact HQ2.out
    case round =>
      obtain ⟨k, y, hk, rfl, hy, hr, hqr, hb⟩ := hrel
      have HR := Lib.hid hr
      have HQ := Lib.hid hqr
      have HB := Lib.hid hb
      have HY := Lib.hid hy
      clear hr hqr hb HR2 HQ2 HB2
      by_cases hlt : 0 ≤ y
      · obtain ⟨i, hi⟩ : ∃ i : Nat, y = i := ⟨y.toNat, by omega⟩
        subst hi
        have hik : i + g.length + k = f.length := by have := HL.out; have := HL'.out; omega
        have HIK := Lib.hid hik
        obtain ⟨s, hs⟩ : ∃ s, i + n' = s := ⟨_, rfl⟩
        have his : (i : Int) + (n' : Int) = (s : Int) := by omega
        have hs0 : s ≤ 20 := by omega
        obtain ⟨m, hm2⟩ : ∃ m, m + 1 = s := ⟨s - 1, by omega⟩
        have hsm : (s : Int) - 1 = (m : Int) := by omega
        have hmn : m < n := by omega
        have hiq : i < q := by have := HQN.out; have := HL.out; have := HL'.out; omega
        have ws : IntKind.i64.wrap (s : Int) = (s : Int) := IntWalk.i64_in _ (by omega)
        have wm : IntKind.i64.wrap (m : Int) = (m : Int) := IntWalk.i64_in _ (by omega)
        have c1 := int_at HR.out (tabL_length _ _) hmn
        rw [tabL_getD hmn] at c1
        have hce : mdC p iv g (fun j => f.getD j 0) n k = mdS p iv g (fun j => f.getD j 0) n k m * iv % p := by unfold mdC; rw [show n - 1 - k = m by have := HIK.out; have := HL.out; have := HL'.out; omega]
        have HCE := Lib.hid (show mdC p iv g (fun j => f.getD j 0) f.length k = mdC p iv g (fun j => f.getD j 0) n k by rw [← HL.out])
        have HSUB := Lib.hid (subX_end (p := p) (inv := iv) (g := g) (r0 := fun j => f.getD j 0) (show i + g.length + k = n by rw [HL.out]; exact hik))
        have HQS := Lib.hid (qX_step (p := p) (inv := iv) (f := f) (g := g) HQN.out hik)
        rw [HCE.out] at HQS
        obtain ⟨y0, y1⟩ := mdS_lt (inv := iv) (g := g) (N := n) HF.out k m
        have hpb := prod_small p97 ⟨y0, y1⟩ ⟨iv0, iv1⟩
        have HBD := Lib.hid (fun j => mdS_lt (inv := iv) (g := g) (N := n) HF.out k j)
        obtain ⟨z, hz⟩ : ∃ z, mdS p iv g (fun j => f.getD j 0) n k m = z := ⟨_, rfl⟩
        rw [hz] at c1 hce hpb y0 y1
        obtain ⟨x, hx⟩ : ∃ x, mdC p iv g (fun j => f.getD j 0) n k = x := ⟨_, rfl⟩
        rw [hx] at hce HSUB HQS
        have wz : IntKind.i64.wrap (z * iv) = z * iv := IntWalk.i64_in _ (by omega)
        have tz : (z * iv).tmod p = x := by rw [tmod_nonneg hpb.1, hce]
        have hx0 : 0 ≤ x ∧ x < p := by rw [hce]; exact ⟨Int.emod_nonneg _ (by omega), Int.emod_lt_of_pos _ (by omega)⟩
        have wx : IntKind.i64.wrap x = x := IntWalk.i64_in _ (by omega)
        have HX0 := Lib.hid hx0
        have f2 := int_frozen HQ.out (qX_length p iv f g q k) i
        have c2 := int_at HQ.out (qX_length p iv f g q k) hiq
        obtain ⟨y2, hy2⟩ : ∃ y2, (qX p iv f g q k).getD i 0 = y2 := ⟨_, rfl⟩
        rw [hy2] at c2
        have HQ1 := Lib.hid (int_stored HQ.out (qX_length p iv f g q k) i x)
        rw [HQS.out] at HQ1
        have HR1 := Lib.hid (row_other8 HR.out (a := ⟨Q, i, none⟩) (own_ne8 hGQ) (.int .i64 x))
        have HB1 := Lib.hid (HB.out.setCell (p := ⟨Q, i, none⟩) hbs (.int .i64 x))
        have hiq' : (i : Int) < (q : Int) := by omega
        have hmn' : (m : Int) < (n : Int) := by omega
        clear HQ hy2 HQS hce hx hz hs hm2 hik HCE hy hx0 hpb y0 y1
        go_upto_region 9 with fail
        generalize wr.setCell ⟨Q, i, none⟩ (.int .i64 x) = W3 at *
        clear c1 c2 f2 HR HB wz tz
        go_wp2_with fail
        go_loopw [13] (fun s wr => ∃ j : Nat, j ≤ n' ∧ s = .int .i64 j ∧ IntRow w.heap.size wr (.slice (some ⟨G, 0, none⟩) n cap) (subX p (mdS p iv g (fun j => f.getD j 0) n k) g x n i j) ∧ IntRow Q wr (.slice (some ⟨Q, 0, none⟩) q q) (qX p iv f g q (k + 1)) ∧ Below w.heap.size w wr) (fun s _ => n' - (intOf s).toNat)
        case atStart => exact ⟨0, Nat.zero_le _, rfl, by rw [subX_zero]; exact HR1.out, HQ1.out, HB1.out⟩
        case round =>
          obtain ⟨j, hj, rfl, hr, hqr, hb⟩ := hrel
          have HR := Lib.hid hr
          have HQ := Lib.hid hqr
          have HB := Lib.hid hb
          clear hr hqr hb HR1 HQ1 HB1
          by_cases hltj : j < n'
          · obtain ⟨t, ht⟩ : ∃ t, i + j = t := ⟨_, rfl⟩
            have hijt : (i : Int) + (j : Int) = (t : Int) := by omega
            have htn : t < n := by have := HIK.out; have := HL.out; have := HL'.out; omega
            have wt : IntKind.i64.wrap (t : Int) = (t : Int) := IntWalk.i64_in _ (by omega)
            have b2 := HC'.out j hltj
            rw [← HB.out.cell (p := ⟨a', j, none⟩) hag'] at b2
            have c4 := int_at HR.out (subX_length _ _ _ _ _ _ _) htn
            rw [subX_at ht htn] at c4
            have f4 := int_frozen HR.out (subX_length _ _ _ _ _ _ _) t
            have HE := Lib.hid (subX_step (p := p) (r := mdS p iv g (fun j => f.getD j 0) n k) (g := g) (c := x) ht htn)
            have hbd := HBD.out t
            have hmd := prod_small p97 HX0.out (HG.out.rng j)
            obtain ⟨z, hzz⟩ : ∃ x, g.getD j 0 = x := ⟨_, rfl⟩
            obtain ⟨r, hrr⟩ : ∃ x, mdS p iv g (fun j => f.getD j 0) n k t = x := ⟨_, rfl⟩
            rw [hzz] at b2 HE hmd
            rw [hrr] at c4 HE hbd
            have w1 : IntKind.i64.wrap (x * z) = x * z := IntWalk.i64_in _ (by omega)
            have w2 : IntKind.i64.wrap (r - x * z) = r - x * z := IntWalk.i64_in _ (by omega)
            have htn' : (t : Int) < (n : Int) := by omega
            have hltj' : (j : Int) < (n' : Int) := by omega
            clear hzz hrr ht hbd hmd
            go_upto_region 12 with fail
            refine wp_region_still_tail 20 (by kernel_rfl) (by kernel_rfl) ?_
            simp only [List.take_succ_cons, List.take_zero, List.drop_succ_cons, List.drop_zero]
            iterate 18 still_step
            still_call ((mod8_any (r - x * z) p _ p2 (by omega)).mono fun e w h => ⟨h.1, h.2.symm⟩)
            repeat still_step
            refine wpStill_nil ?_
            change wpList _ _ _ _ _ wr.drew
            have HR1 := Lib.hid (World.ownsRow.drew HR.out)
            have HQ1 := Lib.hid (World.ownsRow.drew HQ.out)
            have HB1 := Lib.hid (below_drewN HB.out 1)
            replace f4 : wr.drew.frozen? ⟨G, t, none⟩ = false := f4
            replace c4 : wr.drew.cell? ⟨G, t, none⟩ = _ := c4
            replace HR1 : Hid (IntRow w.heap.size wr.drew (.slice (some ⟨G, 0, none⟩) n cap) (subX p (mdS p iv g (fun j => f.getD j 0) n k) g x n i j)) := HR1
            replace HQ1 : Hid (IntRow Q wr.drew (.slice (some ⟨Q, 0, none⟩) q q) (qX p iv f g q (k + 1))) := HQ1
            replace HB1 : Hid (Below w.heap.size w wr.drew) := HB1
            clear HR HQ HB b2
            generalize wr.drew = W4 at *
            have HR3 := Lib.hid (int_stored HR1.out (subX_length _ _ _ _ _ _ _) t ((r - x * z) % p))
            rw [HE.out] at HR3
            have HQ3 := Lib.hid (row_other8 HQ1.out (a := ⟨G, t, none⟩) (own_ne8 (Ne.symm hGQ)) (.int .i64 ((r - x * z) % p)))
            have HB3 := Lib.hid (HB1.out.setCell (p := ⟨G, t, none⟩) hbg (.int .i64 ((r - x * z) % p)))
            clear HR1 HQ1 HB1
            go_wp2_with fail
            exact ⟨⟨j + 1, by omega, by go_num, HR3.out, HQ3.out, HB3.out⟩, by simp only [intOf]; omega⟩
          · have hjn : j = g.length := by have := HL'.out; omega
            have HR2 := Lib.hid (show IntRow w.heap.size wr (.slice (some ⟨G, 0, none⟩) n cap) (tabL n (mdS p iv g (fun j => f.getD j 0) n (k + 1))) by rw [← HSUB.out, ← hjn]; exact HR.out)
            clear HR
            go_wp2_with fail
            exact ⟨⟨k + 1, (i : Int) - 1, by have := HIK.out; have := HL.out; have := HL'.out; omega, by go_num, by have := HY.out; omega, HR2.out, HQ.out, HB.out⟩, by simp only [intOf]; omega⟩
      · have hkq : k = q := by have := HQN.out; have := HL.out; have := HL'.out; omega
        subst hkq
        have t1 : trimL (qX p iv f g k k) = quoP p f g := by rw [← HIV.out]; exact qX_end HQN.out
        have t2 : trimL (tabL n (mdS p iv g (fun j => f.getD j 0) n k)) = remP p f g := by rw [← HIV.out]; exact rX_end HL.out (by have := HQN.out; omega)
        have T1 := Lib.hid t1
        have T2 := Lib.hid t2
        have lq : (qX p iv f g k k).length = k := qX_length _ _ _ _ _ _
        have lr : (tabL n (mdS p iv g (fun j => f.getD j 0) n k)).length = n := tabL_length _ _
        have SQ := Lib.hid (show Seen wr (some ⟨Q, 0, none⟩) k k (qX p iv f g k k) by
          have h := row_seen (o := some ⟨Q, 0, none⟩) (n := (qX p iv f g k k).length) (c := k) (by rw [lq]; exact HQ.out) (by rw [lq]; omega)
          rw [lq] at h; exact h)
        have hbs2 := HB.out.size
        generalize qX p iv f g k k = ql at *
        generalize tabL n (mdS p iv g (fun j => f.getD j 0) n k) = rl at *
        clear t1 t2 HQ hy
        go_wp2_with fail
        refine (specTrim_any SQ.out).mono ?_
        rw [T1.out]
        rintro e W5 ⟨v5, rfl, hr5, hb5⟩
        have HR5 := Lib.hid (row_below HR.out hb5 (Nat.le_refl _))
        have HB5 := Lib.hid (HB.out.trans (hb5.mono HB.out.size))
        have HQ5 := Lib.hid hr5
        have SR := Lib.hid (show Seen W5 (some ⟨G, 0, none⟩) n cap rl by
          have h := row_seen (o := some ⟨G, 0, none⟩) (n := rl.length) (c := cap) (w := W5) (l := rl) (by rw [lr]; exact HR5.out) (by rw [lr]; omega)
          rw [lr] at h; exact h)
        have hbs5 := HB5.out.size
        clear hr5 hb5
        go_wp2_with fail
        refine (specTrim_any SR.out).mono ?_
        rw [T2.out]
        rintro e W6 ⟨v6, rfl, hr6, hb6⟩
        have HQ6 := Lib.hid (row_below HQ5.out hb6 (Nat.le_refl _))
        have HR6 := Lib.hid hr6
        have HAP := Lib.hid (apart8 HQ5.out HR6.out)
        have HB6 := Lib.hid (HB5.out.trans (hb6.mono HB5.out.size))
        have HQ7 := Lib.hid (intRow_lower HQ6.out hbs2)
        have HR7 := Lib.hid (intRow_lower HR6.out hbs5)
        clear hr6 hb6 HQ5 HQ6 HR5 HR6
        go_wp2_with fail
        go_ret2
        exact ⟨v5, v6, rfl, HQ7.out, HR7.out, HB6.out, HAP.out⟩
  · have hsum : (n : Int) - (n' : Int) + 1 ≤ 0 := by omega
    have hm0 : max (0 : Int) ((n : Int) - (n' : Int) + 1) = ((0 : Nat) : Int) := by omega
    have hgf : f.length < g.length := by have := HL.out; have := HL'.out; omega
    have T1 := Lib.hid (few_quo (p := p) hgf)
    have T2 := Lib.hid (few_rem (p := p) hgf)
    obtain ⟨o1, c1, rfl⟩ := row_slice hr1
    clear hgf hr1 hb1
    go_upto_region 2 with fail
    go_wp2_with (at_make; refine wpList_make_full _ rfl (.tmp 22) (.tmp 22) 26 rfl W1.heap.size 2 i0 (.int .i64 0) 1 Try.underlying26 HI.out HZ0.out HZ1.out .i64 .i64 _ _ 0 rfl rfl rfl rfl (by rw [HZ2.out]; omega) (by unfold maxLen; omega) (Nat.le_refl _) ?_; intro w2 hown hgrow; have b2 : w2.cell? ⟨a', n' - 1, none⟩ = some (.int .i64 la) := (by rw [(HB1.out.grown hgrow hbs (fun k h => by cases h)).cell (p := ⟨a', n' - 1, none⟩) hag', ← HB1.out.cell (p := ⟨a', n' - 1, none⟩) hag']; exact b1'))
    have HB2 := Lib.hid (HB1.out.grown hgrow hbs (fun k h => by cases h))
    have HR2 := Lib.hid (show IntRow w.heap.size w2 (.slice o1 f.length c1) f from World.ownsRow.kept HR1.out hgrow (by cases hv : (Value.slice o1 f.length c1).ownBlock with | none => exact .inl rfl | some k => exact .inr (by simp)))
    have HQ2 := Lib.hid (show Seen w2 (some ⟨W1.heap.size, 0, none⟩) 0 0 [] from row_seen (w := w2) (l := []) (int_made hown) (by simp))
    have SR2 := Lib.hid (row_seen HR2.out (by have := HL.out; omega))
    generalize W1.heap.size = Q at *
    have hbs2 := HB2.out.size
    clear hown hgrow HR1 HB1 hm0 hsum b1'
    go_wp2_with fail
    refine (l02Inv8_any la p w2 la0 la1 p2 (by omega)).mono ?_
    rw [← HV.out]
    rintro e w3 ⟨rfl, rfl⟩
    clear b2
    go_wp2_with fail
    refine wp_loop_rounds 1 ?_
    rw [rounds_succ]
    go_wp2_with fail
    refine (specTrim_any HQ2.out).mono ?_
    rintro e W5 ⟨v5, rfl, hr5, hb5⟩
    have HB5 := Lib.hid (HB2.out.trans (hb5.mono HB2.out.size))
    have HQ5 := Lib.hid hr5
    have SR := Lib.hid (seen_below SR2.out hb5)
    have hbs5 := HB5.out.size
    clear hr5 hb5
    go_wp2_with fail
    refine (specTrim_any SR.out).mono ?_
    rw [T2.out]
    rintro e W6 ⟨v6, rfl, hr6, hb6⟩
    have HQ6 := Lib.hid (row_below HQ5.out hb6 (Nat.le_refl _))
    have HR6 := Lib.hid hr6
    have HAP := Lib.hid (apart8 HQ5.out HR6.out)
    have HB6 := Lib.hid (HB5.out.trans (hb6.mono HB5.out.size))
    have HQ7 := Lib.hid (show IntRow w.heap.size W6 v5 (quoP p f g) by rw [T1.out]; exact intRow_lower HQ6.out hbs2)
    have HR7 := Lib.hid (intRow_lower HR6.out hbs5)
    clear hr6 hb6 HQ5 HQ6 HR6
    go_wp2_with fail
    go_ret2
    exact ⟨v5, v6, rfl, HQ7.out, HR7.out, HB6.out, HAP.out⟩
end Go.Proofs.Ytbjkcoajabcibaa
namespace Go.Proofs.Ytbjkcoajabcibaa
open Go.RowKit
set_option linter.unusedVariables false
set_option linter.unusedSimpArgs false
set_option maxRecDepth 20000
def twC (p : Int) (f g : List Int) : Int := if twoM p f g then (if g.length = 0 then 5 else 0) else 1
def dvQ (p : Int) (f g : List Int) : List Int := if twC p f g = 0 then quoP p f g else []
def dvR (p : Int) (f g : List Int) : List Int := if twC p f g = 0 then remP p f g else []
theorem twC_zero {p : Int} {f g : List Int} (h : twC p f g = 0) : modB p f = true ∧ modB p g = true ∧ g.length ≠ 0 := by
  unfold twC at h
  split at h
  · rename_i ht
    split at h
    · omega
    · rename_i h0; exact ⟨(twoM_of ht).1, (twoM_of ht).2, h0⟩
  · omega
/-- two lists and a code -/
def Int2P (l m : List Int) (c : Int) (w : World) (e : Ending) (w' : World) : Prop :=
  ∃ v u, e = .returned (.tuple #[v, u, .int .i64 c]) ∧ IntRow w.heap.size w' v l ∧ IntRow w.heap.size w' u m ∧ Below w.heap.size w w' ∧ (v.ownBlock = none ∨ v.ownBlock ≠ u.ownBlock)
theorem l08Div_mod {p : Int} {o o' : Option Addr} {n n' c c' : Nat} {f g : List Int} {w : World} (hf : modB p f = true) (hg : modB p g = true) (h0 : g.length ≠ 0) (h : Seen w o n c f) (h' : Seen w o' n' c' g) :
    Calls Try.prog 143 #[.int .i64 p, .slice o n c, .slice o' n' c'] w (Own2Post (quoP p f g) (remP p f g) w) := by
  have F := modB_of hf
  have G := modB_of hg
  exact l08Div_any p (modB_small hf) h h' F.mod G.mod h0 (by have := h.1; have := F.len; omega) (by have := h'.1; have := G.len; omega)
theorem seen_one (w : World) (x : Int) (T : TypeId) : Seen (w.alloc (.cells #[.int .i64 x] T)) (some ⟨w.heap.size, 0, none⟩) 1 1 [x] := by
  refine ⟨rfl, by omega, fun h => (by cases h), Nat.le_refl _, w.heap.size, fun _ => ⟨rfl, by simp⟩, fun k hk => ?_⟩
  have e : k = 0 := by omega
  subst e
  rw [World.cell?_alloc_new]; rfl
theorem seen_two (w : World) (x y : Int) (T : TypeId) : Seen (w.alloc (.cells #[.int .i64 x, .int .i64 y] T)) (some ⟨w.heap.size, 0, none⟩) 2 2 [x, y] := by
  refine ⟨rfl, by omega, fun h => (by cases h), Nat.le_refl _, w.heap.size, fun _ => ⟨rfl, by simp⟩, fun k hk => ?_⟩
  have e : k = 0 ∨ k = 1 := by omega
  rcases e with e | e
  · subst e; rw [World.cell?_alloc_new]; rfl
  · subst e; rw [World.cell?_alloc_new]; rfl
theorem inv_poly {p : Int} {f : List Int} (p2 : 2 ≤ p) (p97 : p ≤ 97) (pp : PrimeP p) (hf : ModP p f) (h0 : f.length ≠ 0) : polyB [invP p f] = true := by
  have hi := invP_dvd p2 p97 pp hf (fun e => h0 (by rw [e]; rfl))
  have hn := prime_inv pp hi
  have hb := invP_lt (p := p) (g := f) p2
  generalize invP p f = x at *
  refine polyB_mk (by simp) (fun i hi => ?_) ?_
  · cases i with
    | zero => simp; omega
    | succ i => simp
  · have : ¬ x = 0 := fun e => hn (by rw [e]; exact Int.dvd_zero _)
    simpa [lastB] using this
set_option maxHeartbeats 1000000 in
theorem l08Monic_any (p : Int) (hs : smallB p = true) {o : Option Addr} {n c : Nat} {f : List Int} {w : World} (h : Seen w o n c f) (hf : ModP p f) (hn9 : n ≤ 9) :
    Calls Try.prog 162 #[.int .i64 p, .slice o n c] w (OwnPost (monP p f) w) := by
  obtain ⟨p2, p97, pp⟩ := small_prime hs
  have HS := Lib.hid h
  obtain ⟨hl, hn, hno, hnc, g, h1, h2⟩ := h
  by_cases h0 : n = 0
  · have HE := Lib.hid (show monP p f = [] by unfold monP; rw [if_pos (by omega)])
    have HR := Lib.hid (intRow_made w)
    have HB := Lib.hid ((Below.refl w.heap.size w).alloc (Nat.le_refl _) (.cells #[] 2))
    clear hno h1 h2 hl hs
    subst h0
    go_enter Try.func162, Try.ntmps162
    go_wp2_with fail
    go_ret
    rw [HE.out]
    exact ⟨_, rfl, HR.out, HB.out⟩
  · obtain ⟨rfl, hag⟩ := h1 (by omega)
    have b1 := h2 (n - 1) (by omega)
    have hn1 : (n : Int) - 1 = ((n - 1 : Nat) : Int) := by omega
    have h0' : ((n : Int) == 0) = false := by simp; omega
    have hlast := hf.rng (n - 1)
    have HV := Lib.hid (show invP p f = bezX (f.getD (n - 1) 0) p % p by unfold invP; rw [← hl])
    have hip := inv_poly p2 p97 pp hf (by omega)
    have hfp := mod_poly p97 (by omega) hf
    have HE := Lib.hid (show prodL p f [invP p f] = monP p f by unfold monP prodL; rw [if_neg (by omega)])
    generalize hla : f.getD (n - 1) 0 = la at *
    obtain ⟨la0, la1⟩ := hlast
    obtain ⟨iv, hiv⟩ : ∃ x, invP p f = x := ⟨_, rfl⟩
    rw [hiv] at HV HE hip
    have HM := Lib.hid fun (wx : World) (o' : Option Addr) (h : Seen wx (some ⟨g, 0, none⟩) n c f) (h' : Seen wx o' 1 1 [iv]) => l08Mul_any p p2 p97 h h' hfp hip
    have HS1 := Lib.hid (seen_below HS.out ((Below.refl w.heap.size w).alloc (Nat.le_refl _) (.cells #[.int .i64 iv] 2)))
    have HO1 := Lib.hid (seen_one w iv 2)
    have HB1 := Lib.hid ((Below.refl w.heap.size w).alloc (Nat.le_refl _) (.cells #[.int .i64 iv] 2))
    clear hno h1 h2 hl hn hs hf hip hfp hla hiv pp HS
    go_enter Try.func162, Try.ntmps162
    go_wp2_with fail
    refine (l02Inv8_any la p w la0 la1 p2 (by omega)).mono ?_
    rw [← HV.out]
    rintro e w2 ⟨rfl, rfl⟩
    go_wp2_with fail
    refine (HM.out _ _ HS1.out HO1.out).mono ?_
    rintro e w3 ⟨v, rfl, hr, hb⟩
    have HR := Lib.hid (intRow_lower hr HB1.out.size)
    have HB := Lib.hid (HB1.out.trans (hb.mono HB1.out.size))
    clear hr hb
    go_wp2_with fail
    go_ret
    rw [← HE.out]
    exact ⟨_, rfl, HR.out, HB.out⟩
def lenV : Value → Nat
  | .slice _ n _ => n
  | _ => 0
set_option maxHeartbeats 1600000 in
theorem l08Common_any (p : Int) (hs : smallB p = true) {o o' : Option Addr} {n n' c c' : Nat} {f g : List Int} {w : World} (h : Seen w o n c f) (h' : Seen w o' n' c' g) (hf : ModP p f) (hg : ModP p g) (hn : n ≤ 9) (hn' : n' ≤ 9) :
    Calls Try.prog 149 #[.int .i64 p, .slice o n c, .slice o' n' c'] w (OwnPost (gcdL p f g) w) := by
  obtain ⟨p2, p97, pp⟩ := small_prime hs
  have H0 := Lib.hid (And.intro h (And.intro h' (And.intro hf hg)))
  clear h h' hf hg
  go_enter Try.func149, Try.ntmps149
  go_wp2_with fail
  go_loopw [1, 2] (fun vf vg wr => ∃ (o1 : Option Addr) (n1 c1 : Nat) (F : List Int) (o2 : Option Addr) (n2 c2 : Nat) (G : List Int), vf = .slice o1 n1 c1 ∧ vg = .slice o2 n2 c2 ∧ Seen wr o1 n1 c1 F ∧ Seen wr o2 n2 c2 G ∧ ModP p F ∧ ModP p G ∧ n1 ≤ 9 ∧ n2 ≤ 9 ∧ gcdL p F G = gcdL p f g ∧ Below w.heap.size w wr) (fun _ vg _ => lenV vg)
  case atStart => exact ⟨o, n, c, f, o', n', c', g, rfl, rfl, H0.out.1, H0.out.2.1, H0.out.2.2.1, H0.out.2.2.2, hn, hn', rfl, Below.refl _ _⟩
  case round =>
    obtain ⟨o1, n1, c1, F, o2, n2, c2, G, rfl, rfl, s1, s2, m1, m2, l1, l2, hgc, hb⟩ := hrel
    have S1 := Lib.hid s1
    have S2 := Lib.hid s2
    have HB := Lib.hid hb
    have HG := Lib.hid hgc
    have HL2 := Lib.hid s2.1
    clear s1 s2 hb hgc H0
    by_cases h0 : n2 = 0
    · have HE := Lib.hid (show monP p F = gcdL p f g by rw [← HG.out]; exact (gcdL_end (by have := HL2.out; omega)).symm)
      have HM := Lib.hid (l08Monic_any p hs S1.out m1 l1)
      clear m1 m2
      subst h0
      go_wp2_with fail
      refine HM.out.mono ?_
      rintro e w3 ⟨v, rfl, hr, hb⟩
      have HR := Lib.hid (intRow_lower hr HB.out.size)
      have HB2 := Lib.hid (HB.out.trans (hb.mono HB.out.size))
      clear hr hb
      go_wp2_with fail
      go_ret
      rw [← HE.out]
      exact ⟨_, rfl, HR.out, HB2.out⟩
    · have h0' : (0 : Int) < (n2 : Int) := by omega
      have hG0 : G.length ≠ 0 := by have := HL2.out; omega
      have HD := Lib.hid (l08Div_any p hs S1.out S2.out m1 m2 hG0 (by omega) (by omega))
      have HST := Lib.hid (gcdL_step p2 p97 pp m1 m2 hG0)
      have hd := divP_is p2 p97 pp m1 m2 (fun e => hG0 (by rw [e]; rfl))
      have HDD := Lib.hid (And.intro hd.mr hd.deg)
      have HM2 := Lib.hid m2
      clear m1 m2 hd hG0
      go_wp2_with fail
      refine HD.out.mono ?_
      rintro e w3 ⟨v, u, rfl, hq, hr, hb, hap⟩
      obtain ⟨o3, c3, rfl⟩ := row_slice hq
      obtain ⟨o4, c4, rfl⟩ := row_slice hr
      have HR := Lib.hid (row_seen hr (by have := HDD.out.2; have := HL2.out; omega))
      have S3 := Lib.hid (seen_below S2.out hb)
      have HB2 := Lib.hid (HB.out.trans (hb.mono HB.out.size))
      clear hq hr hb hap HD S1 S2
      go_wp2_with fail
      exact ⟨⟨o2, n2, c2, G, o4, (remP p F G).length, c4, remP p F G, rfl, rfl, S3.out, HR.out, HM2.out, HDD.out.1, l2, by have := HDD.out.2; have := HL2.out; omega, by rw [← HST.out]; exact HG.out, HB2.out⟩, by simp only [lenV]; have := HDD.out.2; have := HL2.out; omega⟩
def cmC (p : Int) (f g : List Int) : Int := if twoM p f g then 0 else 1
def cmQ (p : Int) (f g : List Int) : List Int := if twoM p f g then gcdL p f g else []
end Go.Proofs.Ytbjkcoajabcibaa
namespace Go.Proofs.Ytbjkcoajabcibaa
open Go.RowKit
set_option linter.unusedVariables false
set_option linter.unusedSimpArgs false
set_option maxRecDepth 20000
theorem l08Rest_any (p : Int) (hs : smallB p = true) {o o' : Option Addr} {n n' c c' : Nat} {f g : List Int} {w : World} (h : Seen w o n c f) (h' : Seen w o' n' c' g) (hf : ModP p f) (hg : ModP p g) (h0 : g.length ≠ 0) (hn20 : n ≤ 20) (hn9' : n' ≤ 20) :
    Calls Try.prog 152 #[.int .i64 p, .slice o n c, .slice o' n' c'] w (OwnPost (remP p f g) w) := by
  have HD := Lib.hid (l08Div_any p hs h h' hf hg h0 hn20 hn9')
  clear h h' hf hg h0
  go_enter Try.func152, Try.ntmps152
  go_wp2_with fail
  refine HD.out.mono ?_
  rintro e w3 ⟨v, u, rfl, hq, hr, hb, hap⟩
  have HR := Lib.hid hr
  have HB := Lib.hid hb
  clear hq hr hb hap HD
  go_wp2_with fail
  go_ret
  exact ⟨_, rfl, HR.out, HB.out⟩
theorem pow_len {p : Int} {f r : List Int} {e : Nat} (h : IsPow p f e r) (hf : f.length ≤ 9) : r.length ≤ 8 := by have := h.deg; omega
theorem pow_poly {p : Int} {f r : List Int} {e : Nat} (p97 : p ≤ 97) (h : IsPow p f e r) (hf : f.length ≤ 9) : polyB r = true := mod_poly p97 (by have := h.deg; omega) h.mod
set_option maxHeartbeats 4000000 in
theorem l08Power_any (p : Int) (hs : smallB p = true) {oa o : Option Addr} {ca n c : Nat} {f : List Int} {w : World} (E0 : Nat) (hE : E0 ≤ 1000000000000) (ha : Seen w oa 2 ca [0, 1]) (h : Seen w o n c f) (hf : ModP p f) (h0 : f.length ≠ 0) (hn9 : n ≤ 9) :
    Calls Try.prog 195 #[.int .i64 p, .slice oa 2 ca, .int .i64 (E0 : Int), .slice o n c] w (OwnPost (powL p f E0) w) := by
  obtain ⟨p2, p97, pp⟩ := small_prime hs
  have hne : f ≠ [] := fun e => h0 (by rw [e]; rfl)
  have hfl : f.length ≤ 9 := by have := h.1; omega
  obtain ⟨k0, k1⟩ := pow_first p2 p97 pp hf hne
  have m1 : ModP p [1] := ⟨fun i => by
    match i with
    | 0 => exact ⟨by simp, by simp; omega⟩
    | i + 1 => simp; omega, by simp [lastB]⟩
  have mx := (pw_x p2 f).mod
  have HA := Lib.hid ha
  have HS := Lib.hid h
  have HF := Lib.hid (And.intro hf (And.intro h0 hne))
  have HREST := Lib.hid fun (wx : World) (o1 : Option Addr) (n1 c1 : Nat) (a : List Int) (h1 : Seen wx o1 n1 c1 a) (hx : Seen wx o n c f) (hm : ModP p a) (hn : n1 ≤ 20) => l08Rest_any p hs h1 hx hm hf h0 hn (by omega)
  have HMUL := Lib.hid fun (wx : World) (o1 o2 : Option Addr) (n1 n2 c1 c2 : Nat) (a b : List Int) (h1 : Seen wx o1 n1 c1 a) (h2 : Seen wx o2 n2 c2 b) (ha : polyB a = true) (hb : polyB b = true) => l08Mul_any p p2 p97 h1 h2 ha hb
  have HJ := Lib.hid fun (r s : List Int) (a b : Nat) (h1 : IsPow p f a r) (h2 : IsPow p f b s) => pow_join p2 p97 pp hf hne h1 h2
  have HMOD := Lib.hid fun (r s : List Int) => redL_mod (p := p) (by omega) (mulL r s)
  have HEQ := Lib.hid fun (r : List Int) (h : IsPow p f E0 r) => powL_eq p2 p97 pp hf hne h
  have HS1 := Lib.hid (seen_one w 1 2)
  have hb0 : Below w.heap.size w (w.alloc (.cells #[.int .i64 1] 2)) := (Below.refl w.heap.size w).alloc (Nat.le_refl _) _
  have HB0 := Lib.hid hb0
  have HSF := Lib.hid (seen_below h hb0)
  have HSA := Lib.hid (seen_below ha hb0)
  have K0 := Lib.hid k0
  have K1 := Lib.hid k1
  have M1 := Lib.hid m1
  have MX := Lib.hid mx
  clear ha h hf h0 hne k0 k1 m1 mx hb0 hs
  go_enter Try.func195, Try.ntmps195
  go_wp2_with fail
  refine (HREST.out _ _ _ _ _ HS1.out HSF.out M1.out (by omega)).mono ?_
  rintro e W2 ⟨v, rfl, hr, hb⟩
  obtain ⟨o1, c1, rfl⟩ := row_slice hr
  have HB2 := Lib.hid (HB0.out.trans (hb.mono HB0.out.size))
  have SF2 := Lib.hid (seen_below HSF.out hb)
  have SA2 := Lib.hid (seen_below HSA.out hb)
  have R2 := Lib.hid (intRow_lower hr HB0.out.size)
  clear hr hb HS1 HSF HSA HS HA
  go_wp2_with fail
  refine (HREST.out _ _ _ _ _ SA2.out SF2.out MX.out (by omega)).mono ?_
  rintro e W3 ⟨v, rfl, hr, hb⟩
  obtain ⟨o2, c2, rfl⟩ := row_slice hr
  have HB3 := Lib.hid (HB2.out.trans (hb.mono HB2.out.size))
  have SF3 := Lib.hid (seen_below SF2.out hb)
  have R3 := Lib.hid (row_below R2.out hb (Nat.le_refl _))
  have A3 := Lib.hid (intRow_lower hr HB2.out.size)
  clear hr hb SF2 SA2 R2 HB2
  go_wp2_with fail
  go_loopw [1, 2, 9] (fun va ve vo wr => ∃ (o1 o2 : Option Addr) (c1 c2 : Nat) (r s : List Int) (A B e : Nat), va = .slice o2 s.length c2 ∧ ve = .int .i64 (e : Int) ∧ vo = .slice o1 r.length c1 ∧ IntRow w.heap.size wr (.slice o1 r.length c1) r ∧ IntRow w.heap.size wr (.slice o2 s.length c2) s ∧ IsPow p f A r ∧ IsPow p f B s ∧ A + B * e = E0 ∧ e ≤ E0 ∧ Seen wr o n c f ∧ Below w.heap.size w wr) (fun _ ve _ _ => (intOf ve).toNat)
  case atStart => exact ⟨_, _, _, _, _, _, 0, 1, E0, rfl, rfl, rfl, R3.out, A3.out, K0.out, K1.out, by omega, Nat.le_refl _, SF3.out, HB3.out⟩
  case round =>
    obtain ⟨o1, o2, c1, c2, r, s, A, B, e, rfl, rfl, rfl, rr, rs, pr, ps, hE1, heE, sf, hb⟩ := hrel
    have R := Lib.hid rr
    have S := Lib.hid rs
    have SF := Lib.hid sf
    have HB := Lib.hid hb
    have PR := Lib.hid pr
    have PS := Lib.hid ps
    have HEE := Lib.hid hE1
    have lr := pow_len pr hfl
    have ls := pow_len ps hfl
    have SR := Lib.hid (row_seen rr (by omega))
    have SS := Lib.hid (row_seen rs (by omega))
    have QR := Lib.hid (pow_poly p97 pr hfl)
    have QS := Lib.hid (pow_poly p97 ps hfl)
    clear rr rs sf hb pr ps hE1 R3 A3 SF3 HB3 K0 K1 M1 MX HB0
    by_cases hz : e = 0
    · have HP := Lib.hid (HEQ.out r (by have h := PR.out; have h2 := HEE.out; rw [hz, Nat.mul_zero, Nat.add_zero] at h2; rw [← h2]; exact h))
      subst hz
      go_wp2_with fail
      go_ret
      rw [← HP.out]
      exact ⟨_, rfl, R.out, HB.out⟩
    · have hz' : (0 : Int) < (e : Int) := by omega
      have hh : (e : Int) / 2 = ((e / 2 : Nat) : Int) := by omega
      have hhb : e / 2 ≤ E0 := by omega
      have hlt : e / 2 < e := by omega
      have lss := prodL_le p s s
      have lrs := prodL_le p r s
      by_cases ho : e % 2 = 1
      · have HOD := Lib.hid (half_odd HEE.out ho)
        have hbit : ((e : Int) % 2 == 1) = true := by simp; omega
        obtain ⟨e2, he2⟩ : ∃ e2, e / 2 = e2 := ⟨_, rfl⟩
        rw [he2] at HOD hh hhb hlt
        clear he2 ho
        go_wp2_with fail
        refine (HMUL.out _ _ _ _ _ _ _ _ _ SR.out SS.out QR.out QS.out).mono ?_
        rintro ee W4 ⟨v4, rfl, hr4, hb4⟩
        obtain ⟨o4, c4, rfl⟩ := row_slice hr4
        have S4 := Lib.hid (row_seen hr4 (by omega))
        have SF4 := Lib.hid (seen_below SF.out hb4)
        have SS4 := Lib.hid (seen_below SS.out hb4)
        have RS4 := Lib.hid (row_below S.out hb4 (Nat.le_refl _))
        have HB4 := Lib.hid (HB.out.trans (hb4.mono HB.out.size))
        clear hr4 hb4 SR SS SF S R HB
        go_wp2_with fail
        refine (HREST.out _ _ _ _ _ S4.out SF4.out (HMOD.out r s) (by omega)).mono ?_
        rintro ee W5 ⟨v5, rfl, hr5, hb5⟩
        obtain ⟨o5, c5, rfl⟩ := row_slice hr5
        have SF5 := Lib.hid (seen_below SF4.out hb5)
        have SS5 := Lib.hid (seen_below SS4.out hb5)
        have HB5 := Lib.hid (HB4.out.trans (hb5.mono HB4.out.size))
        have R5 := Lib.hid (intRow_lower hr5 HB4.out.size)
        clear hr5 hb5 S4 SF4 SS4 RS4 HB4
        go_wp2_with fail
        refine (HMUL.out _ _ _ _ _ _ _ _ _ SS5.out SS5.out QS.out QS.out).mono ?_
        rintro ee W6 ⟨v6, rfl, hr6, hb6⟩
        obtain ⟨o6, c6, rfl⟩ := row_slice hr6
        have S6 := Lib.hid (row_seen hr6 (by omega))
        have SF6 := Lib.hid (seen_below SF5.out hb6)
        have R6 := Lib.hid (row_below R5.out hb6 (Nat.le_refl _))
        have HB6 := Lib.hid (HB5.out.trans (hb6.mono HB5.out.size))
        clear hr6 hb6 SF5 SS5 R5 HB5
        go_wp2_with fail
        refine (HREST.out _ _ _ _ _ S6.out SF6.out (HMOD.out s s) (by omega)).mono ?_
        rintro ee W7 ⟨v7, rfl, hr7, hb7⟩
        obtain ⟨o7, c7, rfl⟩ := row_slice hr7
        have SF7 := Lib.hid (seen_below SF6.out hb7)
        have R7 := Lib.hid (row_below R6.out hb7 (Nat.le_refl _))
        have A7 := Lib.hid (intRow_lower hr7 HB6.out.size)
        have HB7 := Lib.hid (HB6.out.trans (hb7.mono HB6.out.size))
        clear hr7 hb7 S6 SF6 R6 HB6
        go_wp2_with fail
        exact ⟨⟨_, _, _, _, _, _, A + B, B + B, e2, rfl, by first | rfl | rw [hh], rfl, R7.out, A7.out, HJ.out _ _ _ _ PR.out PS.out, HJ.out _ _ _ _ PS.out PS.out, HOD.out, hhb, SF7.out, HB7.out⟩, by simp only [intOf]; omega⟩
      · have HOD := Lib.hid (half_even HEE.out (by omega))
        have hbit : ((e : Int) % 2 == 1) = false := by simp; omega
        obtain ⟨e2, he2⟩ : ∃ e2, e / 2 = e2 := ⟨_, rfl⟩
        rw [he2] at HOD hh hhb hlt
        clear he2 ho
        go_wp2_with fail
        refine (HMUL.out _ _ _ _ _ _ _ _ _ SS.out SS.out QS.out QS.out).mono ?_
        rintro ee W6 ⟨v6, rfl, hr6, hb6⟩
        obtain ⟨o6, c6, rfl⟩ := row_slice hr6
        have S6 := Lib.hid (row_seen hr6 (by omega))
        have SF6 := Lib.hid (seen_below SF.out hb6)
        have R6 := Lib.hid (row_below R.out hb6 (Nat.le_refl _))
        have HB6 := Lib.hid (HB.out.trans (hb6.mono HB.out.size))
        clear hr6 hb6 SF SS R S HB
        go_wp2_with fail
        refine (HREST.out _ _ _ _ _ S6.out SF6.out (HMOD.out s s) (by omega)).mono ?_
        rintro ee W7 ⟨v7, rfl, hr7, hb7⟩
        obtain ⟨o7, c7, rfl⟩ := row_slice hr7
        have SF7 := Lib.hid (seen_below SF6.out hb7)
        have R7 := Lib.hid (row_below R6.out hb7 (Nat.le_refl _))
        have A7 := Lib.hid (intRow_lower hr7 HB6.out.size)
        have HB7 := Lib.hid (HB6.out.trans (hb7.mono HB6.out.size))
        clear hr7 hb7 S6 SF6 R6 HB6
        go_wp2_with fail
        exact ⟨⟨_, _, _, _, _, _, A, B + B, e2, rfl, by first | rfl | rw [hh], rfl, R7.out, A7.out, PR.out, HJ.out _ _ _ _ PS.out PS.out, HOD.out, hhb, SF7.out, HB7.out⟩, by simp only [intOf]; omega⟩
def pxC (p e : Int) (f : List Int) : Int := if modB p f then (if inB e 0 1000000000000 then (if f.length = 0 then 5 else 0) else 2) else 1
def pxQ (p e : Int) (f : List Int) : List Int := if pxC p e f = 0 then powL p f e.toNat else []
theorem pxC_zero {p e : Int} {f : List Int} (h : pxC p e f = 0) : modB p f = true ∧ 0 ≤ e ∧ e ≤ 1000000000000 ∧ f.length ≠ 0 := by
  unfold pxC at h
  split at h
  · rename_i hm
    rcases inB_cases e 0 1000000000000 with ⟨h1, h2, h3⟩ | ⟨h1, _⟩
    · rw [h1] at h
      by_cases h0 : f.length = 0
      · simp [h0] at h
      · exact ⟨hm, h2, h3, h0⟩
    · rw [h1] at h; simp at h
  · omega
theorem evM_rng {p : Int} (hp : 0 < p) (f : List Int) (x : Int) : ∀ j, 0 ≤ evM p f x j ∧ evM p f x j < p
  | 0 => ⟨Int.le_refl _, hp⟩
  | j + 1 => ⟨Int.emod_nonneg _ (by omega), Int.emod_lt_of_pos _ hp⟩
def rtC (p : Int) (f : List Int) : Int := if modB p f then (if f.length = 0 then 4 else 0) else 1
def rtQ (p : Int) (f : List Int) : List Int := if rtC p f = 0 then rootsN p f p.toNat else []
theorem l08Der_any (p : Int) (p2 : 2 ≤ p) (p97 : p ≤ 97) {o : Option Addr} {n c : Nat} {f : List Int} {w : World} (h : Seen w o n c f) (hp : polyB f = true) :
    Calls Try.prog 182 #[.int .i64 p, .slice o n c] w (OwnPost (redL p (derL f)) w) := by
  have HS := Lib.hid h
  have hm : (derL f).length ≤ 9 := by have := (polyB_of hp).1; rw [derL, tabL_length]; omega
  clear h
  go_enter Try.func182, Try.ntmps182
  go_wp2_with fail
  refine (l06Der_any HS.out hp).mono ?_
  rintro e w2 ⟨v, rfl, hr, hb⟩
  obtain ⟨o2, c2, rfl, HS2⟩ := seen_row hr (by omega)
  have HB := Lib.hid hb
  clear hr hb
  go_wp2_with fail
  refine (l08Reduce_any p p2 p97 HS2 (by omega)).mono ?_
  rintro e w3 ⟨v, rfl, hr3, hb3⟩
  have HR := Lib.hid (intRow_lower hr3 HB.out.size)
  have HB2 := Lib.hid (HB.out.trans (hb3.mono HB.out.size))
  clear hr3 hb3
  go_wp2_with fail
  go_ret
  exact ⟨_, rfl, HR.out, HB2.out⟩
def drC (p : Int) (f : List Int) : Int := if modB p f then 0 else 1
def drQ (p : Int) (f : List Int) : List Int := if modB p f then redL p (derL f) else []
def frC (p : Int) (f : List Int) : Int := if modB p f then 0 else 1
def frQ (p : Int) (f : List Int) : Bool := modB p f && freeB p f
end Go.Proofs.Ytbjkcoajabcibaa
namespace Go.Proofs.Ytbjkcoajabcibaa
open Go.RowKit
set_option linter.unusedVariables false
def ringB (p n : Int) : Bool := decide (ringM p n ≠ 0)
theorem ringB_t {p n : Int} (h : ringM p n ≠ 0) : ringB p n = true := by simp [ringB, h]
theorem ringB_f {p n : Int} (h : ringM p n = 0) : ringB p n = false := by simp [ringB, h]
def ringC (p n : Int) : Int := if ringM p n = 0 then 1 else 0
def rgC (p n a : Int) : Int := if ringM p n = 0 then 1 else if 0 ≤ a ∧ a < ringM p n then 0 else 2
theorem below_one {w w1 : World} {o : Obj} (hb : Below (w.alloc o).heap.size (w.alloc o) w1) : Below w.heap.size w w1 :=
  ((Below.refl _ _).alloc (Nat.le_refl _) _).trans (hb.mono (by simp))
theorem cells_two {w w1 : World} {a b : Value} {T : TypeId} (hb : Below (w.alloc (.cells #[a, b] T)).heap.size (w.alloc (.cells #[a, b] T)) w1) :
    w1.cell? ⟨w.heap.size, 0, none⟩ = some a ∧ w1.cell? ⟨w.heap.size, 1, none⟩ = some b := by
  constructor
  · rw [hb.cell (by simp)]; exact World.cell?_alloc_new _ _ _ _ ▸ rfl
  · rw [hb.cell (by simp)]; exact World.cell?_alloc_new _ _ _ _ ▸ rfl
theorem keep_start {w : World} {a b : Value} {T : TypeId} (n : Nat) :
    Below w.heap.size w ((w.alloc (.cells #[a, b] T)).drewN n) ∧ ((w.alloc (.cells #[a, b] T)).drewN n).cell? ⟨w.heap.size, 0, none⟩ = some a ∧ ((w.alloc (.cells #[a, b] T)).drewN n).cell? ⟨w.heap.size, 1, none⟩ = some b :=
  ⟨below_drewN ((Below.refl _ _).alloc (Nat.le_refl _) _) _, World.cell?_alloc_new _ _ _ _ ▸ rfl, World.cell?_alloc_new _ _ _ _ ▸ rfl⟩
theorem keep_next {w w1 w2 : World} {a b : Value} (h : Below w.heap.size w w1 ∧ w1.cell? ⟨w.heap.size, 0, none⟩ = some a ∧ w1.cell? ⟨w.heap.size, 1, none⟩ = some b) (hb : Below w1.heap.size w1 w2) :
    Below w.heap.size w w2 ∧ w2.cell? ⟨w.heap.size, 0, none⟩ = some a ∧ w2.cell? ⟨w.heap.size, 1, none⟩ = some b := by
  have hlt := World.block_lt_of_cell? _ _ h.2.1
  exact ⟨h.1.trans (hb.mono h.1.size), by rw [hb.cell (p := ⟨w.heap.size, 0, none⟩) hlt]; exact h.2.1, by rw [hb.cell (p := ⟨w.heap.size, 1, none⟩) hlt]; exact h.2.2⟩
theorem keep_first {w w1 : World} {a b : Value} {T : TypeId} (hb : Below (w.alloc (.cells #[a, b] T)).heap.size (w.alloc (.cells #[a, b] T)) w1) :
    Below w.heap.size w w1 ∧ w1.cell? ⟨w.heap.size, 0, none⟩ = some a ∧ w1.cell? ⟨w.heap.size, 1, none⟩ = some b := ⟨below_one hb, cells_two hb⟩
theorem ring_two {w w1 w2 : World} (h1 : Below w.heap.size w w1) (h2 : Below w1.heap.size w1 w2) : Below w.heap.size w w2 := h1.trans (h2.mono h1.size)
set_option maxHeartbeats 400000 in
theorem checkNil_any (p n : Int) (w : World) :
    Calls Try.prog 78 #[.agg #[.int .i64 p, .int .i64 n], .slice none 0 0] w fun e w' => e = .returned (.int .i64 (ringC p n)) ∧ Below w.heap.size w w' := by
  by_cases h0 : ringM p n = 0
  · have h0' : (ringM p n == 0) = true := by simp [h0]
    simp only [ringC, h0, if_true]
    go_enter Try.func78, Try.ntmps78
    go_wp2_with (go_at_call 72; refine (implModulus_any _ _ _).mono ?_; rintro e w1 ⟨rfl, hb⟩)
    go_ret
    exact ⟨rfl, below_one hb⟩
  · have h0' : (ringM p n == 0) = false := by simpa using h0
    simp only [ringC, h0, if_false]
    go_enter Try.func78, Try.ntmps78
    go_wp2_with (go_at_call 72; refine (implModulus_any _ _ _).mono ?_; rintro e w1 ⟨rfl, hb⟩)
    go_loop [14] (fun i => i = .int .i64 0) (fun _ => 0)
    case atStart => exact rfl
    case round =>
      subst hrel
      go_wp2
      go_ret
      exact ⟨rfl, below_one hb⟩
set_option maxHeartbeats 400000 in
theorem checkOne_any (p n a : Int) (b : Nat) (w : World) (hc : w.cell? ⟨b, 0, none⟩ = some (.int .i64 a)) (hlt : b < w.heap.size) :
    Calls Try.prog 78 #[.agg #[.int .i64 p, .int .i64 n], .slice (some ⟨b, 0, none⟩) 1 1] w fun e w' => e = .returned (.int .i64 (rgC p n a)) ∧ Below w.heap.size w w' := by
  by_cases h0 : ringM p n = 0
  · have h0' : (ringM p n == 0) = true := by simp [h0]
    simp only [rgC, h0, if_true]
    go_enter Try.func78, Try.ntmps78
    go_wp2_with (go_at_call 72; refine (implModulus_any _ _ _).mono ?_; rintro e w1 ⟨rfl, hb⟩)
    go_ret
    exact ⟨rfl, below_one hb⟩
  · have h0' : (ringM p n == 0) = false := by simpa using h0
    simp only [rgC, h0, if_false]
    have HC := Lib.hid hc
    clear hc h0
    go_enter Try.func78, Try.ntmps78
    go_wp2_with (go_at_call 72; refine (implModulus_any _ _ _).mono ?_; rintro e w1 ⟨rfl, hb⟩)
    have c1 : w1.cell? ⟨b, 0, none⟩ = some (.int .i64 a) := by rw [(below_one hb).cell hlt]; exact HC.out
    have HB := Lib.hid (below_one hb)
    clear hb
    go_loop [14] (fun i => ∃ k : Nat, k ≤ 1 ∧ i = .int .i64 k ∧ (k = 1 → 0 ≤ a ∧ a < ringM p n)) (fun i => 1 - (intOf i).toNat)
    case atStart => exact ⟨0, by omega, rfl, by omega⟩
    case round =>
      obtain ⟨k, hk, rfl, hk1⟩ := hrel
      by_cases e0 : k = 0
      · subst e0
        clear hk1
        by_cases ha : 0 ≤ a
        · by_cases hm : a < ringM p n
          · go_wp2
            exact ⟨⟨1, by omega, rfl, fun _ => ⟨ha, hm⟩⟩, by simp [intOf]⟩
          · simp only [hm, and_false]
            go_wp2
            go_ret
            exact ⟨rfl, HB.out⟩
        · simp only [ha, false_and]
          go_wp2
          go_ret
          exact ⟨rfl, HB.out⟩
      · obtain rfl : k = 1 := by omega
        have ha := hk1 rfl
        simp only [ha, and_self]
        clear hk1
        go_wp2
        go_ret
        exact ⟨rfl, HB.out⟩
theorem implIsRing_any (p n : Int) (w : World) :
    Calls Try.prog 99 #[.agg #[.int .i64 p, .int .i64 n]] w fun e w' => e = .returned (.bool (ringB p n)) ∧ Below w.heap.size w w' := by
  have hE : (ringC p n == 0) = ringB p n := by unfold ringC ringB; by_cases h : ringM p n = 0 <;> simp [h]
  have HE := Lib.hid hE
  clear hE
  go_enter Try.func99, Try.ntmps99
  go_wp2_with (go_at_call 78; refine (checkNil_any _ _ _).mono ?_; rintro e w1 ⟨rfl, hb⟩)
  go_ret
  exact ⟨ret_bool HE.out, by first | exact hb | exact below_one hb⟩
theorem specIsRing_any (p n : Int) (w : World) :
    Calls Try.prog 66 #[.agg #[.int .i64 p, .int .i64 n]] w fun e w' => e = .returned (.bool (ringB p n)) ∧ Below w.heap.size w w' := by
  cases hs : smallB p
  · have HE := Lib.hid (ringB_f (ringM_small (n := n) hs))
    go_enter Try.func66, Try.ntmps66
    go_wp2_with (go_at_call 111; refine (l01Small_any _ _).mono ?_; rintro e w' ⟨rfl, rfl⟩)
    go_ret
    exact ⟨ret_bool HE.out.symm, (Below.refl _ _).alloc (Nat.le_refl _) _⟩
  · by_cases hn : 1 ≤ n ∧ n ≤ 40
    · have hi := inB_t hn.1 hn.2
      have HS := Lib.hid hs
      have hz : 0 ≤ ringM p n := by
        by_cases h : ringM p n = 0
        · omega
        · have := ringM_bd h; omega
      have HE := Lib.hid (show decide (0 < ringM p n) = ringB p n by unfold ringB; congr 1; apply propext; omega)
      have HN := Lib.hid hn
      clear hn hz
      go_enter Try.func66, Try.ntmps66
      go_wp2_with (first | (go_at_call 111; refine (l01Small_any _ _).mono ?_; rintro e w' ⟨rfl, rfl⟩) | (go_at_call 102; refine (in_any _ _ _ _).mono ?_; rintro e w' ⟨rfl, rfl⟩) | (go_at_call 70; refine (l02Modulus_any _ _ _ HS.out HN.out.1 (Int.le_trans HN.out.2 (by omega))).mono ?_; rintro e w' ⟨rfl, rfl⟩))
      go_ret
      exact ⟨ret_bool HE.out, (Below.refl _ _).alloc (Nat.le_refl _) _⟩
    · have hz : ringM p n = 0 := by
        by_cases h : 1 ≤ n
        · exact ringM_high (by omega)
        · exact ringM_low (by omega)
      have HE := Lib.hid (ringB_f hz)
      have hi : inB n 1 40 = false := inB_f (by omega)
      clear hz hn
      go_enter Try.func66, Try.ntmps66
      go_wp2_with (first | (go_at_call 111; refine (l01Small_any _ _).mono ?_; rintro e w' ⟨rfl, rfl⟩) | (go_at_call 102; refine (in_any _ _ _ _).mono ?_; rintro e w' ⟨rfl, rfl⟩))
      go_ret
      exact ⟨ret_bool HE.out.symm, (Below.refl _ _).alloc (Nat.le_refl _) _⟩
theorem specModulusOf_any (p n : Int) (w : World) :
    Calls Try.prog 31 #[.agg #[.int .i64 p, .int .i64 n]] w fun e w' => e = .returned (.tuple #[.int .i64 (ringM p n), .int .i64 (ringC p n)]) ∧ Below w.heap.size w w' := by
  by_cases h0 : ringM p n = 0
  · have hd := ringB_f h0
    simp only [ringC, h0, if_true]
    go_enter Try.func31, Try.ntmps31
    go_wp2_with (go_at_call 66; refine (specIsRing_any _ _ _).mono ?_; rintro e w1 ⟨rfl, hb⟩)
    go_ret2
    exact ⟨rfl, below_one hb⟩
  · have hd := ringB_t h0
    obtain ⟨hs, hn1, hx⟩ := ringM_in h0
    have hn2 : n ≤ 1000 := by have := ringM_bd h0; omega
    have H := Lib.hid (And.intro hs (And.intro hn1 hn2))
    simp only [ringC, h0, if_false]
    clear hs hn1 hn2 h0 hx
    go_enter Try.func31, Try.ntmps31
    go_wp2_with (first | (go_at_call 66; refine (specIsRing_any _ _ _).mono ?_; rintro e w1 ⟨rfl, hb⟩; have c0 := (cells_two hb).1; have c1 := (cells_two hb).2) | (go_at_call 70; refine (l02Modulus_any _ _ _ H.out.1 H.out.2.1 H.out.2.2).mono ?_; rintro e w' ⟨rfl, rfl⟩))
    go_ret2
    exact ⟨rfl, below_one hb⟩
end Go.Proofs.Ytbjkcoajabcibaa
namespace Go.Proofs.Ytbjkcoajabcibaa
open Go.RowKit
set_option linter.unusedVariables false
theorem remainder_any (x m : Int) (w : World) (h1 : 2 ≤ m) (h2 : m ≤ 1000000000) :
    Calls Try.prog 132 #[.int .i64 x, .int .i64 m] w fun e w' => e = .returned (.int .i64 (x % m)) ∧ w = w' := by
  have hm : (m == 0) = false := by simp; omega
  have hb := tmod_bd (x := x) (show 0 < m by omega)
  by_cases h : x.tmod m < 0
  · have HE := Lib.hid (rem_neg (by omega) h)
    go_enter Try.func132, Try.ntmps132
    go_wp2
    go_ret
    exact ⟨ret_int HE.out, rfl⟩
  · have HE := Lib.hid (rem_pos (by omega) h)
    go_enter Try.func132, Try.ntmps132
    go_wp2
    go_ret
    exact ⟨ret_int HE.out, rfl⟩
theorem l01Mod_any (x m : Int) (w : World) (h1 : 2 ≤ m) (h2 : m ≤ 1000000000) :
    Calls Try.prog 125 #[.int .i64 x, .int .i64 m] w fun e w' => e = .returned (.int .i64 (x % m)) ∧ w = w' := by
  have hm : (m == 0) = false := by simp; omega
  have hb := tmod_bd (x := x) (show 0 < m by omega)
  have HE := Lib.hid (mod_twice2 (x := x) (show 0 < m by omega))
  go_enter Try.func125, Try.ntmps125
  go_wp2
  go_ret
  exact ⟨ret_int HE.out, rfl⟩
def redV (p n x : Int) : Int := if ringM p n = 0 then 0 else if valueB x then x % ringM p n else 0
def redC (p n x : Int) : Int := if ringM p n = 0 then 1 else if valueB x then 0 else 2
end Go.Proofs.Ytbjkcoajabcibaa
namespace Go.Proofs.Ytbjkcoajabcibaa
open Go.RowKit
set_option linter.unusedVariables false
theorem toRing_any (p n : Int) (w : World) :
    Calls Try.prog 51 #[.agg #[.int .i64 p, .int .i64 n]] w fun e w' => e = .returned (.agg #[.int .i64 p, .int .i64 n]) ∧ Below w.heap.size w w' := by
  go_enter Try.func51, Try.ntmps51
  go_wp2
  refine bodyPost_ret (v := .agg #[.int .i64 p, .int .i64 n]) (by simp [results, Try.results51, go_sem]) rfl ?_
  exact ⟨rfl, (((Below.refl _ _).alloc (Nat.le_refl _) _).alloc (by simp) _).alloc (by simp; omega) _⟩
end Go.Proofs.Ytbjkcoajabcibaa
namespace Go.Proofs.Ytbjkcoajabcibaa
open Go.RowKit
set_option linter.unusedVariables false
theorem and1_odd {e : Int} (h0 : 0 ≤ e) (h1 : e ≤ 4000000000000000000) (h : e % 2 = 1) : (bits BinOp.and IntKind.i64 e 1 == 1) = true := by
  have := Go.Proofs.and_one e.toNat (by omega)
  rw [show ((e.toNat : Nat) : Int) = e by omega] at this
  rw [this]; simp; omega
theorem and1_even {e : Int} (h0 : 0 ≤ e) (h1 : e ≤ 4000000000000000000) (h : ¬ e % 2 = 1) : (bits BinOp.and IntKind.i64 e 1 == 1) = false := by
  have := Go.Proofs.and_one e.toNat (by omega)
  rw [show ((e.toNat : Nat) : Int) = e by omega] at this
  rw [this]; simp; omega
end Go.Proofs.Ytbjkcoajabcibaa
namespace Go.Proofs.Ytbjkcoajabcibaa
open Go.RowKit
set_option linter.unusedVariables false
theorem keep_alloc {w w1 : World} {a b : Value} {T : TypeId} {o : Obj} (hb : Below ((w.alloc (.cells #[a, b] T)).alloc o).heap.size ((w.alloc (.cells #[a, b] T)).alloc o) w1) :
    Below w.heap.size w w1 ∧ w1.cell? ⟨w.heap.size, 0, none⟩ = some a ∧ w1.cell? ⟨w.heap.size, 1, none⟩ = some b := by
  refine keep_first (T := T) ?_
  exact ((Below.refl _ _).alloc (Nat.le_refl _) _).trans (hb.mono (by simp))
theorem cell_second (w : World) (o : Obj) (v : Value) (T : TypeId) : ((w.alloc o).alloc (.cells #[v] T)).cell? ⟨w.heap.size + 1, 0, none⟩ = some v := by
  have e : (w.alloc o).heap.size = w.heap.size + 1 := by simp
  rw [← e, World.cell?_alloc_new]; rfl
theorem size_second (w : World) (o o' : Obj) : w.heap.size + 1 < ((w.alloc o).alloc o').heap.size := by simp
theorem rgC_zero {p n a : Int} (h : rgC p n a = 0) : ringM p n ≠ 0 ∧ 0 ≤ a ∧ a < ringM p n := by
  unfold rgC at h
  split at h
  · omega
  · split at h
    · rename_i h1 h2; exact ⟨h1, h2⟩
    · omega
theorem l02Code_any (p n a : Int) (w : World) :
    Calls Try.prog 79 #[.agg #[.int .i64 p, .int .i64 n], .int .i64 a] w fun e w' => e = .returned (.int .i64 (rgC p n a)) ∧ Below w.heap.size w w' := by
  by_cases h0 : ringM p n = 0
  · have hd := ringB_f h0
    simp only [rgC, h0, if_true]
    clear h0
    go_enter Try.func79, Try.ntmps79
    go_wp2_with (go_at_call 66; refine (specIsRing_any _ _ _).mono ?_; rintro e wn ⟨rfl, hb⟩; (first | have hH := keep_first hb | have hH := keep_next ⟨hB, c0, c1⟩ hb); obtain ⟨hB, c0, c1⟩ := hH)
    go_ret
    exact ⟨rfl, hB⟩
  · have hd := ringB_t h0
    obtain ⟨_, _, hn1, hn2, hm1, hm2, _⟩ := ringM_bd h0
    have H := Lib.hid (And.intro (ringM_in h0).1 (And.intro hn1 (show n ≤ 1000 by omega)))
    by_cases ha : 0 ≤ a ∧ a < ringM p n
    · have hi : inB a 0 (ringM p n - 1) = true := inB_t ha.1 (by omega)
      simp only [rgC, h0, ha, and_self, if_true, if_false]
      clear h0 ha
      go_enter Try.func79, Try.ntmps79
      go_wp2_with (first | (go_at_call 66; refine (specIsRing_any _ _ _).mono ?_; rintro e wn ⟨rfl, hb⟩; (first | have hH := keep_first hb | have hH := keep_next ⟨hB, c0, c1⟩ hb); obtain ⟨hB, c0, c1⟩ := hH) | (go_at_call 70; refine (l02Modulus_any _ _ _ H.out.1 H.out.2.1 H.out.2.2).mono ?_; rintro e wn ⟨rfl, rfl⟩) | (go_at_call 102; refine (in_any _ _ _ _).mono ?_; rintro e wn ⟨rfl, rfl⟩))
      go_ret
      exact ⟨rfl, hB⟩
    · have hi : inB a 0 (ringM p n - 1) = false := inB_f (by omega)
      simp only [rgC, h0, ha, if_false]
      clear h0 ha
      go_enter Try.func79, Try.ntmps79
      go_wp2_with (first | (go_at_call 66; refine (specIsRing_any _ _ _).mono ?_; rintro e wn ⟨rfl, hb⟩; (first | have hH := keep_first hb | have hH := keep_next ⟨hB, c0, c1⟩ hb); obtain ⟨hB, c0, c1⟩ := hH) | (go_at_call 70; refine (l02Modulus_any _ _ _ H.out.1 H.out.2.1 H.out.2.2).mono ?_; rintro e wn ⟨rfl, rfl⟩) | (go_at_call 102; refine (in_any _ _ _ _).mono ?_; rintro e wn ⟨rfl, rfl⟩))
      go_ret
      exact ⟨rfl, hB⟩
def unitC (p n a : Int) : Int := if rgC p n a = 0 then (if a % p = 0 then 5 else 0) else rgC p n a
def invV (p n a : Int) : Int := if unitC p n a = 0 then bezX a (ringM p n) % ringM p n else 0
theorem inverseBy_any (a m : Int) (w : World) (hva : valueB a = true) (hvm : valueB m = true) (hm1 : 2 ≤ m) (hm2 : m ≤ 1000000000) :
    Calls Try.prog 134 #[.int .i64 a, .int .i64 m] w fun e w' => e = .returned (.int .i64 (bezX a m % m)) ∧ w = w' := by
  go_enter Try.func134, Try.ntmps134
  go_wp2_with (first | (go_at_call 160; refine (implBez_val _ _ _ hva hvm).mono ?_; rintro e wn ⟨rfl, rfl⟩) | (go_at_call 132; refine (remainder_any _ _ _ hm1 hm2).mono ?_; rintro e wn ⟨rfl, rfl⟩))
  go_ret
  exact ⟨rfl, rfl⟩
theorem l02Inverse_any (a m : Int) (w : World) (h1 : 0 ≤ a) (h2 : a < m) (hm1 : 2 ≤ m) (hm2 : m ≤ 1000000000) :
    Calls Try.prog 163 #[.int .i64 a, .int .i64 m] w fun e w' => e = .returned (.int .i64 (bezX a m % m)) ∧ w = w' := by
  have hv1 : -1000000000000 ≤ a := by omega
  have hv2 : a ≤ 1000000000000 := by omega
  have hv3 : -1000000000000 ≤ m := by omega
  have hv4 : m ≤ 1000000000000 := by omega
  go_enter Try.func163, Try.ntmps163
  go_wp2_with (first | (go_at_call 185; refine (l01Bez_any _ _ _ hv1 hv2 hv3 hv4).mono ?_; rintro e wn ⟨rfl, rfl⟩) | (go_at_call 125; refine (l01Mod_any _ _ _ hm1 hm2).mono ?_; rintro e wn ⟨rfl, rfl⟩))
  go_ret
  exact ⟨rfl, rfl⟩
end Go.Proofs.Ytbjkcoajabcibaa
namespace Go.Proofs.Ytbjkcoajabcibaa
open Go.RowKit
set_option linter.unusedVariables false
set_option linter.unusedSimpArgs false
set_option maxRecDepth 20000
theorem prod_nine {a x : Int} (a0 : 0 ≤ a) (a1 : a ≤ 1000000000) (x0 : 0 ≤ x) (x1 : x ≤ 1000000000) : 0 ≤ a * x ∧ a * x ≤ 1000000000000000000 := by
  refine ⟨Int.mul_nonneg a0 x0, ?_⟩
  have := Int.mul_le_mul a1 x1 x0 (by omega)
  omega
theorem seen_al {w : World} {o : Option Addr} {n c : Nat} {l : List Int} (h : Seen w o n c l) (ob : Obj) : Seen (w.alloc ob) o n c l := seen_below h ((Below.refl _ _).alloc (Nat.le_refl _) _)
/-- what is asked of coefficients -/
def Cof9 (f : List Int) : Prop := ∀ i, -1000000000 ≤ f.getD i 0 ∧ f.getD i 0 ≤ 1000000000
set_option maxHeartbeats 1000000 in
theorem l11Value_any (m x : Int) (m2 : 2 ≤ m) (m9 : m ≤ 1000000000) (x0 : 0 ≤ x) (x1 : x ≤ 1000000000) {o : Option Addr} {n c : Nat} {f : List Int} {w : World} (h : Seen w o n c f) (hf : Cof9 f) :
    Calls Try.prog 75 #[.slice o n c, .int .i64 x, .int .i64 m] w fun e w' => e = .returned (.int .i64 (vM m f x)) ∧ w = w' := by
  obtain ⟨hl, hn, hno, hnc, g, h1, h2⟩ := h
  have HO := Lib.hid fun h => (h1 h).1
  have HL := Lib.hid hl
  have HC := Lib.hid h2
  have HF := Lib.hid hf
  clear h1 h2 hl hno hnc hf
  go_enter Try.func75, Try.ntmps75
  go_wp2_with fail
  go_loop [7, 8] (fun a i => ∃ (j : Nat) (y : Int), j ≤ n ∧ i = .int .i64 y ∧ y = (n : Int) - 1 - j ∧ a = .int .i64 (evM m f x j)) (fun _ i => (intOf i + 1).toNat)
  case atStart => exact ⟨0, (n : Int) - 1, Nat.zero_le _, rfl, by omega, rfl⟩
  case round =>
    obtain ⟨j, y, hj, rfl, hy, rfl⟩ := hrel
    by_cases hjn : j < n
    · obtain ⟨k, hk⟩ : ∃ k : Nat, y = k := ⟨y.toNat, by omega⟩
      subst hk
      have hkn : k < n := by omega
      have hme : f.length - 1 - j = k := by have := HL.out; omega
      have hog := HO.out (by omega)
      subst hog
      have a2 := HC.out k hkn
      have hh : evM m f x (j + 1) = (evM m f x j * x + f.getD k 0) % m := by rw [evM, hme]
      obtain ⟨y0, y1⟩ := HF.out k
      obtain ⟨b0, b1⟩ := evM_rng (p := m) (by omega) f x j
      obtain ⟨p0, p1⟩ := prod_nine b0 (by omega) x0 x1
      have HH := Lib.hid hh
      clear hh
      generalize evM m f x j = a at *
      generalize f.getD k 0 = z at *
      have w1 : IntKind.i64.wrap (a * x) = a * x := IntWalk.i64_in _ (by omega)
      have w2 : IntKind.i64.wrap (a * x + z) = a * x + z := IntWalk.i64_in _ (by omega)
      have HY := Lib.hid hy
      have hkn' : (k : Int) < (n : Int) := by omega
      clear hme hy p0 p1
      go_wp2_with (go_at_call 125; refine (l01Mod_any _ _ _ m2 m9).mono ?_; rintro e wn ⟨rfl, rfl⟩)
      exact ⟨⟨j + 1, (k : Int) - 1, by omega, by first | rfl | (go_num), by have := HY.out; omega, by rw [HH.out]⟩, by first | (simp [intOf]; done) | (simp [intOf]; omega)⟩
    · have hjl : j = f.length := by have := HL.out; omega
      have hneg : y = -1 := by omega
      subst hneg hjl
      clear hy
      obtain ⟨E, hEE⟩ : ∃ E, evM m f x f.length = E := ⟨_, rfl⟩
      have HEE := Lib.hid hEE
      rw [hEE]
      clear hEE
      go_wp2_with fail
      go_ret
      exact ⟨ret_int HEE.out.symm, rfl⟩
/-- the code of a ring, a polynomial and a residue -/
def henC (p n : Int) (f : List Int) (x : Int) : Int := if polyB f then rgC p n x else 1
theorem henC_zero {p n x : Int} {f : List Int} (h : henC p n f x = 0) : polyB f = true ∧ ringM p n ≠ 0 ∧ 0 ≤ x ∧ x < ringM p n := by
  unfold henC at h
  split at h
  · rename_i hp; exact ⟨hp, rgC_zero h⟩
  · omega
theorem poly_cof9 {f : List Int} (h : polyB f = true) : Cof9 f := fun i => by have := (polyB_of h).2.1 i; omega
set_option maxHeartbeats 1000000 in
theorem l11Code_any (p n x : Int) {o : Option Addr} {k c : Nat} {f : List Int} {w : World} (h : Seen w o k c f) :
    Calls Try.prog 83 #[.agg #[.int .i64 p, .int .i64 n], .slice o k c, .int .i64 x] w fun e w' => e = .returned (.int .i64 (henC p n f x)) ∧ Below w.heap.size w w' := by
  have HS := Lib.hid h
  clear h
  cases hp : polyB f
  · rw [show henC p n f x = 1 by simp [henC, hp]]
    go_enter Try.func83, Try.ntmps83
    go_wp2_with (go_at_call 67; refine (specIsPoly_any (seen_al HS.out _)).mono ?_; rw [hp]; rintro e w2 ⟨rfl, rfl⟩)
    go_ret
    exact ⟨rfl, (Below.refl _ _).alloc (Nat.le_refl _) _⟩
  · rw [show henC p n f x = rgC p n x by simp [henC, hp]]
    go_enter Try.func83, Try.ntmps83
    go_wp2_with (first | (go_at_call 67; refine (specIsPoly_any (seen_al HS.out _)).mono ?_; rw [hp]; rintro e w2 ⟨rfl, rfl⟩) | (go_at_call 79; refine (l02Code_any _ _ _ _).mono ?_; rintro e wn ⟨rfl, hb⟩; (first | have hH := keep_first hb | have hH := keep_next ⟨hB, c0, c1⟩ hb); obtain ⟨hB, c0, c1⟩ := hH))
    go_ret
    exact ⟨rfl, hB⟩
def valR (p n : Int) (f : List Int) (x : Int) : Int := if henC p n f x = 0 then vM (ringM p n) f x else 0
set_option maxHeartbeats 1000000 in
theorem specValueIn_any (p n x : Int) {o : Option Addr} {k c : Nat} {f : List Int} {w : World} (h : Seen w o k c f) :
    Calls Try.prog 29 #[.agg #[.int .i64 p, .int .i64 n], .slice o k c, .int .i64 x] w fun e w' => e = .returned (.tuple #[.int .i64 (valR p n f x), .int .i64 (henC p n f x)]) ∧ Below w.heap.size w w' := by
  have HS := Lib.hid h
  clear h
  by_cases hr : henC p n f x = 0
  · have hk : (henC p n f x == 0) = true := by simp [hr]
    obtain ⟨hp, h0, hx0, hx1⟩ := henC_zero hr
    obtain ⟨_, _, hn1, hn2, hm1, hm2, _⟩ := ringM_bd h0
    have H := Lib.hid (And.intro (ringM_in h0).1 (And.intro hn1 (show n ≤ 1000 by omega)))
    have HF := Lib.hid (poly_cof9 hp)
    have hx9 : x ≤ 1000000000 := by omega
    rw [show valR p n f x = vM (ringM p n) f x by simp [valR, hr], hr]
    have HR := Lib.hid hr
    clear h0 hr hp hk
    go_enter Try.func29, Try.ntmps29
    go_wp2_with (first | (go_at_call 83; refine (l11Code_any _ _ _ (seen_al HS.out _)).mono ?_; rintro e wn ⟨rfl, hb⟩; have hH := keep_first hb; obtain ⟨hB, c0, c1⟩ := hH; rw [HR.out]) | (go_at_call 70; refine (l02Modulus_any _ _ _ H.out.1 H.out.2.1 H.out.2.2).mono ?_; rintro e wn ⟨rfl, rfl⟩) | (go_at_call 75; refine (l11Value_any _ _ hm1 hm2 hx0 hx9 (seen_below HS.out hB) HF.out).mono ?_; rintro e wn ⟨rfl, rfl⟩))
    go_ret2
    exact ⟨rfl, hB⟩
  · have hk : (henC p n f x == 0) = false := by simp [hr]
    rw [show valR p n f x = 0 by simp [valR, hr]]
    clear hr
    go_enter Try.func29, Try.ntmps29
    go_wp2_with (go_at_call 83; refine (l11Code_any _ _ _ (seen_al HS.out _)).mono ?_; rintro e wn ⟨rfl, hb⟩; have hH := keep_first hb; obtain ⟨hB, c0, c1⟩ := hH)
    go_ret2
    exact ⟨rfl, hB⟩
end Go.Proofs.Ytbjkcoajabcibaa
namespace Go.Proofs.Ytbjkcoajabcibaa
open Go.RowKit
set_option linter.unusedVariables false
set_option linter.unusedSimpArgs false
set_option maxRecDepth 20000
theorem keep11 {w0 W W' : World} {a b : Addr} {u v : Value} (h : Below w0.heap.size w0 W ∧ W.cell? a = some u ∧ W.cell? b = some v) (hb : Below W.heap.size W W') : Below w0.heap.size w0 W' ∧ W'.cell? a = some u ∧ W'.cell? b = some v :=
  ⟨h.1.trans (hb.mono h.1.size), by rw [hb.cell (World.block_lt_of_cell? _ _ h.2.1)]; exact h.2.1, by rw [hb.cell (World.block_lt_of_cell? _ _ h.2.2)]; exact h.2.2⟩
/-- a step of Newton -/
def stepV (m : Int) (f : List Int) (x : Int) : Int := (x - vM m f x * (bezX (vM m (derL f) x) m % m)) % m
theorem stepV_rng {m : Int} (hm : 0 < m) (f : List Int) (x : Int) : 0 ≤ stepV m f x ∧ stepV m f x < m := ⟨Int.emod_nonneg _ (by omega), Int.emod_lt_of_pos _ hm⟩
theorem der_len9 {f : List Int} (h : polyB f = true) : (derL f).length ≤ 1100000 := by
  have := (polyB_of h).1
  simp only [derL, tabL_length]
  omega
theorem der_cof9 {f : List Int} (h : polyB f = true) : Cof9 (derL f) := by
  intro i
  obtain ⟨hl, hr, _⟩ := polyB_of h
  by_cases hi : i < f.length - 1
  · have e := derL_getD f i
    rw [e]
    obtain ⟨z0, z1⟩ := hr (i + 1)
    generalize f.getD (i + 1) 0 = z at *
    rcases (by omega : i = 0 ∨ i = 1 ∨ i = 2 ∨ i = 3 ∨ i = 4 ∨ i = 5 ∨ i = 6 ∨ i = 7) with rfl | rfl | rfl | rfl | rfl | rfl | rfl | rfl <;> omega
  · rw [derL_getD, show f.getD (i + 1) 0 = 0 by simp [List.getD, List.getElem?_eq_none (show f.length ≤ i + 1 by omega)]]
    omega
/-- a simple root by p -/
def simB (p : Int) (f : List Int) (a : Int) : Bool := vM p f a == 0 && !(vM p (derL f) a == 0)
theorem henC_more {p n x : Int} {f : List Int} (h : henC p n f x ≠ 0) : henC p n f x = 1 ∨ henC p n f x = 2 := by
  unfold henC rgC at *
  split <;> (try split) <;> (try split) <;> simp_all
def newC (p n : Int) (f : List Int) (x : Int) : Int := if henC p n f x = 0 then (if vM p (derL f) x = 0 then 5 else 0) else henC p n f x
def newV (p n : Int) (f : List Int) (x : Int) : Int := if newC p n f x = 0 then stepV (ringM p n) f x else 0
end Go.Proofs.Ytbjkcoajabcibaa
namespace Go.Proofs.Ytbjkcoajabcibaa
open Go.RowKit
set_option linter.unusedVariables false
set_option linter.unusedSimpArgs false
set_option maxRecDepth 20000
theorem inrB_eq {p n : Int} {f : List Int} (h : ringM p n ≠ 0) : inrB p n f = (decide (f.length ≤ 9) && (resB (ringM p n) f && lastB f)) := by
  unfold inrB; rw [show decide (ringM p n ≠ 0) = true by simp [h], Bool.true_and]; rfl
set_option maxHeartbeats 1000000 in
theorem specInR_any (p n : Int) {o : Option Addr} {k c : Nat} {f : List Int} {w : World} (h : Seen w o k c f) :
    Calls Try.prog 45 #[.agg #[.int .i64 p, .int .i64 n], .slice o k c] w fun e w' => e = .returned (.bool (inrB p n f)) ∧ Below w.heap.size w w' := by
  have HS := Lib.hid h
  by_cases hr : ringM p n = 0
  · have HP := Lib.hid (show inrB p n f = false by simp [inrB, hr])
    have hb0 := ringB_f hr
    clear hr h
    go_enter Try.func45, Try.ntmps45
    go_wp2_with (go_at_call 66; refine (specIsRing_any _ _ _).mono ?_; rw [hb0]; rintro e wn ⟨rfl, hb⟩; have hH := keep_first hb; obtain ⟨hB, c0, c1⟩ := hH)
    go_ret
    rw [HP.out]; exact ⟨rfl, hB⟩
  · obtain ⟨_, _, hn1, hn2, hm1, hm2, _⟩ := ringM_bd hr
    have H := Lib.hid (And.intro (ringM_in hr).1 (And.intro hn1 (show n ≤ 1000 by omega)))
    have hb1 := ringB_t hr
    have HE := Lib.hid (inrB_eq (f := f) hr)
    obtain ⟨hl, hn, hno, hnc, g, h1, h2⟩ := h
    have HL := Lib.hid hl
    obtain ⟨M, hM⟩ : ∃ M, ringM p n = M := ⟨_, rfl⟩
    have HMM := Lib.hid hM
    rw [hM] at hm1 hm2 HE
    clear hr hno hnc h1 h2 hl hM
    by_cases h9 : k ≤ 9
    · have wp1 : IntKind.i64.wrap (M - 1) = M - 1 := IntWalk.i64_in _ (by omega)
      go_enter Try.func45, Try.ntmps45
      go_wp2_with (first
        | (go_at_call 66; refine (specIsRing_any _ _ _).mono ?_; rw [hb1]; rintro e wn ⟨rfl, hb⟩; have hH := keep_first hb; obtain ⟨hB, c0, c1⟩ := hH)
        | (go_at_call 70; refine (l02Modulus_any _ _ _ H.out.1 H.out.2.1 H.out.2.2).mono ?_; rw [HMM.out]; rintro e wn ⟨rfl, rfl⟩))
      have HB := Lib.hid hB
      obtain ⟨hl, hn, hno, hnc, g, h1, h2⟩ := seen_below HS.out (((Below.refl w.heap.size w).trans hB).mono (Nat.le_refl _))
      have HO := Lib.hid fun h => (h1 h).1
      have HC := Lib.hid h2
      clear h1 h2 hl hno hnc hb c0 c1 hB
      go_loop [6] (fun i => ∃ j : Nat, j ≤ k ∧ i = .int .i64 j ∧ resB M (f.take j) = true) (fun i => k - (intOf i).toNat)
      case atStart => exact ⟨0, Nat.zero_le _, rfl, by simp [resB]⟩
      case round =>
        obtain ⟨j, hj, rfl, hall⟩ := hrel
        by_cases hlt : j < k
        · have hkl : j < f.length := by have := HL.out; omega
          have hog := HO.out (by omega)
          subst hog
          have a2 := HC.out j hlt
          have HA := Lib.hid (all_take6 (f := fun x => inB x 0 (M - 1)) hkl)
          cases hc : inB (f.getD j 0) 0 (M - 1)
          · have HP := Lib.hid (show inrB p n f = false by rw [HE.out, show resB M f = false from all_false hkl hc]; simp)
            generalize f.getD j 0 = x at *
            clear hkl hall
            go_wp2_with fail
            refine (in_any x 0 (M - 1) _).mono ?_
            rw [hc]
            rintro e w2 ⟨rfl, rfl⟩
            go_wp2_with fail
            go_ret
            rw [HP.out]; exact ⟨rfl, HB.out⟩
          · have HE2 := Lib.hid (show resB M (f.take (j + 1)) = true by unfold resB at hall ⊢; rw [HA.out, hall]; simpa using hc)
            generalize f.getD j 0 = x at *
            clear hkl hall
            go_wp2_with fail
            refine (in_any x 0 (M - 1) _).mono ?_
            rw [hc]
            rintro e w2 ⟨rfl, rfl⟩
            go_wp2_with fail
            exact ⟨⟨j + 1, by omega, by go_num, HE2.out⟩, by simp [intOf]; omega⟩
        · have hkn : j = k := by omega
          rw [hkn, HL.out, List.take_of_length_le (Nat.le_refl _)] at hall
          clear hlt
          by_cases h0 : k = 0
          · have HP := Lib.hid (show inrB p n f = true by
              have := HL.out
              rw [HE.out, hall, show decide (f.length ≤ 9) = true by simp; omega]
              simp [lastB, ← this, h0])
            clear hall
            subst h0
            go_wp2_with fail
            go_ret
            rw [HP.out]; exact ⟨rfl, HB.out⟩
          · have hog := HO.out (by omega)
            subst hog
            have a2 := HC.out (k - 1) (by omega)
            have HP := Lib.hid (show inrB p n f = !(f.getD (k - 1) 0 == 0) by
              have := HL.out
              rw [HE.out, hall, show decide (f.length ≤ 9) = true by simp; omega]
              rw [this] at h0 ⊢
              simp only [lastB, Bool.true_and, decide_eq_false h0, Bool.false_or])
            generalize f.getD (k - 1) 0 = x at *
            have h0' : ((k : Int) == 0) = false := by simp; omega
            have hn1 : (k : Int) - 1 = ((k - 1 : Nat) : Int) := by omega
            clear hall
            go_wp2_with fail
            go_ret
            rw [HP.out]; exact ⟨rfl, HB.out⟩
    · have h9' : (9 : Int) < (k : Int) := by omega
      have HP := Lib.hid (show inrB p n f = false by
        have := HL.out
        rw [this] at h9
        rw [HE.out, decide_eq_false h9]; simp)
      go_enter Try.func45, Try.ntmps45
      go_wp2_with (go_at_call 66; refine (specIsRing_any _ _ _).mono ?_; rw [hb1]; rintro e wn ⟨rfl, hb⟩; have hH := keep_first hb; obtain ⟨hB, c0, c1⟩ := hH)
      go_ret
      rw [HP.out]; exact ⟨rfl, hB⟩
/-- monic -/
theorem l12Monic_any {o : Option Addr} {n c : Nat} {f : List Int} {w : World} (h : Seen w o n c f) :
    Calls Try.prog 89 #[.slice o n c] w fun e w' => e = .returned (.bool (mncB f)) ∧ w = w' := by
  obtain ⟨hl, hn, hno, hnc, g, h1, h2⟩ := h
  by_cases h0 : n = 0
  · have HE := Lib.hid (show mncB f = false by simp [mncB, ← hl, h0])
    clear h1 h2 hl hno hnc
    subst h0
    go_enter Try.func89, Try.ntmps89
    go_wp2
    go_ret
    rw [HE.out]; exact ⟨rfl, rfl⟩
  · obtain ⟨rfl, hag⟩ := h1 (by omega)
    have a2 := h2 (n - 1) (by omega)
    have hn1 : (n : Int) - 1 = ((n - 1 : Nat) : Int) := by omega
    have h0' : (0 : Int) < (n : Int) := by omega
    have HE := Lib.hid (show mncB f = (f.getD (n - 1) 0 == 1) by simp [mncB, ← hl, show 0 < n by omega])
    generalize f.getD (n - 1) 0 = x at *
    clear h1 h2 hl hno hnc
    go_enter Try.func89, Try.ntmps89
    go_wp2
    go_ret
    rw [HE.out]; exact ⟨rfl, rfl⟩
end Go.Proofs.Ytbjkcoajabcibaa
