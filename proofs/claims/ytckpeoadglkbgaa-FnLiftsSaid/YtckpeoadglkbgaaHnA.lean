/- Contracts of the walk: slices.Backward at a list that may be nil, ranged over: the list stays. (joined of several texts) -/
import Derived.Test.YtckpeoadglkbgaaPolySpec3
import Derived.StillTailTactics
import Derived.Deep.DeepCutAuto
import Derived.Test.YtckpeoadglkbgaaModLaws
import Derived.Test.YtckpeoadglkbgaaGcd
import Derived.Test.YtckpeoadglkbgaaBezMath
import Derived.Test.YtckpeoadglkbgaaValMath
import Derived.Test.YtckpeoadglkbgaaRingMath
import Derived.Lib.SliceRun
import Derived.Test.YtckpeoadglkbgaaPolyMore
import Derived.OwnWalk
import Derived.Laws.OwnMore
import Derived.Test.YtckpeoadglkbgaaBezPos
import Derived.OneCell
import Derived.Lib.RabinKarpLaws
import Derived.Test.YtckpeoadglkbgaaRow
import Derived.Deep.RegionHeld3
import Derived.Test.YtckpeoadglkbgaaOrdMath2
import Derived.BigQuiet
import Derived.Test.YtckpeoadglkbgaaHenMath
import Derived.RangeFuncNested
import Derived.RangeFuncBound
import Derived.RangeFuncCalls
import Derived.RangeFuncLeaves
import Derived.OrdersIn
import Derived.TacticsIn
import Derived.KernelRfl
import Derived.RangeFuncBox
import Derived.WalkKit
import Derived.OwnWalkIn
import Derived.TacticsInMore
import Derived.LoopNIn
import Derived.LoopIn
import Derived.Shelf.Abstract
namespace Go.Proofs.Ytckpeoadglkbgaa
open Go.RowKit
set_option linter.unusedVariables false
set_option linter.unusedSimpArgs false
theorem int_stored {b g n c : Nat} {w : World} {acc : List Int} (h : IntRow b w (.slice (some ⟨g, 0, none⟩) n c) acc) (hn : acc.length = n) (k : Nat) (x : Int) :
    IntRow b (w.setCell ⟨g, k, none⟩ (.int .i64 x)) (.slice (some ⟨g, 0, none⟩) n c) (acc.set k x) := by
  subst hn
  have h2 := (World.ownsRow.stored h k (.int .i64 x)).1
  unfold IntRow
  rw [List.length_set, List.map_set]
  exact h2
theorem int_at {b g n c : Nat} {w : World} {acc : List Int} (h : IntRow b w (.slice (some ⟨g, 0, none⟩) n c) acc) (hn : acc.length = n) {k : Nat} (hk : k < n) : w.cell? ⟨g, k, none⟩ = some (.int .i64 (acc.getD k 0)) := by
  subst hn
  have h2 := World.ownsRow.cellAt h k (by omega)
  rw [h2]; simp [List.getD, hk]
theorem int_frozen {b g n c : Nat} {w : World} {acc : List Int} (h : IntRow b w (.slice (some ⟨g, 0, none⟩) n c) acc) (hn : acc.length = n) (k : Nat) : w.frozen? ⟨g, k, none⟩ = false := by
  subst hn
  exact World.ownsRow.frozenAt h k
theorem tab_set {n k : Nat} {f : Nat → Int} (x : Int) (hk : k < n) : (tabL n f).set k x = tabL n fun i => if i = k then x else f i := by
  refine ext_getD (by rw [List.length_set, tabL_length, tabL_length]) fun i hi => ?_
  rw [List.length_set, tabL_length] at hi
  rw [tabL_getD hi]
  by_cases e : i = k
  · subst e; rw [if_pos rfl]; simp [List.getD, tabL_length, hi]
  · rw [if_neg e, ← tabL_getD (f := f) hi]; simp [List.getD, List.getElem?_set_ne (Ne.symm e)]
theorem tab_zero (n : Nat) : List.replicate n (0 : Int) = tabL n fun _ => 0 := by
  refine ext_getD (by rw [List.length_replicate, tabL_length]) fun i hi => ?_
  rw [List.length_replicate] at hi
  rw [tabL_getD hi]; simp [List.getD, hi]
theorem int_made {w w2 : World} {N : Nat} (h : w2.ownsRow w.heap.size 2 1 (.slice (some ⟨w.heap.size, 0, none⟩) N N) N (madeCells (Value.int .i64 0).cells (N * 1)).toList) :
    IntRow w.heap.size w2 (.slice (some ⟨w.heap.size, 0, none⟩) N N) (tabL N fun _ => 0) := by
  rw [← tab_zero]
  unfold IntRow
  rw [List.length_replicate, List.map_replicate]
  have e : (madeCells (Value.int .i64 0).cells (N * 1)).toList = List.replicate N (Value.int .i64 0) := by
    rw [Nat.mul_one]; exact toList_madeCells_one _ _
  rw [← e]; exact h
theorem add_step {f g : List Int} {kk : Int} {N k : Nat} {y : Int} (hk : k < N) (hy : f.getD k 0 + kk * g.getD k 0 = y) :
    (tabL N fun i => if i < k then f.getD i 0 + kk * g.getD i 0 else 0).set k y = tabL N fun i => if i < k + 1 then f.getD i 0 + kk * g.getD i 0 else 0 := by
  rw [tab_set y hk]
  refine tabL_ext fun i hi => ?_
  by_cases e : i = k
  · subst e; rw [if_pos rfl, if_pos (by omega), hy]
  · rw [if_neg e]
    by_cases h2 : i < k
    · rw [if_pos h2, if_pos (by omega)]
    · rw [if_neg h2, if_neg (by omega)]
set_option maxRecDepth 20000
theorem poly_bf {f : List Int} (h : polyB f = true) : ∀ i, -1000000000000000 ≤ f.getD i 0 ∧ f.getD i 0 ≤ 1000000000000000 := fun i => by have := (polyB_of h).2.1 i; omega
theorem addL_length (f g : List Int) (k : Int) : (addL f g k).length = max f.length g.length := tabL_length _ _
def twoP (f g : List Int) : Bool := polyB f && polyB g
theorem trim_trim (l : List Int) : trimL (trimL l) = trimL l := trimL_self (trimL_last l)
theorem res_trim (l : List Int) : resL (trimL l) = resL l ∧ resC (trimL l) = resC l := by simp [resL, resC, trim_trim]
theorem trim_le {l : List Int} {n : Nat} (h : l.length ≤ n) : (trimL l).length ≤ n := by rw [trimL_length]; have := trimN_le l l.length; omega
end Go.Proofs.Ytckpeoadglkbgaa
namespace Go.Proofs.Ytckpeoadglkbgaa
open Go.RowKit
set_option linter.unusedVariables false
set_option linter.unusedSimpArgs false
/-- a coefficient of a product on the way: i rows and k entries of the next one -/
def mulW (f g : List Int) (i k n : Nat) : Int := mulP f g n i + (if i ≤ n ∧ n < i + k then f.getD i 0 * g.getD (n - i) 0 else 0)
theorem mulW_zero (f g : List Int) (i n : Nat) : mulW f g i 0 n = mulP f g n i := by
  unfold mulW; rw [if_neg (by omega), Int.add_zero]
theorem mulW_row {f g : List Int} {i k n : Nat} (h : g.length ≤ k) : mulW f g i k n = mulP f g n (i + 1) := by
  unfold mulW
  show _ = mulP f g n i + (if i ≤ n then f.getD i 0 * g.getD (n - i) 0 else 0)
  congr 1
  by_cases h1 : i ≤ n
  · rw [if_pos h1]
    by_cases h2 : n < i + k
    · rw [if_pos ⟨h1, h2⟩]
    · rw [if_neg (by omega), getD_out (l := g) (by omega), Int.mul_zero]
  · rw [if_neg h1, if_neg (by omega)]
theorem mulW_step {f g : List Int} {i k N m : Nat} {y : Int} (hm : m < N) (hik : i + k = m) (hy : mulP f g m i + f.getD i 0 * g.getD k 0 = y) :
    (tabL N (mulW f g i k)).set m y = tabL N (mulW f g i (k + 1)) := by
  rw [tab_set y hm]
  refine tabL_ext fun j hj => ?_
  by_cases e : j = m
  · rw [if_pos e, ← hy, e]; unfold mulW; rw [if_pos (by omega), show m - i = k by omega]
  · rw [if_neg e]; unfold mulW
    by_cases h2 : i ≤ j ∧ j < i + k
    · rw [if_pos h2, if_pos (by omega)]
    · rw [if_neg h2, if_neg (by omega)]
theorem mulW_at {f g : List Int} {i k m : Nat} (hik : i + k = m) : mulW f g i k m = mulP f g m i := by
  unfold mulW; rw [if_neg (by omega), Int.add_zero]
theorem mul_bd {x y : Int} (hx : -1000000 ≤ x ∧ x ≤ 1000000) (hy : -1000000 ≤ y ∧ y ≤ 1000000) : -1000000000000 ≤ x * y ∧ x * y ≤ 1000000000000 := by
  have p1 : x.natAbs * y.natAbs ≤ 1000000 * 1000000 := Nat.mul_le_mul (by omega) (by omega)
  rw [← Int.natAbs_mul] at p1; omega
theorem mulP_bd {f g : List Int} (hf : ∀ i, -1000000 ≤ f.getD i 0 ∧ f.getD i 0 ≤ 1000000) (hg : ∀ i, -1000000 ≤ g.getD i 0 ∧ g.getD i 0 ≤ 1000000) (n : Nat) : ∀ i : Nat, -(1000000000000 * (i : Int)) ≤ mulP f g n i ∧ mulP f g n i ≤ 1000000000000 * (i : Int)
  | 0 => by simp [mulP]
  | i + 1 => by
    obtain ⟨a, b⟩ := mulP_bd hf hg n i
    have hm := mul_bd (hf i) (hg (n - i))
    unfold mulP
    generalize f.getD i 0 * g.getD (n - i) 0 = t at *
    generalize mulP f g n i = s at *
    push_cast
    split <;> omega
set_option maxRecDepth 20000
set_option maxHeartbeats 2000000 in
theorem l06Mul_any {o o' : Option Addr} {n n' c c' : Nat} {f g : List Int} {w : World} (h : Seen w o n c f) (h' : Seen w o' n' c' g) (hp : polyB f = true) (hq : polyB g = true) :
    Calls Try.prog 81 #[.slice o n c, .slice o' n' c'] w (OwnPost (trimL (mulL f g)) w) := by
  obtain ⟨hl, hn, hno, hnc, a, h1, h2⟩ := h
  obtain ⟨hl', hn', hno', hnc', a', h1', h2'⟩ := h'
  obtain ⟨i0, hi, hz0, hz1, hz2⟩ := info_parts Try.infoInt64
  have HI := Lib.hid hi
  have HZ0 := Lib.hid hz0
  have HZ1 := Lib.hid hz1
  have HZ2 := Lib.hid hz2
  have HF := Lib.hid h1
  have HC := Lib.hid h2
  have HF' := Lib.hid h1'
  have HC' := Lib.hid h2'
  have HL := Lib.hid (And.intro hl hl')
  have h9 : n ≤ 9 := by have := (polyB_of hp).1; omega
  have h9' : n' ≤ 9 := by have := (polyB_of hq).1; omega
  have BF := Lib.hid (polyB_of hp).2.1
  have BG := Lib.hid (polyB_of hq).2.1
  clear hi hz0 hz1 hz2 h1 h2 hl hno hnc h1' h2' hl' hno' hnc' hp hq hn hn'
  by_cases h0 : n = 0
  · have e : trimL (mulL f g) = [] := by
      have : mulL f g = [] := if_pos (.inl (by rw [← HL.out.1]; exact h0))
      rw [this]; rfl
    rw [e]
    subst h0
    have HR := Lib.hid (intRow_made w)
    go_enter Try.func81, Try.ntmps81
    go_wp2
    go_ret
    exact ⟨_, rfl, HR.out, (Below.refl _ _).alloc (Nat.le_refl _) _⟩
  · by_cases h0' : n' = 0
    · have e : trimL (mulL f g) = [] := by
        have : mulL f g = [] := if_pos (.inr (by rw [← HL.out.2]; exact h0'))
        rw [this]; rfl
      rw [e]
      subst h0'
      have hz : ((n : Int) == 0) = false := by simp; omega
      have HR := Lib.hid (intRow_made w)
      go_enter Try.func81, Try.ntmps81
      go_wp2
      go_ret
      exact ⟨_, rfl, HR.out, (Below.refl _ _).alloc (Nat.le_refl _) _⟩
    · obtain ⟨rfl, hag⟩ := HF.out (by omega)
      obtain ⟨rfl, hag'⟩ := HF'.out (by omega)
      have hz : ((n : Int) == 0) = false := by simp; omega
      have hz' : ((n' : Int) == 0) = false := by simp; omega
      obtain ⟨N, hN⟩ : ∃ N, n + n' - 1 = N := ⟨_, rfl⟩
      have hN1 : (n : Int) + (n' : Int) - 1 = (N : Int) := by omega
      have HN := Lib.hid hN
      have hN17 : N ≤ 17 := by omega
      clear hN
      go_enter Try.func81, Try.ntmps81
      go_wp2_with (at_make; refine wpList_make_full _ rfl (.tmp 22) (.tmp 22) 26 rfl w.heap.size 2 i0 (.int .i64 0) 1 Try.underlying26 HI.out HZ0.out HZ1.out .i64 .i64 _ _ N rfl rfl rfl rfl (by rw [HZ2.out]; omega) (by unfold maxLen; omega) (Nat.le_refl _) ?_)
      intro w2 hown hgrow
      have HR := Lib.hid (int_made (by rw [Nat.mul_one]; exact hown))
      have HB2 := Lib.hid ((Below.refl w.heap.size w).grown hgrow (Nat.le_refl _) (fun k h => by cases h))
      clear hown hgrow hN1
      go_wp2
      go_loopw [6] (fun s wr => ∃ i : Nat, i ≤ n ∧ s = .int .i64 i ∧ IntRow w.heap.size wr (.slice (some ⟨w.heap.size, 0, none⟩) N N) (tabL N (mulW f g i 0)) ∧ Below w.heap.size w wr) (fun s _ => n - (intOf s).toNat)
      case atStart => exact ⟨0, Nat.zero_le _, rfl, by rw [tabL_ext (g := fun _ => 0) (fun i _ => mulW_zero f g 0 i)]; exact HR.out, HB2.out⟩
      case round =>
        obtain ⟨i, hi, rfl, hrow, hb⟩ := hrel
        have HW := Lib.hid hrow
        have HB := Lib.hid hb
        clear hrow hb HR HB2
        by_cases hlt : i < n
        · go_wp2
          go_loopw [7] (fun s wr => ∃ k : Nat, k ≤ n' ∧ s = .int .i64 k ∧ IntRow w.heap.size wr (.slice (some ⟨w.heap.size, 0, none⟩) N N) (tabL N (mulW f g i k)) ∧ Below w.heap.size w wr) (fun s _ => n' - (intOf s).toNat)
          case atStart => exact ⟨0, Nat.zero_le _, rfl, HW.out, HB.out⟩
          case round =>
            obtain ⟨k, hk, rfl, hrow, hb⟩ := hrel
            have HW2 := Lib.hid hrow
            have HB2 := Lib.hid hb
            clear hrow hb HW HB
            by_cases hltk : k < n'
            · obtain ⟨m, hm⟩ : ∃ m, i + k = m := ⟨_, rfl⟩
              have hmN : m < N := by have := HN.out; omega
              have hik : (i : Int) + (k : Int) = (m : Int) := by omega
              have hwm : IntKind.i64.wrap (m : Int) = (m : Int) := IntWalk.i64_in _ (by omega)
              have a2 := HC.out i hlt
              rw [← HB2.out.cell (p := ⟨a, i, none⟩) hag] at a2
              have b2 := HC'.out k hltk
              rw [← HB2.out.cell (p := ⟨a', k, none⟩) hag'] at b2
              have hsl : (tabL N (mulW f g i k)).length = N := tabL_length _ _
              have c4 := int_at HW2.out hsl hmN
              rw [tabL_getD hmN, mulW_at hm] at c4
              have f4 := int_frozen HW2.out hsl m
              have HE := Lib.hid (mulW_step (f := f) (g := g) hmN hm rfl)
              have bp := mulP_bd BF.out BG.out m i
              have bt := mul_bd (BF.out i) (BG.out k)
              obtain ⟨x, hx⟩ : ∃ x, f.getD i 0 = x := ⟨_, rfl⟩
              obtain ⟨z, hzz⟩ : ∃ x, g.getD k 0 = x := ⟨_, rfl⟩
              obtain ⟨s, hs⟩ : ∃ x, mulP f g m i = x := ⟨_, rfl⟩
              rw [hx, hzz, hs] at HE
              rw [hx, hzz] at bt
              rw [hx] at a2
              rw [hzz] at b2
              rw [hs] at c4 bp
              have w1 : IntKind.i64.wrap (x * z) = x * z := IntWalk.i64_in _ (by omega)
              have w2 : IntKind.i64.wrap (s + x * z) = s + x * z := IntWalk.i64_in _ (by omega)
              have HM := Lib.hid hm
              clear hx hzz hs bp bt hm
              go_upto_region 10 with fail
              refine wp_region_still_tail 21 (by kernel_rfl) (by kernel_rfl) ?_
              simp only [List.take_succ_cons, List.take_zero, List.drop_succ_cons, List.drop_zero]
              repeat still_step
              refine wpStill_nil ?_
              change wpList _ _ _ _ _ wr.drew
              have R2 : Hid (IntRow w.heap.size wr.drew (.slice (some ⟨w.heap.size, 0, none⟩) N N) (tabL N (mulW f g i k))) := Lib.hid HW2.out
              have B2 := Lib.hid (below_drewN HB2.out 1)
              replace c4 : wr.drew.cell? ⟨w.heap.size, m, none⟩ = _ := c4
              replace f4 : wr.drew.frozen? ⟨w.heap.size, m, none⟩ = _ := f4
              change Hid (Below w.heap.size w wr.drew) at B2
              clear HW2 HB2 a2 b2
              generalize wr.drew = W2 at R2 B2 c4 f4 ⊢
              have R3 := Lib.hid (int_stored R2.out hsl m (s + x * z))
              rw [HE.out] at R3
              have B3 := Lib.hid (B2.out.setCell (p := ⟨w.heap.size, m, none⟩) (Nat.le_refl _) (.int .i64 (s + x * z)))
              clear hsl
              go_wp2
              exact ⟨⟨k + 1, by omega, by go_num, R3.out, B3.out⟩, by simp only [intOf]; omega⟩
            · have hkN : tabL N (mulW f g i k) = tabL N (mulW f g (i + 1) 0) := tabL_ext fun j _ => by rw [mulW_row (by have := HL.out.2; omega), mulW_zero]
              have R1 := Lib.hid (show IntRow w.heap.size wr (.slice (some ⟨w.heap.size, 0, none⟩) N N) (tabL N (mulW f g (i + 1) 0)) by rw [← hkN]; exact HW2.out)
              clear hkN
              go_wp2
              exact ⟨⟨i + 1, by omega, by go_num, R1.out, HB2.out⟩, by simp only [intOf]; omega⟩
        · have hkN : tabL N (mulW f g i 0) = mulL f g := by
            unfold mulL
            have := HL.out.1
            have := HL.out.2
            rw [if_neg (by omega), show f.length + g.length - 1 = N by have := HN.out; omega]
            exact tabL_ext fun j _ => by rw [mulW_zero, show i = f.length by omega]
          have hr := HW.out
          rw [hkN] at hr
          obtain ⟨o2, c2, e2, HS2⟩ := seen_row hr (by rw [← hkN, tabL_length]; omega)
          have HB2 := HB.out
          have hle : (mulL f g).length = N := by rw [← hkN, tabL_length]
          rw [hle] at e2 HS2
          injection e2 with e3 _ e4
          subst e3 e4
          clear hkN hr hle
          go_wp2_with (go_at_call 85; refine (specTrim_any HS2).mono ?_; rintro e w3 ⟨v, rfl, hr3, hb3⟩)
          go_ret
          exact ⟨_, rfl, intRow_lower hr3 HB2.size, HB2.trans (hb3.mono HB2.size)⟩
theorem mulL_le (f g : List Int) : (mulL f g).length ≤ f.length + g.length := by
  unfold mulL; split
  · simp
  · rw [tabL_length]; omega
end Go.Proofs.Ytckpeoadglkbgaa
namespace Go.Proofs.Ytckpeoadglkbgaa
set_option linter.unusedVariables false
set_option maxRecDepth 20000
set_option linter.unusedSimpArgs false
theorem prime_inv {p inv a : Int} (hp : PrimeP p) (hi : p ∣ inv * a - 1) : ¬ p ∣ inv := by
  rintro ⟨c, rfl⟩
  obtain ⟨d, hd⟩ := hi
  have h1 : p * (c * a - d) = 1 := by grind
  have h2 := hp.1
  rcases (by omega : c * a - d ≤ 0 ∨ 1 ≤ c * a - d) with h | h
  · have := Int.mul_le_mul_of_nonneg_left h (show (0 : Int) ≤ p by omega)
    omega
  · have := Int.mul_le_mul_of_nonneg_left h (show (0 : Int) ≤ p by omega)
    omega
/-! division -/
def subX (p : Int) (r : Nat → Int) (g : List Int) (c : Int) (N i j : Nat) : List Int := tabL N fun t => if i ≤ t ∧ t < i + j then (r t - c * g.getD (t - i) 0) % p else r t
theorem subX_zero (p : Int) (r : Nat → Int) (g : List Int) (c : Int) (N i : Nat) : subX p r g c N i 0 = tabL N r := tabL_ext fun t ht => by rw [if_neg (by omega)]
theorem subX_length (p : Int) (r : Nat → Int) (g : List Int) (c : Int) (N i j : Nat) : (subX p r g c N i j).length = N := tabL_length _ _
theorem subX_at {p : Int} {r : Nat → Int} {g : List Int} {c : Int} {N i j t : Nat} (ht : i + j = t) (h9 : t < N) : (subX p r g c N i j).getD t 0 = r t := by
  rw [subX, tabL_getD h9, if_neg (by omega)]
theorem subX_step {p : Int} {r : Nat → Int} {g : List Int} {c : Int} {N i j t : Nat} (ht : i + j = t) (h9 : t < N) : (subX p r g c N i j).set t ((r t - c * g.getD j 0) % p) = subX p r g c N i (j + 1) := by
  unfold subX
  rw [tab_set _ h9]
  refine tabL_ext fun u hu => ?_
  by_cases e : u = t
  · rw [if_pos e, if_pos (by omega), e, show t - i = j by omega]
  · rw [if_neg e]
    by_cases h2 : i ≤ u ∧ u < i + j
    · rw [if_pos h2, if_pos (by omega)]
    · rw [if_neg h2, if_neg (by omega)]
theorem subX_end {p inv : Int} {g : List Int} {r0 : Nat → Int} {N i k : Nat} (h : i + g.length + k = N) : subX p (mdS p inv g r0 N k) g (mdC p inv g r0 N k) N i g.length = tabL N (mdS p inv g r0 N (k + 1)) := by
  unfold subX
  refine tabL_ext fun t ht => ?_
  show _ = if N - g.length - k ≤ t ∧ t < N - g.length - k + g.length then (mdS p inv g r0 N k t - mdC p inv g r0 N k * g.getD (t - (N - g.length - k)) 0) % p else mdS p inv g r0 N k t
  rw [show N - g.length - k = i by omega]
def qX (p inv : Int) (f g : List Int) (q k : Nat) : List Int := tabL q fun j => if f.length < j + g.length + k then mdC p inv g (fun j => f.getD j 0) f.length (f.length - g.length - j) else 0
theorem qX_zero {p inv : Int} {f g : List Int} {q : Nat} (h : q + g.length = f.length + 1) : qX p inv f g q 0 = tabL q fun _ => 0 := tabL_ext fun j hj => by rw [if_neg (by omega)]
theorem qX_length (p inv : Int) (f g : List Int) (q k : Nat) : (qX p inv f g q k).length = q := tabL_length _ _
theorem qX_step {p inv : Int} {f g : List Int} {q k i : Nat} (h : q + g.length = f.length + 1) (hi : i + g.length + k = f.length) : (qX p inv f g q k).set i (mdC p inv g (fun j => f.getD j 0) f.length k) = qX p inv f g q (k + 1) := by
  unfold qX
  rw [tab_set _ (by omega)]
  refine tabL_ext fun t ht => ?_
  by_cases e : t = i
  · rw [if_pos e, if_pos (by omega), e, show f.length - g.length - i = k by omega]
  · rw [if_neg e]
    by_cases h2 : f.length < t + g.length + k
    · rw [if_pos h2, if_pos (by omega)]
    · rw [if_neg h2, if_neg (by omega)]
theorem qX_end {p : Int} {f g : List Int} {q : Nat} (h : q + g.length = f.length + 1) : trimL (qX p (invP p g) f g q q) = quoP p f g := by
  unfold qX quoP mdQ
  rw [show f.length + 1 - g.length = q by omega]
  congr 1
  exact tabL_ext fun t ht => by rw [if_pos (by omega)]
theorem rX_end {p : Int} {f g : List Int} {q N : Nat} (hN : N = f.length) (h : q = f.length + 1 - g.length) : trimL (tabL N (mdS p (invP p g) g (fun j => f.getD j 0) N q)) = remP p f g := by
  subst hN h; rfl
theorem few_quo {p : Int} {f g : List Int} (h : f.length < g.length) : quoP p f g = [] := by
  unfold quoP mdQ; rw [show f.length + 1 - g.length = 0 by omega]; rfl
theorem few_rem {p : Int} {f g : List Int} (h : f.length < g.length) : trimL f = remP p f g := by
  unfold remP mdR
  rw [show f.length + 1 - g.length = 0 by omega]
  congr 1
  refine ext_getD (by rw [tabL_length]) fun i hi => ?_
  rw [tabL_getD hi]; rfl
/-- the quotient has no zero at its end -/
theorem qX_full {p : Int} {f g : List Int} {q : Nat} (hp : PrimeP p) (hf : ModP p f) (hi : p ∣ invP p g * g.getD (g.length - 1) 0 - 1) (hq : q + g.length = f.length + 1) (h0 : 1 ≤ q) (hl : 1 ≤ g.length) : qX p (invP p g) f g q q = quoP p f g := by
  rw [← qX_end hq]
  refine (trimL_self ?_).symm
  unfold lastB
  rw [qX_length]
  have hne : f ≠ [] := fun e => by rw [e] at hq; simp at hq; omega
  have e1 : (qX p (invP p g) f g q q).getD (q - 1) 0 = f.getD (f.length - 1) 0 * invP p g % p := by
    unfold qX
    rw [tabL_getD (by omega), if_pos (by omega), show f.length - g.length - (q - 1) = 0 by omega]; rfl
  rw [e1]
  have h3 : ¬ f.getD (f.length - 1) 0 * invP p g % p = 0 := fun h => by
    rcases hp.2 _ _ (Int.dvd_of_emod_eq_zero h) with h | h
    · exact modP_last hf hne h
    · exact prime_inv hp hi h
  generalize f.getD (f.length - 1) 0 * invP p g % p = x at h3 ⊢
  simp [h3]
/-- made monic by a division -/
theorem mon_quo {p : Int} {f : List Int} (h2 : 2 ≤ p) (h97 : p ≤ 97) (hp : PrimeP p) (hf : ModP p f) (h0 : f.length ≠ 0) : quoP p f [f.getD (f.length - 1) 0] = monP p f := by
  have hne : f ≠ [] := fun e => h0 (by rw [e]; rfl)
  have hl := modP_last hf hne
  have hr := hf.rng (f.length - 1)
  have hm : ModP p [f.getD (f.length - 1) 0] := ⟨fun i => by
    cases i with
    | zero => exact hr
    | succ i => simp; omega, by
      have : ¬ f.getD (f.length - 1) 0 = 0 := fun e => hl (by rw [e]; exact Int.dvd_zero _)
      simpa [lastB] using this⟩
  have hd := divP_is h2 h97 hp hf hm (by simp)
  have hi := invP_dvd h2 h97 hp hf hne
  have hr0 : remP p f [f.getD (f.length - 1) 0] = [] := nil_of (by have h := hd.deg; rw [List.length_singleton] at h; exact Nat.lt_one_iff.1 h)
  rw [hr0] at hd
  unfold monP
  rw [if_neg h0]
  refine modP_eq hd.mq (redL_mod (by omega) _) (cgp_trans ?_ (cgp_symm (redL_cg p _)))
  obtain ⟨k, hk⟩ := hd.eq
  obtain ⟨m, hm2⟩ := hi
  refine ⟨smulL (-1) (addL (smulL m (quoP p f [f.getD (f.length - 1) 0])) (smulL (invP p f) k) 1), fun x => ?_⟩
  have e1 := hk x
  simp only [pval_add, pval_mul, pval_one, pval_nil, pval_smul] at e1 ⊢
  generalize f.getD (f.length - 1) 0 = a at *
  generalize pval (quoP p f [a]) x = Q at *
  generalize pval f x = F at *
  generalize pval k x = K at *
  generalize invP p f = v at *
  have e2 : v * a = 1 + p * m := by omega
  rw [e1]
  grind
/-! products -/
theorem mulW_mod {p : Int} {f g : List Int} {i k n : Nat} (hi : i + k = n) : (mulW f g i k n % p + f.getD i 0 * g.getD k 0) % p = mulW f g i (k + 1) n % p := by
  have e : mulW f g i (k + 1) n = mulW f g i k n + f.getD i 0 * g.getD k 0 := by
    rw [mulW_at hi]
    unfold mulW
    rw [if_pos (by omega), show n - i = k by omega]
  rw [e, Int.emod_add_emod]
def mulY (p : Int) (f g : List Int) (N i k : Nat) : List Int := tabL N fun n => mulW f g i k n % p
theorem mulY_length (p : Int) (f g : List Int) (N i k : Nat) : (mulY p f g N i k).length = N := tabL_length _ _
theorem mulY_start (p : Int) (f g : List Int) (N : Nat) : mulY p f g N 0 0 = tabL N fun _ => 0 := tabL_ext fun n _ => by rw [mulW_zero]; simp [mulP]
theorem mulY_row {p : Int} {f g : List Int} {N i k : Nat} (h : g.length ≤ k) : mulY p f g N i k = mulY p f g N (i + 1) 0 := tabL_ext fun n _ => by rw [mulW_row h, mulW_zero]
theorem mulY_at {p : Int} {f g : List Int} {N i k m : Nat} (hm : m < N) : (mulY p f g N i k).getD m 0 = mulW f g i k m % p := tabL_getD hm
theorem mulY_step {p : Int} {f g : List Int} {N i k m : Nat} (hm : m < N) (hik : i + k = m) : (mulY p f g N i k).set m ((mulW f g i k m % p + f.getD i 0 * g.getD k 0) % p) = mulY p f g N i (k + 1) := by
  rw [mulW_mod hik]
  unfold mulY
  rw [tab_set _ hm]
  refine tabL_ext fun n hn => ?_
  by_cases e : n = m
  · rw [if_pos e, e]
  · rw [if_neg e]
    unfold mulW
    by_cases h2 : i ≤ n ∧ n < i + k
    · rw [if_pos h2, if_pos (by omega)]
    · rw [if_neg h2, if_neg (by omega)]
theorem mulY_end {p : Int} {f g : List Int} {N : Nat} (h : N = f.length + g.length) : trimL (mulY p f g N f.length 0) = prodL p f g := by
  refine last_unique (trimL_last _) (trimL_last _) fun n => ?_
  rw [trimL_getD]
  show _ = (prodL p f g).getD n 0
  rw [prodL, redL_getD, mulL_getD]
  by_cases hn : n < N
  · rw [mulY_at hn, mulW_zero]
  · rw [getD_out (by rw [mulY_length]; omega), ← mulL_getD, getD_out (l := mulL f g) (by have := mulL_le f g; omega)]; simp
theorem redL_trim {p : Int} (l : List Int) : redL p (trimL l) = redL p l :=
  last_unique (trimL_last _) (trimL_last _) fun n => by
    show (redL p (trimL l)).getD n 0 = (redL p l).getD n 0
    rw [redL_getD, redL_getD, trimL_getD]
/-! common divisors -/
theorem gcdL_step {p : Int} {f g : List Int} (h2 : 2 ≤ p) (h97 : p ≤ 97) (hp : PrimeP p) (hf : ModP p f) (hg : ModP p g) (h0 : g.length ≠ 0) : gcdL p f g = gcdL p g (remP p f g) := by
  have hd := divP_is h2 h97 hp hf hg (fun e => h0 (by rw [e]; rfl))
  exact gcd_unique hp (gcdL_is h2 h97 hp hf hg) (gcd_step hd (gcdL_is h2 h97 hp hg hd.mr))
theorem gcdL_end {p : Int} {f g : List Int} (h0 : g.length = 0) : gcdL p f g = monP p f := by
  rw [nil_of h0]; rfl
/-! powers -/
/-- a power of x by f, not necessarily the remainder -/
structure IsPw (p : Int) (f : List Int) (e : Nat) (r : List Int) : Prop where
  mod : ModP p r
  len : r.length ≤ 9
  eq : ∃ q, CgP p (xL e) (addL (mulL f q) r 1)
theorem pw_of {p : Int} {f r : List Int} {e : Nat} (h : IsPow p f e r) (hf : f.length ≤ 9) : IsPw p f e r := ⟨h.mod, by have := h.deg; omega, h.eq⟩
theorem pw_x {p : Int} (hp : 2 ≤ p) (f : List Int) : IsPw p f 1 [0, 1] := by
  refine ⟨⟨fun i => ?_, by simp [lastB]⟩, by simp, [], cgp_val fun x => ?_⟩
  · match i with
    | 0 => exact ⟨by simp, by simp; omega⟩
    | 1 => exact ⟨by simp, by simp; omega⟩
    | i + 2 => simp; omega
  · rw [pval_xL, pval_add, pval_mul, pval_nil, pval_lin, Int.pow_succ, Int.pow_zero]; omega
theorem pw_mul {p : Int} {f r s m q t : List Int} {a b : Nat} (h1 : IsPw p f a r) (h2 : IsPw p f b s) (hm : CgP p m (mulL r s)) (h : IsDiv p m f q t) : IsPow p f (a + b) t := by
  obtain ⟨q1, k1, e1⟩ := h1.eq
  obtain ⟨q2, k2, e2⟩ := h2.eq
  obtain ⟨k3, e3⟩ := hm
  obtain ⟨k4, e4⟩ := h.eq
  refine ⟨h.mr, h.deg, addL (addL (mulL (mulL f q1) q2) (mulL q1 s) 1) (addL (mulL q2 r) q 1) 1, addL (addL (mulL (addL (mulL f q1) r 1) k2) (mulL (addL (mulL f q2) s 1) k1) 1) (addL (smulL p (mulL k1 k2)) (addL k4 k3 (-1)) 1) 1, fun x => ?_⟩
  have f1 := e1 x
  have f2 := e2 x
  have f3 := e3 x
  have f4 := e4 x
  rw [pval_xL] at f1 f2
  simp only [pval_add, pval_mul, pval_smul] at f1 f2 f3 f4 ⊢
  rw [pval_xL, Int.pow_add, f1, f2]
  generalize pval f x = F at *
  generalize pval q1 x = Q1 at *
  generalize pval q2 x = Q2 at *
  generalize pval r x = R at *
  generalize pval s x = S at *
  generalize pval k1 x = K1 at *
  generalize pval k2 x = K2 at *
  generalize pval k3 x = K3 at *
  generalize pval k4 x = K4 at *
  generalize pval q x = Q at *
  generalize pval t x = T at *
  generalize pval m x = M at *
  grind
theorem pw_join {p : Int} (h2 : 2 ≤ p) (h97 : p ≤ 97) (hp : PrimeP p) {f r s : List Int} (hf : ModP p f) (h0 : f ≠ []) {a b : Nat} (hr : IsPw p f a r) (hs : IsPw p f b s) : IsPow p f (a + b) (remP p (prodL p r s) f) :=
  pw_mul hr hs (redL_cg p (mulL r s)) (divP_is h2 h97 hp (redL_mod (by omega) _) hf h0)
/-- what is left of the exponent -/
theorem half_odd {A B E e : Nat} (h : A + B * e = E) (ho : e % 2 = 1) : A + B + (B + B) * (e / 2) = E := by
  have h1 : e = 2 * (e / 2) + 1 := by omega
  have h2 : B * e = B * (2 * (e / 2) + 1) := by rw [← h1]
  rw [Nat.mul_add, Nat.mul_one, ← Nat.mul_assoc, Nat.mul_two] at h2
  omega
theorem half_even {A B E e : Nat} (h : A + B * e = E) (ho : e % 2 = 0) : A + (B + B) * (e / 2) = E := by
  have h1 : e = 2 * (e / 2) := by omega
  have h2 : B * e = B * (2 * (e / 2)) := by rw [← h1]
  rw [← Nat.mul_assoc, Nat.mul_two] at h2
  omega
end Go.Proofs.Ytckpeoadglkbgaa
namespace Go.Proofs.Ytckpeoadglkbgaa
open Go.RowKit
set_option linter.unusedVariables false
/-- what holds at the head of a round -/
def BzRel (a b r x y s u v : Int) : Prop :=
  r.natAbs ≤ 1000000000000 ∧ s.natAbs ≤ 1000000000000 ∧ ∃ f, s.natAbs ≤ f ∧ bzF f r x y s u v = bzT a b
theorem bzRel_start {a b : Int} (ha1 : -1000000000000 ≤ a) (ha2 : a ≤ 1000000000000) (hb1 : -1000000000000 ≤ b) (hb2 : b ≤ 1000000000000) : BzRel a b a 1 0 b 0 1 :=
  ⟨by omega, by omega, b.natAbs, Nat.le_refl _, rfl⟩
theorem bzRel_step {a b r x y s u v : Int} (hs : s ≠ 0) (h : BzRel a b r x y s u v) :
    BzRel a b s u v (wrap64 (r - wrap64 (wrap64 (r.tdiv s) * s))) (wrap64 (x - wrap64 (wrap64 (r.tdiv s) * u))) (wrap64 (y - wrap64 (wrap64 (r.tdiv s) * v))) ∧
    (wrap64 (r - wrap64 (wrap64 (r.tdiv s) * s))).natAbs < s.natAbs := by
  obtain ⟨h1, h2, f, h3, h4⟩ := h
  rw [rem_step h1 h2]
  have h5 := tmod_le r s
  refine ⟨⟨h2, by omega, ?_⟩, tmod_lt r hs⟩
  match f, h3, h4 with
  | 0, h3, h4 => omega
  | f + 1, h3, h4 =>
    obtain ⟨e, hl⟩ := bzF_step (r := r) (x := x) (y := y) (u := u) (v := v) hs h3
    exact ⟨f, hl, by rw [← e, h4]⟩
theorem bzRel_end {a b r x y u v : Int} (h : BzRel a b r x y 0 u v) : bzT a b = (r, x, y) := by
  obtain ⟨_, _, f, _, h4⟩ := h; rw [← h4, bzF_zero]
theorem bez_neg {a b r x y u v : Int} (h : BzRel a b r x y 0 u v) (hr : r < 0) : wrap64 (-x) = bezX a b ∧ wrap64 (-y) = bezY a b := by
  have e := bzRel_end h; simp [bezX, bezY, e, hr]
theorem bez_pos {a b r x y u v : Int} (h : BzRel a b r x y 0 u v) (hr : 0 ≤ r) : x = bezX a b ∧ y = bezY a b := by
  have e := bzRel_end h; have : ¬ r < 0 := by omega
  simp [bezX, bezY, e, this]
theorem ret_int2 {k l : IntKind} {a b c d : Int} (h : a = b) (h' : c = d) : Ending.returned (.tuple #[.int k a, .int l c]) = .returned (.tuple #[.int k b, .int l d]) := by rw [h, h']
theorem ret_int3 {k l m : IntKind} {a b c d p q : Int} (h : a = b) (h' : c = d) (h'' : p = q) : Ending.returned (.tuple #[.int k a, .int l c, .int m p]) = .returned (.tuple #[.int k b, .int l d, .int m q]) := by rw [h, h', h'']
set_option maxHeartbeats 400000 in
theorem l01Bez_any (a b : Int) (w : World) (ha1 : -1000000000000 ≤ a) (ha2 : a ≤ 1000000000000) (hb1 : -1000000000000 ≤ b) (hb2 : b ≤ 1000000000000) :
    Calls Try.prog 108 #[.int .i64 a, .int .i64 b] w fun e w' => e = .returned (.tuple #[.int .i64 (bezX a b), .int .i64 (bezY a b)]) ∧ w = w' := by
  have HS := Lib.hid (bzRel_start ha1 ha2 hb1 hb2)
  clear ha1 ha2 hb1 hb2
  go_enter Try.func108, Try.ntmps108
  go_wp2
  go_loop [6, 7, 8, 9, 10, 11, 12] (fun r x y s u v q => ∃ r' x' y' s' u' v' : Int, r = .int .i64 r' ∧ x = .int .i64 x' ∧ y = .int .i64 y' ∧ s = .int .i64 s' ∧ u = .int .i64 u' ∧ v = .int .i64 v' ∧ BzRel a b r' x' y' s' u' v') (fun r x y s u v q => (intOf s).natAbs)
  case atStart => exact ⟨_, _, _, _, _, _, rfl, rfl, rfl, rfl, rfl, rfl, HS.out⟩
  case round =>
    obtain ⟨r, x, y, s, u, v, rfl, rfl, rfl, rfl, rfl, rfl, hr⟩ := hrel
    by_cases hs : s = 0
    · subst hs
      have H := Lib.hid hr
      clear hr HS
      by_cases hr0 : r < 0
      · go_wp2
        go_ret2
        exact ⟨ret_int2 (bez_neg H.out hr0).1 (bez_neg H.out hr0).2, rfl⟩
      · have hr1 : 0 ≤ r := by omega
        go_wp2
        go_ret2
        exact ⟨ret_int2 (bez_pos H.out hr1).1 (bez_pos H.out hr1).2, rfl⟩
    · have hs' : (s == 0) = false := by simpa using hs
      have hs'' : (s != 0) = true := by simpa using hs
      have H := Lib.hid (bzRel_step hs hr)
      clear hr HS
      go_wp2
      exact ⟨⟨_, _, _, _, _, _, rfl, rfl, rfl, rfl, rfl, rfl, H.out.1⟩, by simpa only [intOf] using H.out.2⟩
theorem implBez_no (a b : Int) (w : World) (h : valueB a = false ∨ valueB b = false) :
    Calls Try.prog 107 #[.int .i64 a, .int .i64 b] w fun e w' => e = .returned (.tuple #[.int .i64 0, .int .i64 0, .int .i64 2]) ∧ w = w' := by
  cases ha : valueB a
  · clear h
    go_enter Try.func107, Try.ntmps107
    go_wp2_with (go_at_call 116; refine (isValue_any _ _).mono ?_; rintro e w' ⟨rfl, rfl⟩)
    go_ret3
    exact ⟨rfl, rfl⟩
  · have hb : valueB b = false := by simpa [ha] using h
    clear h
    go_enter Try.func107, Try.ntmps107
    go_wp2_with (go_at_call 116; refine (isValue_any _ _).mono ?_; rintro e w' ⟨rfl, rfl⟩)
    go_ret3
    exact ⟨rfl, rfl⟩
set_option maxHeartbeats 400000 in
theorem implBez_val (a b : Int) (w : World) (ha : valueB a = true) (hb : valueB b = true) :
    Calls Try.prog 107 #[.int .i64 a, .int .i64 b] w fun e w' => e = .returned (.tuple #[.int .i64 (bezX a b), .int .i64 (bezY a b), .int .i64 0]) ∧ w = w' := by
  have ba := valueB_bd ha
  have bb := valueB_bd hb
  have HS := Lib.hid (bzRel_start ba.1 ba.2 bb.1 bb.2)
  clear ba bb
  go_enter Try.func107, Try.ntmps107
  go_wp2_with (go_at_call 116; refine (isValue_any _ _).mono ?_; rintro e w' ⟨rfl, rfl⟩)
  go_loop [7, 8, 9, 10, 11, 12, 13] (fun r x y s u v q => ∃ r' x' y' s' u' v' : Int, r = .int .i64 r' ∧ x = .int .i64 x' ∧ y = .int .i64 y' ∧ s = .int .i64 s' ∧ u = .int .i64 u' ∧ v = .int .i64 v' ∧ BzRel a b r' x' y' s' u' v') (fun r x y s u v q => (intOf s).natAbs)
  case atStart => exact ⟨_, _, _, _, _, _, rfl, rfl, rfl, rfl, rfl, rfl, HS.out⟩
  case round =>
    obtain ⟨r, x, y, s, u, v, rfl, rfl, rfl, rfl, rfl, rfl, hr⟩ := hrel
    by_cases hs : s = 0
    · subst hs
      have H := Lib.hid hr
      clear hr HS
      by_cases hr0 : r < 0
      · go_wp2
        go_ret3
        exact ⟨ret_int3 (bez_neg H.out hr0).1 (bez_neg H.out hr0).2 rfl, rfl⟩
      · have hr1 : 0 ≤ r := by omega
        go_wp2
        go_ret3
        exact ⟨ret_int3 (bez_pos H.out hr1).1 (bez_pos H.out hr1).2 rfl, rfl⟩
    · have hs' : (s == 0) = false := by simpa using hs
      have hs'' : (s != 0) = true := by simpa using hs
      have H := Lib.hid (bzRel_step hs hr)
      clear hr HS
      go_wp2
      exact ⟨⟨_, _, _, _, _, _, rfl, rfl, rfl, rfl, rfl, rfl, H.out.1⟩, by simpa only [intOf] using H.out.2⟩
end Go.Proofs.Ytckpeoadglkbgaa
namespace Go.Proofs.Ytckpeoadglkbgaa
open Go.RowKit
set_option linter.unusedVariables false
theorem basePrime_any (p : Int) (w : World) :
    Calls Try.prog 95 #[.int .i64 p] w fun e w' => e = .returned (.bool (smallB p)) ∧ w = w' := by
  by_cases h : p ≤ 97
  · have e : isPrimeB p = smallB p := by
      by_cases h2 : 2 ≤ p
      · rw [isPrimeB_in h2 (by omega), smallB_in h2 h]
      · rw [isPrimeB_out (by omega), smallB_out (by omega)]
    have E := Lib.hid e
    clear e
    go_enter Try.func95, Try.ntmps95
    go_wp2_with (go_at_call 112; refine (implIsPrime_any _ _).mono ?_; rintro e w' ⟨rfl, rfl⟩)
    go_ret
    exact ⟨ret_bool E.out, rfl⟩
  · rw [smallB_out (by omega)]
    go_enter Try.func95, Try.ntmps95
    go_wp2_with fail
    go_ret
    exact ⟨rfl, rfl⟩
theorem l01Small_any (p : Int) (w : World) :
    Calls Try.prog 82 #[.int .i64 p] w fun e w' => e = .returned (.bool (smallB p)) ∧ w = w' := by
  by_cases h : 2 ≤ p ∧ p ≤ 97
  · have e := inB_t h.1 h.2
    rw [smallB_in h.1 h.2]
    obtain ⟨h1, h2⟩ := h
    go_enter Try.func82, Try.ntmps82
    go_wp2_with (first | (go_at_call 56; refine (in_any _ _ _ _).mono ?_; rintro e w' ⟨rfl, rfl⟩) | (go_at_call 104; refine (l01Prime_any _ _ (by omega) (by omega)).mono ?_; rintro e w' ⟨rfl, rfl⟩))
    go_ret
    exact ⟨rfl, rfl⟩
  · have e : inB p 2 97 = false := inB_f (by omega)
    rw [smallB_out (by omega)]
    clear h
    go_enter Try.func82, Try.ntmps82
    go_wp2_with (go_at_call 56; refine (in_any _ _ _ _).mono ?_; rintro e w' ⟨rfl, rfl⟩)
    go_ret
    exact ⟨rfl, rfl⟩
set_option maxHeartbeats 400000 in
theorem l01Val_any (n p : Int) (w : World) (hp : 2 ≤ p) (h0 : n ≠ 0) (h1 : n.natAbs ≤ 1000000000000) :
    Calls Try.prog 102 #[.int .i64 n, .int .i64 p] w fun e w' => e = .returned (.int .i64 (valCount n p)) ∧ w = w' := by
  have HS := Lib.hid (vRel_start (p := p) h0 h1)
  clear h0 h1
  go_enter Try.func102, Try.ntmps102
  go_wp2
  go_loop [0, 5] (fun a c => ∃ m k : Int, a = .int .i64 m ∧ c = .int .i64 k ∧ VRel n p m k) (fun a _ => (intOf a).natAbs)
  case atStart => exact ⟨n, 0, rfl, rfl, HS.out⟩
  case round =>
    obtain ⟨m, k, rfl, rfl, hr⟩ := hrel
    have HR := Lib.hid hr
    have b0 := hr.2.1
    have b1 := hr.2.2.1
    have b2 := hr.2.2.2.1
    have b4 : (p == 0) = false := by simp; omega
    have b3 : k ≤ 4000000000000000000 := by
      obtain ⟨_, _, h, _, _, _⟩ := hr
      have : n.natAbs ≤ 1000000000000 := HS.out.2.2.2.1
      omega
    clear hr HS b1
    by_cases hm : m.tmod p = 0
    · have H := Lib.hid (vRel_step hp HR.out hm)
      have hm' : (m.tmod p == 0) = true := by simp [hm]
      clear hm
      go_wp2
      exact ⟨⟨_, _, rfl, rfl, H.out.1⟩, by simpa only [intOf] using H.out.2⟩
    · have H := Lib.hid (vRel_end HR.out hm)
      have hm' : (m.tmod p == 0) = false := by simp [hm]
      clear hm
      go_wp2
      go_ret
      exact ⟨ret_int H.out.1, rfl⟩
end Go.Proofs.Ytckpeoadglkbgaa
namespace Go.Proofs.Ytckpeoadglkbgaa
open Go.RowKit
set_option linter.unusedVariables false
set_option maxHeartbeats 400000 in
theorem implModulus_any (p n : Int) (w : World) :
    Calls Try.prog 71 #[.agg #[.int .i64 p, .int .i64 n]] w fun e w' => e = .returned (.int .i64 (ringM p n)) ∧ Below w.heap.size w w' := by
  cases hs : smallB p
  · rw [ringM_small hs]
    go_enter Try.func71, Try.ntmps71
    go_wp2_with (go_at_call 95; refine (basePrime_any _ _).mono ?_; rintro e w' ⟨rfl, rfl⟩)
    go_ret
    exact ⟨rfl, (Below.refl _ _).alloc (Nat.le_refl _) _⟩
  · by_cases hn : n < 1
    · rw [ringM_low hn]
      go_enter Try.func71, Try.ntmps71
      go_wp2_with (go_at_call 95; refine (basePrime_any _ _).mono ?_; rintro e w' ⟨rfl, rfl⟩)
      go_ret
      exact ⟨rfl, (Below.refl _ _).alloc (Nat.le_refl _) _⟩
    · obtain ⟨hp2, hp97⟩ := smallB_bd hs
      have HS := Lib.hid hs
      go_enter Try.func71, Try.ntmps71
      go_wp2_with (go_at_call 95; refine (basePrime_any _ _).mono ?_; rintro e w' ⟨rfl, rfl⟩)
      clear hs
      have hp0 : (p == 0) = false := by simp; omega
      go_loop [3, 15] (fun m i => ∃ M I : Int, m = .int .i64 M ∧ i = .int .i64 I ∧ MRel p I M ∧ I ≤ n) (fun _ i => 40 - (intOf i).toNat)
      case atStart => exact ⟨1, 0, rfl, rfl, mRel_start p, by omega⟩
      case round =>
        obtain ⟨M, I, rfl, rfl, hr, hin⟩ := hrel
        have h1 := mRel_prod hp2 hp97 hr
        have h2 := hr.1
        have h3 := hr.2.1
        have HR := Lib.hid hr
        clear hr
        by_cases hlt : I < n
        · by_cases ho : 1000000000 < M * p
          · have HE := Lib.hid (mRel_over hp2 HR.out ho hlt)
            have hov := (over_iff (m := M) hp2).2 ho
            go_wp2
            go_ret
            exact ⟨ret_int HE.out.symm, (Below.refl _ _).alloc (Nat.le_refl _) _⟩
          · have HE := Lib.hid (mRel_step hp2 hp97 HR.out (by omega))
            have hov : ¬ (1000000000 : Int) / p < M := fun h => ho ((over_iff (m := M) hp2).1 h)
            go_wp2
            exact ⟨⟨_, _, rfl, rfl, HE.out, by omega⟩, by simp only [intOf]; omega⟩
        · have HE := Lib.hid (mRel_end HS.out HR.out (show I = n by omega) (by omega))
          go_wp2
          go_ret
          exact ⟨ret_int HE.out.symm, (Below.refl _ _).alloc (Nat.le_refl _) _⟩
set_option maxHeartbeats 400000 in
theorem l02Modulus_any (p n : Int) (w : World) (hs : smallB p = true) (hn : 1 ≤ n) (hn2 : n ≤ 1000) :
    Calls Try.prog 66 #[.int .i64 p, .int .i64 n] w fun e w' => e = .returned (.int .i64 (ringM p n)) ∧ w = w' := by
  obtain ⟨hp2, hp97⟩ := smallB_bd hs
  have HS := Lib.hid hs
  clear hs
  go_enter Try.func66, Try.ntmps66
  go_wp2
  go_loop [1, 5] (fun i m => ∃ M I : Int, m = .int .i64 M ∧ i = .int .i64 (n - I) ∧ MRel p I M ∧ I ≤ n) (fun i _ => (intOf i).toNat)
  case atStart => exact ⟨1, 0, rfl, by simp, mRel_start p, by omega⟩
  case round =>
    obtain ⟨M, I, rfl, rfl, hr, hin⟩ := hrel
    have h1 := mRel_prod hp2 hp97 hr
    have h2 := hr.1
    have h3 := hr.2.1
    have HR := Lib.hid hr
    clear hr
    by_cases hlt : I < n
    · by_cases ho : 1000000000 < M * p
      · have HE := Lib.hid (mRel_over hp2 HR.out ho hlt)
        go_wp2
        go_ret
        exact ⟨ret_int HE.out.symm, rfl⟩
      · have HE := Lib.hid (mRel_step hp2 hp97 HR.out (by omega))
        go_wp2
        exact ⟨⟨_, _, rfl, by congr 1; omega, HE.out, by omega⟩, by simp only [intOf]; omega⟩
    · have HE := Lib.hid (mRel_end HS.out HR.out (show I = n by omega) (by omega))
      go_wp2
      go_ret
      exact ⟨ret_int HE.out.symm, rfl⟩
end Go.Proofs.Ytckpeoadglkbgaa
namespace Go.Proofs.Ytckpeoadglkbgaa
open Go.RowKit
set_option linter.unusedVariables false
set_option linter.unusedSimpArgs false
set_option maxRecDepth 20000
theorem cofB_cases (x : Int) : cofB x = true ∧ -1000000 ≤ x ∧ x ≤ 1000000 ∨ cofB x = false ∧ (x < -1000000 ∨ 1000000 < x) := inB_cases x _ _
def withB (B : Int) (l : List Int) : Bool := l.all fun x => inB x (-B) B
set_option maxHeartbeats 800000 in
theorem within_any (B : Int) (hB0 : 0 ≤ B) (hB1 : B ≤ 1000000) {o : Option Addr} {n c : Nat} {l : List Int} {w : World} (h : Seen w o n c l) :
    Calls Try.prog 106 #[.slice o n c, .int .i64 B] w fun e w' => e = .returned (.bool (withB B l)) ∧ w = w' := by
  obtain ⟨hl, hn, hno, hnc, g, h1, h2⟩ := h
  clear hno hnc
  have HO := Lib.hid fun h => (h1 h).1
  have HL := Lib.hid hl
  have HC := Lib.hid h2
  have hneg : IntKind.i64.wrap (-B) = -B := IntWalk.i64_in _ (by omega)
  clear h1 h2 hl
  go_enter Try.func106, Try.ntmps106
  go_wp2
  go_loop [9] (fun i => ∃ k : Nat, k ≤ n ∧ i = .int .i64 k ∧ (l.take k).all (fun x => inB x (-B) B) = true) (fun i => n - (intOf i).toNat)
  case atStart => exact ⟨0, Nat.zero_le _, rfl, by simp⟩
  case round =>
    obtain ⟨k, hk, rfl, hall⟩ := hrel
    by_cases hlt : k < n
    · have hkl : k < l.length := by have := HL.out; omega
      have hog := HO.out (by omega)
      subst hog
      have a2 := HC.out k hlt
      have HS := Lib.hid (all_take6 (f := fun x => inB x (-B) B) hkl)
      rcases inB_cases (l.getD k 0) (-B) B with ⟨hc, x0, x1⟩ | ⟨hc, x0⟩
      · have HE := Lib.hid (show (l.take (k + 1)).all (fun x => inB x (-B) B) = true by rw [HS.out, hall]; simpa using hc)
        generalize l.getD k 0 = x at *
        have x2 : ¬ x < -B := by omega
        have x3 : ¬ B < x := by omega
        clear hkl hall hc
        go_wp2
        exact ⟨⟨k + 1, by omega, by go_num, HE.out⟩, by simp [intOf]; omega⟩
      · have HP := Lib.hid (show withB B l = false by unfold withB; exact all_false hkl hc)
        generalize l.getD k 0 = x at *
        clear hkl hall hc
        rcases x0 with x0 | x0
        · go_wp2
          go_ret
          rw [HP.out]; exact ⟨rfl, rfl⟩
        · have x1 : ¬ x < -B := by omega
          go_wp2
          go_ret
          rw [HP.out]; exact ⟨rfl, rfl⟩
    · have hkn : k = n := by omega
      rw [hkn, HL.out, List.take_of_length_le (Nat.le_refl _)] at hall
      have HP := Lib.hid (show withB B l = true from hall)
      clear hlt hall
      subst hkn
      go_wp2
      go_ret
      rw [HP.out]; exact ⟨rfl, rfl⟩
theorem polyB_eq (l : List Int) : polyB l = (withB 1000000 l && (decide (l.length ≤ 9) && lastB l)) := rfl
def canB (l : List Int) : Bool := decide (l.length ≤ 9) && lastB l
set_option maxHeartbeats 800000 in
theorem canBe_any {o : Option Addr} {n c : Nat} {l : List Int} {w : World} (h : Seen w o n c l) :
    Calls Try.prog 105 #[.slice o n c] w fun e w' => e = .returned (.bool (canB l)) ∧ w = w' := by
  obtain ⟨hl, hn, hno, hnc, g, h1, h2⟩ := h
  clear hno hnc
  have HO := Lib.hid fun h => (h1 h).1
  have HL := Lib.hid hl
  have HC := Lib.hid h2
  clear h1 h2 hl
  by_cases h9 : n ≤ 9
  · by_cases h0 : n = 0
    · have HP := Lib.hid (show canB l = true by simp [canB, lastB, ← HL.out, h0])
      subst h0
      go_enter Try.func105, Try.ntmps105
      go_wp2_with fail
      go_ret
      rw [HP.out]; exact ⟨rfl, rfl⟩
    · have hog := HO.out (by omega)
      subst hog
      have a2 := HC.out (n - 1) (by omega)
      have HP := Lib.hid (show canB l = !(l.getD (n - 1) 0 == 0) by
        rw [HL.out] at h9 h0 ⊢
        simp only [canB, lastB, Bool.true_and, decide_eq_true h9, decide_eq_false h0, Bool.false_or])
      generalize l.getD (n - 1) 0 = x at *
      have h0' : ((n : Int) == 0) = false := by simp; omega
      have hn1 : (n : Int) - 1 = ((n - 1 : Nat) : Int) := by omega
      go_enter Try.func105, Try.ntmps105
      go_wp2_with fail
      go_ret
      rw [HP.out]; exact ⟨rfl, rfl⟩
  · have HP := Lib.hid (show canB l = false by
      have := HL.out
      rw [this] at h9
      simp only [canB, decide_eq_false h9, Bool.false_and])
    go_enter Try.func105, Try.ntmps105
    go_wp2_with fail
    go_ret
    rw [HP.out]; exact ⟨rfl, rfl⟩
theorem polyB_can (l : List Int) : polyB l = (canB l && withB 1000000 l) := by rw [polyB_eq]; unfold canB; exact Bool.and_comm _ _
theorem implIsPoly_any {o : Option Addr} {n c : Nat} {l : List Int} {w : World} (h : Seen w o n c l) :
    Calls Try.prog 86 #[.slice o n c] w fun e w' => e = .returned (.bool (polyB l)) ∧ w = w' := by
  have HS := Lib.hid h
  have HP := Lib.hid (polyB_can l)
  clear h
  cases hc : canB l
  · rw [hc] at HP
    go_enter Try.func86, Try.ntmps86
    go_wp2_with fail
    refine (canBe_any HS.out).mono ?_
    rw [hc]
    rintro e w2 ⟨rfl, rfl⟩
    go_wp2_with fail
    go_ret
    rw [HP.out]; exact ⟨rfl, rfl⟩
  · cases hw : withB 1000000 l
    all_goals
      rw [hc, hw] at HP
      go_enter Try.func86, Try.ntmps86
      go_wp2_with fail
      refine (canBe_any HS.out).mono ?_
      rw [hc]
      rintro e w2 ⟨rfl, rfl⟩
      go_wp2_with fail
      refine (within_any 1000000 (by omega) (by omega) HS.out).mono ?_
      rw [hw]
      rintro e w2 ⟨rfl, rfl⟩
      go_wp2_with fail
      go_ret
      rw [HP.out]; exact ⟨rfl, rfl⟩
theorem row_cut {b n c k : Nat} {o : Option Addr} {w : World} {l : List Int} (h : IntRow b w (.slice o n c) l) (hk : k ≤ n) : IntRow b w (.slice o k c) (l.take k) := by
  have hl : l.length = n := by
    obtain ⟨o', c', e⟩ : ∃ o' c', Value.slice o n c = .slice o' l.length c' := by
      rcases row_shape h with ⟨h0, _⟩ | ⟨_, g, c', e, _⟩
      · obtain ⟨_, h2⟩ := h
        rcases h2 with ⟨e, _⟩ | ⟨g, cap, cur, e, _⟩
        · injection e with e1 e2 e3; exact ⟨none, 0, by rw [e1, e2, e3, h0]⟩
        · exact ⟨_, _, e⟩
      · exact ⟨_, _, e⟩
    injection e with _ e2 _; exact e2.symm
  obtain ⟨h1, h2⟩ := h
  refine ⟨by simp, ?_⟩
  have hlt : (l.take k).length = k := by rw [List.length_take]; omega
  rcases h2 with ⟨e, h0⟩ | ⟨g, cap, cur, e, hb, hg, hnc, hm, hs, ht⟩
  · injection e with e1 e2 e3
    exact .inl ⟨by rw [e1, e3, show k = 0 by omega], by rw [hlt]; omega⟩
  · injection e with e1 e2 e3
    refine .inr ⟨g, cap, cur, by rw [e1, e3, hlt], hb, hg, by rw [hlt]; omega, hm, hs, ?_⟩
    rw [hlt, List.map_take, ← ht, List.take_take]
    congr 1; omega
set_option maxHeartbeats 800000 in
theorem trimmed_any {o : Option Addr} {n c : Nat} {l : List Int} {w : World} (h : Seen w o n c l) :
    Calls Try.prog 115 #[.slice o n c] w fun e w' => e = .returned (.slice o (trimN l l.length) c) ∧ w = w' := by
  obtain ⟨hl, hn, hno, hnc, g, h1, h2⟩ := h
  have HO := Lib.hid fun h => (h1 h).1
  have HL := Lib.hid hl
  have HC := Lib.hid h2
  have HNO := Lib.hid hno
  rw [← hl]
  clear h1 h2 hl hno
  go_enter Try.func115, Try.ntmps115
  go_wp2
  go_loop [3] (fun i => ∃ k : Nat, k ≤ n ∧ i = .int .i64 k ∧ trimN l k = trimN l n) (fun i => (intOf i).toNat)
  case atStart => exact ⟨n, Nat.le_refl _, rfl, rfl⟩
  case round =>
    obtain ⟨k, hk, rfl, ht⟩ := hrel
    by_cases h0 : k = 0
    · have HT := Lib.hid (show trimN l n = 0 by rw [← ht, h0]; rfl)
      clear ht
      subst h0
      cases o with
      | none =>
        have := HNO.out rfl
        go_wp2
        go_ret
        rw [HT.out]; exact ⟨rfl, rfl⟩
      | some a =>
        go_wp2
        go_ret
        rw [HT.out]; exact ⟨rfl, rfl⟩
    · have hog := HO.out (by omega)
      subst hog
      have a2 := HC.out (k - 1) (by omega)
      have HX := Lib.hid (show l.getD (k - 1) 0 = 0 → trimN l (k - 1) = trimN l n by intro h; rw [← ht]; rw [show k = k - 1 + 1 by omega]; exact (trimN_zero h).symm)
      have HY := Lib.hid (show l.getD (k - 1) 0 ≠ 0 → trimN l n = k by intro h; rw [← ht]; rw [show k = k - 1 + 1 by omega, trimN_stay h])
      have hk1 : (k : Int) - 1 = ((k - 1 : Nat) : Int) := by omega
      have hkc : k ≤ c := by omega
      generalize l.getD (k - 1) 0 = x at *
      clear ht
      by_cases hx : x = 0
      · have HX' := Lib.hid (HX.out hx)
        have hx' : (x == 0) = true := by simp [hx]
        clear hx
        go_wp2
        exact ⟨⟨k - 1, by omega, by go_num, HX'.out⟩, by simp [intOf]; omega⟩
      · have HY' := Lib.hid (HY.out hx)
        have hx' : (x == 0) = false := by simpa using hx
        clear hx HX HY
        go_wp2
        go_ret
        rw [HY'.out]; exact ⟨rfl, rfl⟩
end Go.Proofs.Ytckpeoadglkbgaa
namespace Go.Proofs.Ytckpeoadglkbgaa
set_option linter.unusedVariables false
set_option maxRecDepth 20000
theorem shiftP_stay (f : List Int) (a : Int) {i k : Nat} (hi : i < k) (hn : i < f.length) : ∀ j, (shiftP f a (k + j)).getD i 0 = (shiftP f a k).getD i 0
  | 0 => rfl
  | j + 1 => by
    show (tabL f.length fun i => if i < k + j then (shiftP f a (k + j)).getD i 0 else evalD (shiftP f a (k + j)) a (f.length - i)).getD i 0 = _
    rw [tabL_getD hn, if_pos (by omega)]
    exact shiftP_stay f a hi hn j
theorem shiftP_final (f : List Int) (a : Int) {i k : Nat} (hi : i < k) (hk : k ≤ f.length) : (shiftP f a k).getD i 0 = (shiftL f a).getD i 0 := by
  have h := shiftP_stay f a hi (by omega) (f.length - k)
  rw [show k + (f.length - k) = f.length by omega] at h
  exact h.symm
theorem back_bd {l : List Int} {a B : Int} {m : Nat} (hB : 1000000 ≤ B) (hl : ∀ i, -B ≤ l.getD i 0 ∧ l.getD i 0 ≤ B) (hm : -1000000 ≤ evalD l a m ∧ evalD l a m ≤ 1000000) :
    ∀ j : Nat, j ≤ m → -(1000000 + (j : Int) * B) ≤ evalD l a (m - j) ∧ evalD l a (m - j) ≤ 1000000 + (j : Int) * B
  | 0, _ => by simpa using hm
  | j + 1, h => by
    obtain ⟨x, y⟩ := back_bd hB hl hm j (by omega)
    have hjB : 0 ≤ (j : Int) * B := Int.mul_nonneg (by omega) (by omega)
    have e : ((j + 1 : Nat) : Int) * B = (j : Int) * B + B := by push_cast; rw [Int.add_mul, Int.one_mul]
    rw [e]
    rw [show m - j = (m - (j + 1)) + 1 by omega, evalD] at x y
    obtain ⟨c, d⟩ := hl (l.length - 1 - (m - (j + 1)))
    by_cases ha : a = 0
    · cases hm2 : m - (j + 1) with
      | zero => simp only [evalD]; omega
      | succ q =>
        obtain ⟨c2, d2⟩ := hl (l.length - 1 - q)
        simp only [evalD, ha, Int.mul_zero, Int.zero_add]; omega
    · generalize evalD l a (m - (j + 1)) = e at *
      generalize l.getD (l.length - 1 - (m - (j + 1))) 0 = z at *
      have p : e.natAbs ≤ (e * a).natAbs := by
        rw [Int.natAbs_mul]
        have := Nat.mul_le_mul_left e.natAbs (show 1 ≤ a.natAbs by omega)
        omega
      generalize e * a = t at *
      generalize (j : Int) * B = s at *
      omega
theorem shiftP_bd {f : List Int} {a : Int} (hf : ∀ i, -1000000 ≤ f.getD i 0 ∧ f.getD i 0 ≤ 1000000) (h9 : f.length ≤ 9) (hs : ∀ i, -1000000 ≤ (shiftL f a).getD i 0 ∧ (shiftL f a).getD i 0 ≤ 1000000) :
    ∀ k, k ≤ f.length → (∀ i, -(1000000 * 9 ^ k) ≤ (shiftP f a k).getD i 0 ∧ (shiftP f a k).getD i 0 ≤ 1000000 * 9 ^ k) ∧
      (k < f.length → ∀ i, k ≤ i → i < f.length → -(1000000 * 9 ^ (k + 1)) ≤ evalD (shiftP f a k) a (f.length - i) ∧ evalD (shiftP f a k) a (f.length - i) ≤ 1000000 * 9 ^ (k + 1)) := by
  have step : ∀ k, k < f.length → (∀ i, -(1000000 * 9 ^ k) ≤ (shiftP f a k).getD i 0 ∧ (shiftP f a k).getD i 0 ≤ 1000000 * 9 ^ k) →
      ∀ i, k ≤ i → i < f.length → -(1000000 * 9 ^ (k + 1)) ≤ evalD (shiftP f a k) a (f.length - i) ∧ evalD (shiftP f a k) a (f.length - i) ≤ 1000000 * 9 ^ (k + 1) := by
    intro k hk hb i hi hn
    have hp : (1 : Int) ≤ 9 ^ k := by have := Int.pow_pos (n := (9 : Int)) (m := k) (by omega); omega
    have he : evalD (shiftP f a k) a (f.length - k) = (shiftL f a).getD k 0 := by
      rw [← shiftP_final f a (Nat.lt_succ_self k) hk]
      show _ = (tabL f.length fun i => if i < k then (shiftP f a k).getD i 0 else evalD (shiftP f a k) a (f.length - i)).getD k 0
      rw [tabL_getD hk, if_neg (Nat.lt_irrefl _)]
    have hm := hs k
    rw [← he] at hm
    have := back_bd (B := 1000000 * 9 ^ k) (by omega) hb hm (i - k) (by omega)
    rw [show f.length - k - (i - k) = f.length - i by omega] at this
    have hq : ((i - k : Nat) : Int) ≤ 8 := by omega
    have h8 := Int.mul_le_mul_of_nonneg_right hq (show (0 : Int) ≤ 1000000 * 9 ^ k by omega)
    rw [Int.pow_succ]
    generalize (9 : Int) ^ k = q at *
    generalize ((i - k : Nat) : Int) * (1000000 * q) = s at *
    omega
  intro k
  induction k with
  | zero => exact fun _ => ⟨fun i => by simpa [shiftP] using hf i, fun h => step 0 h (fun i => by simpa [shiftP] using hf i)⟩
  | succ k ih =>
    intro hk
    obtain ⟨h1, h2⟩ := ih (by omega)
    have key : ∀ i, -(1000000 * 9 ^ (k + 1)) ≤ (shiftP f a (k + 1)).getD i 0 ∧ (shiftP f a (k + 1)).getD i 0 ≤ 1000000 * 9 ^ (k + 1) := by
      intro i
      have hp : (1 : Int) ≤ 9 ^ (k + 1) := by have := Int.pow_pos (n := (9 : Int)) (m := k + 1) (by omega); omega
      by_cases hi : i < f.length
      · show _ ≤ (tabL f.length fun i => if i < k then (shiftP f a k).getD i 0 else evalD (shiftP f a k) a (f.length - i)).getD i 0 ∧ (tabL f.length fun i => if i < k then (shiftP f a k).getD i 0 else evalD (shiftP f a k) a (f.length - i)).getD i 0 ≤ _
        rw [tabL_getD hi]
        split
        · rename_i hik
          rw [shiftP_final f a hik (by omega)]
          have := hs i
          omega
        · exact h2 (by omega) i (by omega) hi
      · rw [getD_out (by rw [shiftP_length]; omega)]; omega
    exact ⟨key, fun h => step (k + 1) h key⟩
theorem pow9_le : ∀ {j : Nat}, j ≤ 9 → (9 : Int) ^ j ≤ 387420489 := by decide
/-- the early end of a shift -/
theorem shift_stop {f : List Int} {a : Int} {k i : Nat} (hp : polyB f = true) (hk : k ≤ i) (hi : i < f.length) (hf : inB (evalD (shiftP f a k) a (f.length - i)) (-1000000000000000) 1000000000000000 = false) :
    resC (shiftL f a) = 3 ∧ resL (shiftL f a) = [] := by
  cases hr : polyB (trimL (shiftL f a))
  · simp [resC, resL, hr]
  · obtain ⟨h9, hb, _⟩ := polyB_of hp
    have hs : ∀ i, -1000000 ≤ (shiftL f a).getD i 0 ∧ (shiftL f a).getD i 0 ≤ 1000000 := fun i => by rw [← trimL_getD]; exact (polyB_of hr).2.1 i
    have h := (shiftP_bd hb h9 hs k (by omega)).2 (by omega) i hk hi
    have h2 := pow9_le (show k + 1 ≤ 9 by omega)
    rw [inB_t (by omega) (by omega)] at hf
    cases hf
end Go.Proofs.Ytckpeoadglkbgaa
namespace Go.Proofs.Ytckpeoadglkbgaa
open Go.RowKit
set_option linter.unusedVariables false
set_option linter.unusedSimpArgs false
/-- the list within pass k, behind q steps -/
def shV (f : List Int) (a : Int) (k q : Nat) : List Int := tabL f.length fun j => if f.length - 1 - q ≤ j ∧ k ≤ j then evalD (shiftP f a k) a (f.length - j) else (shiftP f a k).getD j 0
theorem shV_length (f : List Int) (a : Int) (k q : Nat) : (shV f a k q).length = f.length := tabL_length _ _
theorem shV_zero (f : List Int) (a : Int) (k : Nat) : shV f a k 0 = shiftP f a k := by
  refine ext_getD (by rw [shV_length, shiftP_length]) fun j hj => ?_
  rw [shV_length] at hj
  rw [shV, tabL_getD hj]
  split
  · rw [show f.length - j = 0 + 1 by omega, evalD, show evalD (shiftP f a k) a 0 = 0 from rfl, Int.zero_mul, Int.zero_add, shiftP_length, show f.length - 1 - 0 = j by omega]
  · rfl
theorem shV_end {f : List Int} {a : Int} {k q : Nat} (h : f.length - 1 - k ≤ q) : shV f a k q = shiftP f a (k + 1) := by
  show tabL _ _ = tabL _ _
  refine tabL_ext fun j hj => ?_
  by_cases hk : j < k
  · rw [if_neg (by omega), if_pos hk]
  · rw [if_pos (by omega), if_neg hk]
theorem shV_at {f : List Int} {a : Int} {k q i : Nat} (hi : i + 1 < f.length) (hq : i + q + 2 = f.length) (hk : k ≤ i) :
    (shV f a k q).getD i 0 = (shiftP f a k).getD i 0 ∧ (shV f a k q).getD (i + 1) 0 = evalD (shiftP f a k) a (f.length - (i + 1)) ∧
    evalD (shiftP f a k) a (f.length - i) = (shiftP f a k).getD i 0 + a * evalD (shiftP f a k) a (f.length - (i + 1)) := by
  refine ⟨?_, ?_, ?_⟩
  · rw [shV, tabL_getD (by omega), if_neg (by omega)]
  · rw [shV, tabL_getD hi, if_pos (by omega)]
  · rw [show f.length - i = (f.length - (i + 1)) + 1 by omega, evalD, shiftP_length, show f.length - 1 - (f.length - (i + 1)) = i by omega, Int.mul_comm, Int.add_comm]
theorem shV_step {f : List Int} {a : Int} {k q i : Nat} {y : Int} (hi : i + 1 < f.length) (hq : i + q + 2 = f.length) (hk : k ≤ i) (hy : evalD (shiftP f a k) a (f.length - i) = y) :
    (shV f a k q).set i y = shV f a k (q + 1) := by
  rw [shV, tab_set y (by omega)]
  refine tabL_ext fun j hj => ?_
  by_cases e : j = i
  · rw [if_pos e, if_pos (by omega), e, hy]
  · rw [if_neg e]
    by_cases h2 : f.length - 1 - q ≤ j ∧ k ≤ j
    · rw [if_pos h2, if_pos (by omega)]
    · rw [if_neg h2, if_neg (by omega)]
def shiftC (f : List Int) (a : Int) : Int := if polyB f then (if inB a (-1000) 1000 then resC (shiftL f a) else 2) else 1
def shiftQ (f : List Int) (a : Int) : List Int := if polyB f then (if inB a (-1000) 1000 then resL (shiftL f a) else []) else []
theorem set_bd {l : List Int} {B y : Int} {i : Nat} (h : ∀ j, -B ≤ l.getD j 0 ∧ l.getD j 0 ≤ B) (hy : -B ≤ y ∧ y ≤ B) : ∀ j, -B ≤ (l.set i y).getD j 0 ∧ (l.set i y).getD j 0 ≤ B := by
  intro j
  by_cases e : j = i
  · subst e
    by_cases hj : j < l.length
    · simp [List.getD, hj]; exact hy
    · rw [getD_out (by rw [List.length_set]; omega)]
      have := h j
      rw [getD_out (by omega)] at this; exact this
  · have : (l.set i y).getD j 0 = l.getD j 0 := by simp [List.getD, List.getElem?_set_ne (Ne.symm e)]
    rw [this]; exact h j
set_option maxRecDepth 20000
end Go.Proofs.Ytckpeoadglkbgaa
namespace Go.Proofs.Ytckpeoadglkbgaa
open Go.RowKit
set_option linter.unusedVariables false
set_option maxRecDepth 20000
set_option linter.unusedSimpArgs false
/-- a list of integers that came in -/
def ArgInt (w : World) (o : Option Addr) (l : List Int) : Prop :=
  l.length = 0 ∨ ∃ b off, o = some ⟨b, off, none⟩ ∧ b < w.heap.size ∧ ∀ k, k < l.length → w.cell? ⟨b, off + k, none⟩ = some (.int .i64 (l.getD k 0))
theorem argInt_below {w w' : World} {o : Option Addr} {l : List Int} (h : ArgInt w o l) (hb : Below w.heap.size w w') : ArgInt w' o l := by
  rcases h with h | ⟨b, off, rfl, hlt, hc⟩
  · exact .inl h
  · exact .inr ⟨b, off, rfl, Nat.lt_of_lt_of_le hlt hb.size, fun k hk => by rw [hb.cell (p := ⟨b, off + k, none⟩) hlt]; exact hc k hk⟩
set_option maxRecDepth 100000 in
set_option maxHeartbeats 1600000 in
theorem toInt64S_any (o : Option Addr) (c : Nat) (l : List Int) (w : World) (hn : l.length ≤ 1048576) (ha : ArgInt w o l) :
    Calls Try.prog 41 #[.slice o l.length c] w fun e w' => ∃ v, e = .returned v ∧ IntRow w.heap.size w' v l ∧ Below w.heap.size w w' := by
  obtain ⟨i0, hi, hz0, hz1, hz2⟩ := info_parts Try.infoInt64
  have HI := Lib.hid hi
  have HZ0 := Lib.hid hz0
  have HZ1 := Lib.hid hz1
  have HZ2 := Lib.hid hz2
  have HA := Lib.hid ha
  clear hi hz0 hz1 hz2 ha
  go_enter Try.func41, Try.ntmps41
  go_wp2_with (at_make; refine wpList_make_full _ rfl (.tmp 6) (.tmp 6) 26 rfl w.heap.size 2 i0 (.int .i64 0) 1 Try.underlying26 HI.out HZ0.out HZ1.out .i64 .i64 _ _ l.length rfl rfl rfl rfl ?m1 ?m2 (Nat.le_refl _) ?_)
  case m1 => rw [HZ2.out]; omega
  case m2 => unfold maxLen; omega
  intro w2 hown hgrow
  have HO := Lib.hid hown
  have HB2 := Lib.hid ((Below.refl w.heap.size w).grown hgrow (Nat.le_refl _) (fun k h => by cases h))
  clear hown hgrow
  go_wp2
  go_loopw [4] (fun i wr => ∃ (k : Nat) (xs : List Value), k ≤ l.length ∧ i = .int .i64 k ∧ wr.ownsRow w.heap.size 2 1 (.slice (some ⟨w.heap.size, 0, none⟩) l.length l.length) l.length xs ∧ (∀ j, j < k → xs[j]? = (l.map (Value.int .i64))[j]?) ∧ Below w.heap.size w wr) (fun i _ => l.length - (intOf i).toNat)
  case atStart => exact ⟨0, _, Nat.zero_le _, rfl, HO.out, fun j h => absurd h (by omega), HB2.out⟩
  case round =>
    obtain ⟨k, xs, hk, rfl, hrow, hxs, hb⟩ := hrel
    have HW := Lib.hid hrow
    have HX := Lib.hid hxs
    have HB := Lib.hid hb
    have bs := hb.size
    have HXL := Lib.hid hrow.1
    clear hrow hxs
    by_cases hlt : k < l.length
    · rcases HA.out with hz | ⟨b, off, rfl, hbw, hcell⟩
      · omega
      · have a1 := hcell k hlt
        rw [← hb.cell (by exact hbw)] at a1
        clear hb hcell
        have HP := Lib.hid (show (l.map (Value.int .i64))[k]? = some (.int .i64 (l.getD k 0)) by simp [List.getD, hlt])
        generalize l.getD k 0 = x1 at *
        have S1 := Lib.hid (World.ownsRow.stored HW.out k (.int .i64 x1))
        have c3 := World.ownsRow.cellAt HW.out k (by omega)
        have f3 := World.ownsRow.frozenAt HW.out k
        obtain ⟨u3, hu3⟩ : ∃ u, xs[k]? = some u := ⟨_, List.getElem?_eq_getElem (by have := HXL.out; omega)⟩
        rw [hu3] at c3
        clear hu3
        have HN : Hid (∀ j, j < k + 1 → (xs.set k (.int .i64 x1))[j]? = (l.map (Value.int .i64))[j]?) := by
          intro j hj
          have hl2 := HXL.out
          by_cases e2 : j = k
          · subst e2
            rw [List.getElem?_set_self (by omega)]; exact HP.out.symm
          · rw [List.getElem?_set_ne (by omega)]; exact HX.out j (by omega)
        go_wp2
        exact ⟨⟨k + 1, _, by omega, by go_num, S1.out.1, HN.out, HB.out.setCell (Nat.le_refl _) _⟩, by simp only [intOf]; omega⟩
    · have hkl : k = l.length := by omega
      have HE : Hid (xs = l.map (Value.int .i64)) := by
        show xs = l.map (Value.int .i64)
        apply List.ext_getElem?
        intro j
        by_cases hj : j < k
        · exact HX.out j hj
        · rw [List.getElem?_eq_none (by have := HXL.out; omega), List.getElem?_eq_none (by rw [List.length_map]; omega)]
      clear hkl
      go_wp2
      go_ret
      exact ⟨_, rfl, by have h := HW.out; rw [HE.out] at h; exact h, hb⟩

theorem arg_of_row {a : Option Addr} {len cap : Nat} {z : List Int} {w : World}
    (h : (a = none ∧ len = 0 ∧ cap = 0 ∧ z = []) ∨ ∃ x, a = some x ∧ len ≤ cap ∧ cap ≤ maxLen ∧ z.length = cap ∧ (∀ i, i < z.length → w.cell? (x.add i) = some (.int .i64 (z.getD i 0))) ∧ ∀ n ∈ z, (Lit.int .i64 n).wf = true) :
    ∃ l : List Int, l.length = len ∧ ArgInt w a l := by
  rcases h with ⟨rfl, rfl, rfl, rfl⟩ | ⟨x, rfl, h1, h2, h3, h4, _⟩
  · exact ⟨[], rfl, .inl rfl⟩
  · refine ⟨z.take len, by rw [List.length_take]; omega, ?_⟩
    by_cases h0 : len = 0
    · exact .inl (by rw [List.length_take]; omega)
    · obtain ⟨b, off, spot⟩ := x
      have c0 := h4 0 (by omega)
      have hs : spot = none := by
        cases spot with
        | none => rfl
        | some s =>
          simp only [World.cell?, Addr.add] at c0
          cases hh : w.heap[b]? with
          | none => simp [hh] at c0
          | some o => cases o <;> simp [hh] at c0
      subst hs
      have hlt := World.block_lt_of_cell? _ _ c0
      refine .inr ⟨b, off, rfl, hlt, fun k hk => ?_⟩
      rw [List.length_take] at hk
      have c := h4 k (by omega)
      have e : (⟨b, off, none⟩ : Addr).add k = ⟨b, off + k, none⟩ := by
        by_cases hk0 : k = 0
        · subst hk0; simp [Addr.add]
        · simp [Addr.add, hk0]
      rw [e] at c
      rw [c]
      congr 2
      simp [List.getD, List.getElem?_take, show k < len by omega]
theorem len_of_row {a : Option Addr} {len cap : Nat} {z : List Int} {w : World}
    (h : (a = none ∧ len = 0 ∧ cap = 0 ∧ z = []) ∨ ∃ x, a = some x ∧ len ≤ cap ∧ cap ≤ maxLen ∧ z.length = cap ∧ (∀ i, i < z.length → w.cell? (x.add i) = some (.int .i64 (z.getD i 0))) ∧ ∀ n ∈ z, (Lit.int .i64 n).wf = true) : (len : Int) ≤ 9223372036854775807 := by
  rcases h with ⟨_, rfl, _⟩ | ⟨x, _, h1, h2, _⟩
  · omega
  · unfold maxLen at h2; omega
theorem row_seen {b n c : Nat} {o : Option Addr} {w : World} {l : List Int} (h : IntRow b w (.slice o n c) l) (hl : l.length ≤ 1100000) : Seen w o n c l := by
  obtain ⟨o', c', e, hs⟩ := seen_row h hl
  injection e with e1 e2 e3
  subst e1 e2 e3
  exact hs
/-- two rows: the younger one stays where the elder one is marked -/
theorem row_apart2 {w w' : World} {b1 b2 : Nat} {T : TypeId} {sz : Nat} {v v' : Value} {n n' : Nat} {xs xs' : List Value} {T' : TypeId} {sz' : Nat} {w0 : World}
    (h : w.ownsRow b2 T sz v n xs) (h' : w0.ownsRow b1 T' sz' v' n' xs') (hs : w0.heap.size ≤ b2) (hg : w.grownBy w' v'.ownBlock) : w'.ownsRow b2 T sz v n xs := by
  refine h.kept hg ?_
  cases hv : v.ownBlock with
  | none => exact .inl rfl
  | some k =>
    right
    intro he
    have h1 := h.lt k hv
    have h2 := h'.lt k he.symm
    omega
theorem resL_len (l : List Int) : (resL l).length ≤ 9 := by
  unfold resL
  split
  · rename_i h; exact (polyB_of h).1
  · simp
theorem if_len {b : Bool} {l : List Int} : (if b = true then resL l else []).length ≤ 9 := by
  split
  · exact resL_len l
  · simp
theorem shiftQ_len (l : List Int) (a : Int) : (shiftQ l a).length ≤ 9 := by
  unfold shiftQ
  split
  · split
    · exact resL_len _
    · simp
  · simp
end Go.Proofs.Ytckpeoadglkbgaa
namespace Go.Proofs.Ytckpeoadglkbgaa
open Go.RowKit
set_option linter.unusedVariables false
set_option maxRecDepth 20000
set_option linter.unusedSimpArgs false
theorem ringM_8 {p : Int} (hs : smallB p = true) : ringM p 1 = p := by
  obtain ⟨_, hp⟩ := smallB_bd hs
  have : p ^ (1 : Int).toNat = p := by simp [Int.pow_succ]
  unfold ringM
  rw [this, hs]
  simp [show p ≤ 1000000000 by omega]
theorem remainder8_any (x m : Int) (w : World) (h1 : 2 ≤ m) (h2 : m ≤ 1000000000) :
    Calls Try.prog 88 #[.int .i64 x, .int .i64 m] w fun e w' => e = .returned (.int .i64 (x % m)) ∧ w = w' := by
  have hm : (m == 0) = false := by simp; omega
  have hb := tmod_bd (x := x) (show 0 < m by omega)
  by_cases h : x.tmod m < 0
  · have HE := Lib.hid (rem_neg (by omega) h)
    go_enter Try.func88, Try.ntmps88
    go_wp2
    go_ret
    exact ⟨ret_int HE.out, rfl⟩
  · have HE := Lib.hid (rem_pos (by omega) h)
    go_enter Try.func88, Try.ntmps88
    go_wp2
    go_ret
    exact ⟨ret_int HE.out, rfl⟩
theorem mod8_any (x m : Int) (w : World) (h1 : 2 ≤ m) (h2 : m ≤ 1000000000) :
    Calls Try.prog 84 #[.int .i64 x, .int .i64 m] w fun e w' => e = .returned (.int .i64 (x % m)) ∧ w = w' := by
  have hm : (m == 0) = false := by simp; omega
  have hb := tmod_bd (x := x) (show 0 < m by omega)
  have HE := Lib.hid (mod_twice2 (x := x) (show 0 < m by omega))
  go_enter Try.func84, Try.ntmps84
  go_wp2
  go_ret
  exact ⟨ret_int HE.out, rfl⟩
theorem inverse8_any (a m : Int) (w : World) (h1 : 0 ≤ a) (h2 : a < m) (hm1 : 2 ≤ m) (hm2 : m ≤ 1000000000) :
    Calls Try.prog 89 #[.int .i64 a, .int .i64 m] w fun e w' => e = .returned (.int .i64 (bezX a m % m)) ∧ w = w' := by
  have hva : valueB a = true := valueB_t (by omega) (by omega)
  have hvm : valueB m = true := valueB_t (by omega) (by omega)
  go_enter Try.func89, Try.ntmps89
  go_wp2_with (first | (go_at_call 107; refine (implBez_val _ _ _ hva hvm).mono ?_; rintro e wn ⟨rfl, rfl⟩) | (go_at_call 88; refine (remainder8_any _ _ _ hm1 hm2).mono ?_; rintro e wn ⟨rfl, rfl⟩))
  go_ret
  exact ⟨rfl, rfl⟩
theorem l02Inv8_any (a m : Int) (w : World) (h1 : 0 ≤ a) (h2 : a < m) (hm1 : 2 ≤ m) (hm2 : m ≤ 1000000000) :
    Calls Try.prog 90 #[.int .i64 a, .int .i64 m] w fun e w' => e = .returned (.int .i64 (bezX a m % m)) ∧ w = w' := by
  have hv1 : -1000000000000 ≤ a := by omega
  have hv2 : a ≤ 1000000000000 := by omega
  have hv3 : -1000000000000 ≤ m := by omega
  have hv4 : m ≤ 1000000000000 := by omega
  go_enter Try.func90, Try.ntmps90
  go_wp2_with (first | (go_at_call 108; refine (l01Bez_any _ _ _ hv1 hv2 hv3 hv4).mono ?_; rintro e wn ⟨rfl, rfl⟩) | (go_at_call 84; refine (mod8_any _ _ _ hm1 hm2).mono ?_; rintro e wn ⟨rfl, rfl⟩))
  go_ret
  exact ⟨rfl, rfl⟩
/-- the ring by p: its two numbers -/
abbrev R1 (p : Int) : Value := .agg #[.int .i64 p, .int .i64 1]
theorem modulus8_any (p : Int) (hs : smallB p = true) (w : World) :
    Calls Try.prog 71 #[R1 p] w fun e w' => e = .returned (.int .i64 p) ∧ Below w.heap.size w w' := by
  have h := implModulus_any p 1 w
  rw [ringM_8 hs] at h
  exact h
/-- a list that lies in a row from some place on -/
def SeenD (w : World) (o : Option Addr) (n c : Nat) (l : List Int) : Prop :=
  n = l.length ∧ n ≤ 1100000 ∧ (o = none → c = 0) ∧ n ≤ c ∧ ∃ g d, (0 < n → o = some ⟨g, d, none⟩ ∧ g < w.heap.size) ∧ ∀ k, k < n → w.cell? ⟨g, d + k, none⟩ = some (.int .i64 (l.getD k 0))
theorem seen_d {w : World} {o : Option Addr} {n c : Nat} {l : List Int} (h : Seen w o n c l) : SeenD w o n c l := by
  obtain ⟨hl, hn, ho, hnc, g, h1, h2⟩ := h
  exact ⟨hl, hn, ho, hnc, g, 0, h1, fun k hk => by rw [Nat.zero_add]; exact h2 k hk⟩
theorem seenD_below {w w' : World} {o : Option Addr} {n c : Nat} {l : List Int} (h : SeenD w o n c l) (hb : Below w.heap.size w w') : SeenD w' o n c l := by
  obtain ⟨hl, hn, ho, hnc, g, d, h1, h2⟩ := h
  refine ⟨hl, hn, ho, hnc, g, d, fun h0 => ⟨(h1 h0).1, by have := (h1 h0).2; have := hb.size; omega⟩, fun i hi => ?_⟩
  rw [hb.cell (p := ⟨g, d + i, none⟩) (h1 (by omega)).2]; exact h2 i hi
end Go.Proofs.Ytckpeoadglkbgaa
namespace Go.Proofs.Ytckpeoadglkbgaa
open Go.RowKit
set_option linter.unusedVariables false
set_option linter.unusedSimpArgs false
set_option maxRecDepth 20000
def resB (p : Int) (f : List Int) : Bool := f.all fun x => inB x 0 (p - 1)
theorem modB_eq (p : Int) (f : List Int) : modB p f = (smallB p && (decide (f.length ≤ 9) && (resB p f && lastB f))) := rfl
set_option maxHeartbeats 1000000 in
theorem l08Reduce_any (p : Int) (p2 : 2 ≤ p) (p97 : p ≤ 97) {o : Option Addr} {n c : Nat} {l : List Int} {w : World} (h : Seen w o n c l) (hn9 : n ≤ 1000) :
    Calls Try.prog 51 #[.int .i64 p, .slice o n c] w (OwnPost (redL p l) w) := by
  obtain ⟨hl, hn, hno, hnc, g, h1, h2⟩ := h
  obtain ⟨i0, hi, hz0, hz1, hz2⟩ := info_parts Try.infoInt64
  have HI := Lib.hid hi
  have HZ0 := Lib.hid hz0
  have HZ1 := Lib.hid hz1
  have HZ2 := Lib.hid hz2
  have HO := Lib.hid fun h => (h1 h).1
  have HG := Lib.hid fun h => (h1 h).2
  have HL := Lib.hid hl
  have HC := Lib.hid h2
  clear hi hz0 hz1 hz2 h1 h2 hl hno hnc
  go_enter Try.func51, Try.ntmps51
  go_wp2_with fail
  go_loopw [5, 6] (fun v d wr => ∃ k : Nat, d = .int .i64 k ∧ k ≤ n ∧ IntRow w.heap.size wr v (tabL k fun i => l.getD i 0 % p) ∧ Below w.heap.size w wr) (fun _ d _ => n - (intOf d).toNat)
  case atStart => exact ⟨0, rfl, Nat.zero_le _, intRow_made _, (Below.refl _ _).alloc (Nat.le_refl _) _⟩
  case round =>
    obtain ⟨k, rfl, hk, hrow, hb⟩ := hrel
    have bl : (tabL k fun i => l.getD i 0 % p).length ≤ 1000000 := by rw [tabL_length]; omega
    have bs := hb.size
    have HW := Lib.hid hrow
    have HB := Lib.hid hb
    clear hrow hb
    by_cases hlt : k < n
    · have hog := HO.out (by omega)
      subst hog
      have a2 := HC.out k hlt
      rw [← HB.out.cell (p := ⟨g, k, none⟩) (HG.out (by omega))] at a2
      have HS := Lib.hid (show (tabL (k + 1) fun i => l.getD i 0 % p) = (tabL k fun i => l.getD i 0 % p) ++ [l.getD k 0 % p] from tabL_succ _ _)
      generalize l.getD k 0 = z at *
      generalize (tabL k fun i => l.getD i 0 % p) = acc at *
      go_wp2_with fail
      refine (mod8_any z p wr p2 (by omega)).mono ?_
      rintro e w2 ⟨rfl, rfl⟩
      go_wp2_with (at_builtin; refine wpList_append_own _ rfl (.tmp 14) (.tmp 21) 26 rfl w.heap.size 2 i0 (.int .i64 0) 1 8 Try.underlying26 HI.out HZ0.out HZ1.out HZ2.out rfl (by decide) _ _ _ rfl (HW.out.alloc _) ⟨wr.heap.size, 0, none⟩ 1 1 [.int .i64 (z % p)] rfl rfl ?c1 ?c2 ?c3 ?c4 ?c5 ?_)
      try (case c1 => first | exact news_one _ _ _ | simp [Addr.add])
      try (case c2 => first | exact one_one _ | rfl)
      case c3 => unfold maxLen; omega
      case c4 => omega
      case c5 => first | omega | (simp; omega)
      intro v' w1 hown hgrow _
      have HO2 := Lib.hid (intRow_snoc hown)
      have HG2 := Lib.hid (below_appendI HB.out HW.out hgrow)
      clear hown hgrow
      go_wp2_with fail
      go_roundw
      case rel => exact ⟨k + 1, by first | rfl | go_num, by omega, by rw [HS.out]; exact HO2.out, HG2.out⟩
      case measure => simp [intOf]; omega
    · have hkn : k = l.length := by have := HL.out; omega
      have HT := Lib.hid (show trimL (tabL k fun i => l.getD i 0 % p) = redL p l by rw [hkn]; rfl)
      obtain ⟨o2, c2, rfl, HS2⟩ := seen_row HW.out (by omega)
      have hsz : HS2 = HS2 := rfl
      generalize (tabL k fun i => l.getD i 0 % p) = acc at *
      clear hkn hsz
      go_wp2_with fail
      refine (specTrim_any HS2).mono ?_
      rintro e w2 ⟨v, rfl, hr, hb⟩
      have HR := Lib.hid (intRow_lower hr HB.out.size)
      have HB2 := Lib.hid (HB.out.trans (hb.mono HB.out.size))
      clear hr hb
      go_wp2_with fail
      go_ret
      rw [← HT.out]
      exact ⟨_, rfl, HR.out, HB2.out⟩
def rdC (p : Int) (f : List Int) : Int := if smallB p && polyB f then 0 else 1
def rdQ (p : Int) (f : List Int) : List Int := if smallB p && polyB f then redL p f else []
theorem prodL_le (p : Int) (f g : List Int) : (prodL p f g).length ≤ f.length + g.length := by have := prodL_len p f g; omega
def twoM (p : Int) (f g : List Int) : Bool := modB p f && modB p g
def mmC (p : Int) (f g : List Int) : Int := if twoM p f g then (if (prodL p f g).length ≤ 9 then 0 else 3) else 1
def mmQ (p : Int) (f g : List Int) : List Int := if mmC p f g = 0 then prodL p f g else []
theorem twoM_of {p : Int} {f g : List Int} (h : twoM p f g = true) : modB p f = true ∧ modB p g = true := by
  simpa [twoM] using h
theorem modB_poly {p : Int} {f : List Int} (h : modB p f = true) : polyB f = true := mod_poly (modB_of h).top (modB_of h).len (modB_of h).mod
theorem modB_small {p : Int} {f : List Int} (h : modB p f = true) : smallB p = true := by simp only [modB, Bool.and_eq_true] at h; exact h.1
theorem mmC_none {p : Int} {f g : List Int} (h : twoM p f g = false) : mmC p f g = 1 ∧ mmQ p f g = [] := by
  have e : mmC p f g = 1 := by simp [mmC, h]
  exact ⟨e, by simp [mmQ, e]⟩
theorem mmC_long {p : Int} {f g : List Int} (h : twoM p f g = true) (hl : ¬ (prodL p f g).length ≤ 9) : mmC p f g = 3 ∧ mmQ p f g = [] := by
  have e : mmC p f g = 3 := by simp [mmC, h, hl]
  exact ⟨e, by simp [mmQ, e]⟩
theorem mmC_fit {p : Int} {f g : List Int} (h : twoM p f g = true) (hl : (prodL p f g).length ≤ 9) : mmC p f g = 0 ∧ mmQ p f g = prodL p f g := by
  have e : mmC p f g = 0 := by simp [mmC, h, hl]
  exact ⟨e, by simp [mmQ, e]⟩
end Go.Proofs.Ytckpeoadglkbgaa
namespace Go.Proofs.Ytckpeoadglkbgaa
open Go.RowKit
set_option linter.unusedVariables false
set_option linter.unusedSimpArgs false
set_option maxRecDepth 20000
theorem row_other8 {b : Nat} {w : World} {v : Value} {l : List Int} (h : IntRow b w v l) {a : Addr} (ha : v.ownBlock ≠ some a.block) (u : Value) : IntRow b (w.setCell a u) v l := ownsRow_setCell_other h ha u
theorem own_ne8 {G Q n c : Nat} (h : G ≠ Q) : (Value.slice (some ⟨G, 0, none⟩) n c).ownBlock ≠ some Q := by
  show some G ≠ some Q
  exact fun e => h (by injection e)
theorem apart8 {w1 w2 : World} {b : Nat} {v u : Value} {l m : List Int} (h : IntRow b w1 v l) (h2 : IntRow w1.heap.size w2 u m) : v.ownBlock = none ∨ v.ownBlock ≠ u.ownBlock := by
  cases hv : v.ownBlock with
  | none => exact .inl rfl
  | some k =>
    right
    intro e
    have a1 := World.ownsRow.lt h k hv
    have a2 := World.ownsRow.lt h2 k e.symm
    omega
/-- two lists as results -/
def Own2Post (l m : List Int) (w : World) (e : Ending) (w' : World) : Prop :=
  ∃ v u, e = .returned (.tuple #[v, u]) ∧ IntRow w.heap.size w' v l ∧ IntRow w.heap.size w' u m ∧ Below w.heap.size w w' ∧ (v.ownBlock = none ∨ v.ownBlock ≠ u.ownBlock)
/-- what the division's numbers are like -/
theorem mdS_lt {p inv : Int} {f g : List Int} {N : Nat} (hf : ModP p f) (k j : Nat) : 0 ≤ mdS p inv g (fun j => f.getD j 0) N k j ∧ mdS p inv g (fun j => f.getD j 0) N k j < p :=
  mdS_rng (by have := hf.rng 0; omega) hf.rng k j
theorem invP_lt {p : Int} {g : List Int} (p2 : 2 ≤ p) : 0 ≤ invP p g ∧ invP p g < p := ⟨Int.emod_nonneg _ (by omega), Int.emod_lt_of_pos _ (by omega)⟩
theorem prod_small {p x y : Int} (p97 : p ≤ 97) (hx : 0 ≤ x ∧ x < p) (hy : 0 ≤ y ∧ y < p) : 0 ≤ x * y ∧ x * y ≤ 9409 := by
  have h1 := Int.mul_nonneg hx.1 hy.1
  have h2 := Int.mul_le_mul (show x ≤ 97 by omega) (show y ≤ 97 by omega) hy.1 (by omega)
  omega
end Go.Proofs.Ytckpeoadglkbgaa
namespace Go.Proofs.Ytckpeoadglkbgaa
open Go.RowKit
set_option linter.unusedVariables false
set_option linter.unusedSimpArgs false
set_option maxRecDepth 20000
def twC (p : Int) (f g : List Int) : Int := if twoM p f g then (if g.length = 0 then 5 else 0) else 1
def dvQ (p : Int) (f g : List Int) : List Int := if twC p f g = 0 then quoP p f g else []
def dvR (p : Int) (f g : List Int) : List Int := if twC p f g = 0 then remP p f g else []
theorem twC_zero {p : Int} {f g : List Int} (h : twC p f g = 0) : modB p f = true ∧ modB p g = true ∧ g.length ≠ 0 := by
  unfold twC at h
  split at h
  · rename_i ht
    split at h
    · omega
    · rename_i h0; exact ⟨(twoM_of ht).1, (twoM_of ht).2, h0⟩
  · omega
/-- two lists and a code -/
def Int2P (l m : List Int) (c : Int) (w : World) (e : Ending) (w' : World) : Prop :=
  ∃ v u, e = .returned (.tuple #[v, u, .int .i64 c]) ∧ IntRow w.heap.size w' v l ∧ IntRow w.heap.size w' u m ∧ Below w.heap.size w w' ∧ (v.ownBlock = none ∨ v.ownBlock ≠ u.ownBlock)
theorem seen_one (w : World) (x : Int) (T : TypeId) : Seen (w.alloc (.cells #[.int .i64 x] T)) (some ⟨w.heap.size, 0, none⟩) 1 1 [x] := by
  refine ⟨rfl, by omega, fun h => (by cases h), Nat.le_refl _, w.heap.size, fun _ => ⟨rfl, by simp⟩, fun k hk => ?_⟩
  have e : k = 0 := by omega
  subst e
  rw [World.cell?_alloc_new]; rfl
theorem seen_two (w : World) (x y : Int) (T : TypeId) : Seen (w.alloc (.cells #[.int .i64 x, .int .i64 y] T)) (some ⟨w.heap.size, 0, none⟩) 2 2 [x, y] := by
  refine ⟨rfl, by omega, fun h => (by cases h), Nat.le_refl _, w.heap.size, fun _ => ⟨rfl, by simp⟩, fun k hk => ?_⟩
  have e : k = 0 ∨ k = 1 := by omega
  rcases e with e | e
  · subst e; rw [World.cell?_alloc_new]; rfl
  · subst e; rw [World.cell?_alloc_new]; rfl
theorem inv_poly {p : Int} {f : List Int} (p2 : 2 ≤ p) (p97 : p ≤ 97) (pp : PrimeP p) (hf : ModP p f) (h0 : f.length ≠ 0) : polyB [invP p f] = true := by
  have hi := invP_dvd p2 p97 pp hf (fun e => h0 (by rw [e]; rfl))
  have hn := prime_inv pp hi
  have hb := invP_lt (p := p) (g := f) p2
  generalize invP p f = x at *
  refine polyB_mk (by simp) (fun i hi => ?_) ?_
  · cases i with
    | zero => simp; omega
    | succ i => simp
  · have : ¬ x = 0 := fun e => hn (by rw [e]; exact Int.dvd_zero _)
    simpa [lastB] using this
def lenV : Value → Nat
  | .slice _ n _ => n
  | _ => 0
def cmC (p : Int) (f g : List Int) : Int := if twoM p f g then 0 else 1
def cmQ (p : Int) (f g : List Int) : List Int := if twoM p f g then gcdL p f g else []
end Go.Proofs.Ytckpeoadglkbgaa
namespace Go.Proofs.Ytckpeoadglkbgaa
open Go.RowKit
set_option linter.unusedVariables false
set_option linter.unusedSimpArgs false
set_option maxRecDepth 20000
theorem pow_len {p : Int} {f r : List Int} {e : Nat} (h : IsPow p f e r) (hf : f.length ≤ 9) : r.length ≤ 8 := by have := h.deg; omega
theorem pow_poly {p : Int} {f r : List Int} {e : Nat} (p97 : p ≤ 97) (h : IsPow p f e r) (hf : f.length ≤ 9) : polyB r = true := mod_poly p97 (by have := h.deg; omega) h.mod
def pxC (p e : Int) (f : List Int) : Int := if modB p f then (if inB e 0 1000000000000 then (if f.length = 0 then 5 else 0) else 2) else 1
def pxQ (p e : Int) (f : List Int) : List Int := if pxC p e f = 0 then powL p f e.toNat else []
theorem pxC_zero {p e : Int} {f : List Int} (h : pxC p e f = 0) : modB p f = true ∧ 0 ≤ e ∧ e ≤ 1000000000000 ∧ f.length ≠ 0 := by
  unfold pxC at h
  split at h
  · rename_i hm
    rcases inB_cases e 0 1000000000000 with ⟨h1, h2, h3⟩ | ⟨h1, _⟩
    · rw [h1] at h
      by_cases h0 : f.length = 0
      · simp [h0] at h
      · exact ⟨hm, h2, h3, h0⟩
    · rw [h1] at h; simp at h
  · omega
theorem evM_rng {p : Int} (hp : 0 < p) (f : List Int) (x : Int) : ∀ j, 0 ≤ evM p f x j ∧ evM p f x j < p
  | 0 => ⟨Int.le_refl _, hp⟩
  | j + 1 => ⟨Int.emod_nonneg _ (by omega), Int.emod_lt_of_pos _ hp⟩
set_option maxHeartbeats 1000000 in
theorem l08Value_any (p x : Int) (p2 : 2 ≤ p) (p97 : p ≤ 97) (x0 : 0 ≤ x) (x1 : x < p) {o : Option Addr} {n c : Nat} {f : List Int} {w : World} (h : Seen w o n c f) (hf : ModP p f) :
    Calls Try.prog 83 #[.int .i64 p, .slice o n c, .int .i64 x] w fun e w' => e = .returned (.int .i64 (evM p f x f.length)) ∧ w = w' := by
  obtain ⟨hl, hn, hno, hnc, g, h1, h2⟩ := h
  have HO := Lib.hid fun h => (h1 h).1
  have HL := Lib.hid hl
  have HC := Lib.hid h2
  have HF := Lib.hid hf
  have hpz : (p == 0) = false := by simp; omega
  clear h1 h2 hl hno hnc hf
  go_enter Try.func83, Try.ntmps83
  go_wp2_with fail
  go_loop [7, 8] (fun a i => ∃ (j : Nat) (y : Int), j ≤ n ∧ i = .int .i64 y ∧ y = (n : Int) - 1 - j ∧ a = .int .i64 (evM p f x j)) (fun _ i => (intOf i + 1).toNat)
  case atStart => exact ⟨0, (n : Int) - 1, Nat.zero_le _, rfl, by omega, rfl⟩
  case round =>
    obtain ⟨j, y, hj, rfl, hy, rfl⟩ := hrel
    by_cases hjn : j < n
    · obtain ⟨m, hm⟩ : ∃ m : Nat, y = m := ⟨y.toNat, by omega⟩
      subst hm
      have hmn : m < n := by omega
      have hme : f.length - 1 - j = m := by have := HL.out; omega
      have hog := HO.out (by omega)
      subst hog
      have a2 := HC.out m hmn
      have hh : evM p f x (j + 1) = (evM p f x j * x + f.getD m 0) % p := by rw [evM, hme]
      obtain ⟨y0, y1⟩ := HF.out.rng m
      obtain ⟨b0, b1⟩ := evM_rng (p := p) (by omega) f x j
      obtain ⟨e0, e1⟩ := evM_rng (p := p) (by omega) f x (j + 1)
      have hpb := prod_small p97 ⟨b0, b1⟩ ⟨x0, x1⟩
      obtain ⟨E, hEE⟩ : ∃ E, evM p f x (j + 1) = E := ⟨_, rfl⟩
      rw [hEE] at hh e0 e1
      have HEE := Lib.hid hEE
      clear hEE
      generalize evM p f x j = a at *
      generalize f.getD m 0 = z at *
      have w1 : IntKind.i64.wrap (a * x) = a * x := IntWalk.i64_in _ (by omega)
      have w2 : IntKind.i64.wrap (a * x + z) = a * x + z := IntWalk.i64_in _ (by omega)
      have hs0 : 0 ≤ a * x + z := by omega
      have ht : (a * x + z).tmod p = E := by rw [tmod_nonneg hs0, hh]
      have w3 : IntKind.i64.wrap E = E := IntWalk.i64_in _ (by omega)
      have HY := Lib.hid hy
      have HE := Lib.hid hh
      have hmn' : (m : Int) < (n : Int) := by omega
      replace hh := hh.symm
      clear hme hy hpb
      go_wp2_with fail
      exact ⟨⟨j + 1, (m : Int) - 1, by omega, by first | rfl | (go_num), by have := HY.out; omega, by rw [HEE.out]⟩, by first | (simp [intOf]; done) | (simp [intOf]; omega)⟩
    · have hjl : j = f.length := by have := HL.out; omega
      have hneg : y = -1 := by omega
      subst hneg hjl
      obtain ⟨E, hEE⟩ : ∃ E, evM p f x f.length = E := ⟨_, rfl⟩
      have HEE := Lib.hid hEE
      rw [hEE]
      clear hy hEE
      go_wp2_with fail
      go_ret
      exact ⟨ret_int HEE.out.symm, rfl⟩
set_option maxHeartbeats 1000000 in
theorem l08Roots_any (p : Int) (p2 : 2 ≤ p) (p97 : p ≤ 97) {o : Option Addr} {n c : Nat} {f : List Int} {w : World} (h : Seen w o n c f) (hf : ModP p f) :
    Calls Try.prog 50 #[.int .i64 p, .slice o n c] w (OwnPost (rootsN p f p.toNat) w) := by
  obtain ⟨i0, hi, hz0, hz1, hz2⟩ := info_parts Try.infoInt64
  have HI := Lib.hid hi
  have HZ0 := Lib.hid hz0
  have HZ1 := Lib.hid hz1
  have HZ2 := Lib.hid hz2
  have HS := Lib.hid h
  have HF := Lib.hid hf
  clear hi hz0 hz1 hz2 h hf
  obtain ⟨P, hP⟩ : ∃ P : Nat, p = P := ⟨p.toNat, by omega⟩
  have HPN := Lib.hid (And.intro (show p.toNat = P by omega) hP)
  clear hP
  go_enter Try.func50, Try.ntmps50
  go_wp2_with fail
  go_loopw [5, 6] (fun v d wr => ∃ k : Nat, d = .int .i64 k ∧ (k : Int) ≤ p ∧ IntRow w.heap.size wr v (rootsN p f k) ∧ Below w.heap.size w wr) (fun _ d _ => P - (intOf d).toNat)
  case atStart => exact ⟨0, rfl, by omega, intRow_made _, (Below.refl _ _).alloc (Nat.le_refl _) _⟩
  case round =>
    obtain ⟨k, rfl, hk, hrow, hb⟩ := hrel
    have bl := rootsN_len (p := p) (f := f) k
    have bs := hb.size
    have HW := Lib.hid hrow
    have HB := Lib.hid hb
    clear hrow hb
    by_cases hlt : (k : Int) < p
    · have HV := Lib.hid (l08Value_any p k p2 p97 (by omega) hlt (seen_below HS.out HB.out) HF.out)
      have HS2 := Lib.hid (show rootsN p f (k + 1) = rootsN p f k ++ (if evM p f k f.length = 0 then [(k : Int)] else []) from rfl)
      generalize rootsN p f k = acc at *
      generalize evM p f k f.length = y at *
      by_cases hy : y = 0
      · have hy' : (y == 0) = true := by simp [hy]
        rw [if_pos hy] at HS2
        clear hy
        go_wp2_with fail
        refine HV.out.mono ?_
        rintro e w2 ⟨rfl, rfl⟩
        clear HV
        go_wp2_with (at_builtin; refine wpList_append_own _ rfl (.tmp 18) (.tmp 20) 26 rfl w.heap.size 2 i0 (.int .i64 0) 1 8 Try.underlying26 HI.out HZ0.out HZ1.out HZ2.out rfl (by decide) _ _ _ rfl (HW.out.alloc _) ⟨wr.heap.size, 0, none⟩ 1 1 [.int .i64 (k : Int)] rfl rfl ?c1 ?c2 ?c3 ?c4 ?c5 ?_)
        try (case c1 => first | exact news_one _ _ _ | simp [Addr.add])
        try (case c2 => first | exact one_one _ | rfl)
        case c3 => unfold maxLen; omega
        case c4 => omega
        case c5 => first | omega | (simp; omega)
        intro v' w1 hown hgrow _
        have HO2 := Lib.hid (intRow_snoc hown)
        have HG2 := Lib.hid (below_appendI HB.out HW.out hgrow)
        clear hown hgrow
        go_wp2_with fail
        go_roundw
        case rel => exact ⟨k + 1, by first | rfl | go_num, by omega, by rw [HS2.out]; exact HO2.out, HG2.out⟩
        case measure => have := HPN.out.2; simp [intOf]; omega
      · have hy' : (y == 0) = false := by simpa using hy
        rw [if_neg hy, List.append_nil] at HS2
        clear hy
        go_wp2_with fail
        refine HV.out.mono ?_
        rintro e w2 ⟨rfl, rfl⟩
        clear HV
        go_wp2_with fail
        go_roundw
        case rel => exact ⟨k + 1, by first | rfl | go_num, by omega, by rw [HS2.out]; exact HW.out, HB.out⟩
        case measure => have := HPN.out.2; simp [intOf]; omega
    · have HK := Lib.hid (show rootsN p f k = rootsN p f p.toNat by rw [HPN.out.1, show k = P by have := HPN.out.2; omega])
      generalize rootsN p f k = acc at *
      go_wp2_with fail
      go_ret
      rw [← HK.out]
      exact ⟨_, rfl, HW.out, HB.out⟩
def rtC (p : Int) (f : List Int) : Int := if modB p f then (if f.length = 0 then 4 else 0) else 1
def rtQ (p : Int) (f : List Int) : List Int := if rtC p f = 0 then rootsN p f p.toNat else []
def drC (p : Int) (f : List Int) : Int := if modB p f then 0 else 1
def drQ (p : Int) (f : List Int) : List Int := if modB p f then redL p (derL f) else []
def frC (p : Int) (f : List Int) : Int := if modB p f then 0 else 1
def frQ (p : Int) (f : List Int) : Bool := modB p f && freeB p f
end Go.Proofs.Ytckpeoadglkbgaa
namespace Go.Proofs.Ytckpeoadglkbgaa
open Go.RowKit
set_option linter.unusedVariables false
def ringB (p n : Int) : Bool := decide (ringM p n ≠ 0)
theorem ringB_t {p n : Int} (h : ringM p n ≠ 0) : ringB p n = true := by simp [ringB, h]
theorem ringB_f {p n : Int} (h : ringM p n = 0) : ringB p n = false := by simp [ringB, h]
def ringC (p n : Int) : Int := if ringM p n = 0 then 1 else 0
def rgC (p n a : Int) : Int := if ringM p n = 0 then 1 else if 0 ≤ a ∧ a < ringM p n then 0 else 2
theorem below_one {w w1 : World} {o : Obj} (hb : Below (w.alloc o).heap.size (w.alloc o) w1) : Below w.heap.size w w1 :=
  ((Below.refl _ _).alloc (Nat.le_refl _) _).trans (hb.mono (by simp))
theorem cells_two {w w1 : World} {a b : Value} {T : TypeId} (hb : Below (w.alloc (.cells #[a, b] T)).heap.size (w.alloc (.cells #[a, b] T)) w1) :
    w1.cell? ⟨w.heap.size, 0, none⟩ = some a ∧ w1.cell? ⟨w.heap.size, 1, none⟩ = some b := by
  constructor
  · rw [hb.cell (by simp)]; exact World.cell?_alloc_new _ _ _ _ ▸ rfl
  · rw [hb.cell (by simp)]; exact World.cell?_alloc_new _ _ _ _ ▸ rfl
theorem keep_start {w : World} {a b : Value} {T : TypeId} (n : Nat) :
    Below w.heap.size w ((w.alloc (.cells #[a, b] T)).drewN n) ∧ ((w.alloc (.cells #[a, b] T)).drewN n).cell? ⟨w.heap.size, 0, none⟩ = some a ∧ ((w.alloc (.cells #[a, b] T)).drewN n).cell? ⟨w.heap.size, 1, none⟩ = some b :=
  ⟨below_drewN ((Below.refl _ _).alloc (Nat.le_refl _) _) _, World.cell?_alloc_new _ _ _ _ ▸ rfl, World.cell?_alloc_new _ _ _ _ ▸ rfl⟩
theorem keep_next {w w1 w2 : World} {a b : Value} (h : Below w.heap.size w w1 ∧ w1.cell? ⟨w.heap.size, 0, none⟩ = some a ∧ w1.cell? ⟨w.heap.size, 1, none⟩ = some b) (hb : Below w1.heap.size w1 w2) :
    Below w.heap.size w w2 ∧ w2.cell? ⟨w.heap.size, 0, none⟩ = some a ∧ w2.cell? ⟨w.heap.size, 1, none⟩ = some b := by
  have hlt := World.block_lt_of_cell? _ _ h.2.1
  exact ⟨h.1.trans (hb.mono h.1.size), by rw [hb.cell (p := ⟨w.heap.size, 0, none⟩) hlt]; exact h.2.1, by rw [hb.cell (p := ⟨w.heap.size, 1, none⟩) hlt]; exact h.2.2⟩
theorem keep_first {w w1 : World} {a b : Value} {T : TypeId} (hb : Below (w.alloc (.cells #[a, b] T)).heap.size (w.alloc (.cells #[a, b] T)) w1) :
    Below w.heap.size w w1 ∧ w1.cell? ⟨w.heap.size, 0, none⟩ = some a ∧ w1.cell? ⟨w.heap.size, 1, none⟩ = some b := ⟨below_one hb, cells_two hb⟩
theorem ring_two {w w1 w2 : World} (h1 : Below w.heap.size w w1) (h2 : Below w1.heap.size w1 w2) : Below w.heap.size w w2 := h1.trans (h2.mono h1.size)
set_option maxHeartbeats 400000 in
theorem checkNil_any (p n : Int) (w : World) :
    Calls Try.prog 76 #[.agg #[.int .i64 p, .int .i64 n], .slice none 0 0] w fun e w' => e = .returned (.int .i64 (ringC p n)) ∧ Below w.heap.size w w' := by
  by_cases h0 : ringM p n = 0
  · have h0' : (ringM p n == 0) = true := by simp [h0]
    simp only [ringC, h0, if_true]
    go_enter Try.func76, Try.ntmps76
    go_wp2_with (go_at_call 71; refine (implModulus_any _ _ _).mono ?_; rintro e w1 ⟨rfl, hb⟩)
    go_ret
    exact ⟨rfl, below_one hb⟩
  · have h0' : (ringM p n == 0) = false := by simpa using h0
    simp only [ringC, h0, if_false]
    go_enter Try.func76, Try.ntmps76
    go_wp2_with (go_at_call 71; refine (implModulus_any _ _ _).mono ?_; rintro e w1 ⟨rfl, hb⟩)
    go_loop [14] (fun i => i = .int .i64 0) (fun _ => 0)
    case atStart => exact rfl
    case round =>
      subst hrel
      go_wp2
      go_ret
      exact ⟨rfl, below_one hb⟩
set_option maxHeartbeats 400000 in
theorem checkOne_any (p n a : Int) (b : Nat) (w : World) (hc : w.cell? ⟨b, 0, none⟩ = some (.int .i64 a)) (hlt : b < w.heap.size) :
    Calls Try.prog 76 #[.agg #[.int .i64 p, .int .i64 n], .slice (some ⟨b, 0, none⟩) 1 1] w fun e w' => e = .returned (.int .i64 (rgC p n a)) ∧ Below w.heap.size w w' := by
  by_cases h0 : ringM p n = 0
  · have h0' : (ringM p n == 0) = true := by simp [h0]
    simp only [rgC, h0, if_true]
    go_enter Try.func76, Try.ntmps76
    go_wp2_with (go_at_call 71; refine (implModulus_any _ _ _).mono ?_; rintro e w1 ⟨rfl, hb⟩)
    go_ret
    exact ⟨rfl, below_one hb⟩
  · have h0' : (ringM p n == 0) = false := by simpa using h0
    simp only [rgC, h0, if_false]
    have HC := Lib.hid hc
    clear hc h0
    go_enter Try.func76, Try.ntmps76
    go_wp2_with (go_at_call 71; refine (implModulus_any _ _ _).mono ?_; rintro e w1 ⟨rfl, hb⟩)
    have c1 : w1.cell? ⟨b, 0, none⟩ = some (.int .i64 a) := by rw [(below_one hb).cell hlt]; exact HC.out
    have HB := Lib.hid (below_one hb)
    clear hb
    go_loop [14] (fun i => ∃ k : Nat, k ≤ 1 ∧ i = .int .i64 k ∧ (k = 1 → 0 ≤ a ∧ a < ringM p n)) (fun i => 1 - (intOf i).toNat)
    case atStart => exact ⟨0, by omega, rfl, by omega⟩
    case round =>
      obtain ⟨k, hk, rfl, hk1⟩ := hrel
      by_cases e0 : k = 0
      · subst e0
        clear hk1
        by_cases ha : 0 ≤ a
        · by_cases hm : a < ringM p n
          · go_wp2
            exact ⟨⟨1, by omega, rfl, fun _ => ⟨ha, hm⟩⟩, by simp [intOf]⟩
          · simp only [hm, and_false]
            go_wp2
            go_ret
            exact ⟨rfl, HB.out⟩
        · simp only [ha, false_and]
          go_wp2
          go_ret
          exact ⟨rfl, HB.out⟩
      · obtain rfl : k = 1 := by omega
        have ha := hk1 rfl
        simp only [ha, and_self]
        clear hk1
        go_wp2
        go_ret
        exact ⟨rfl, HB.out⟩
theorem specIsRing_any (p n : Int) (w : World) :
    Calls Try.prog 47 #[.agg #[.int .i64 p, .int .i64 n]] w fun e w' => e = .returned (.bool (ringB p n)) ∧ Below w.heap.size w w' := by
  cases hs : smallB p
  · have HE := Lib.hid (ringB_f (ringM_small (n := n) hs))
    go_enter Try.func47, Try.ntmps47
    go_wp2_with (go_at_call 82; refine (l01Small_any _ _).mono ?_; rintro e w' ⟨rfl, rfl⟩)
    go_ret
    exact ⟨ret_bool HE.out.symm, (Below.refl _ _).alloc (Nat.le_refl _) _⟩
  · by_cases hn : 1 ≤ n ∧ n ≤ 40
    · have hi := inB_t hn.1 hn.2
      have HS := Lib.hid hs
      have hz : 0 ≤ ringM p n := by
        by_cases h : ringM p n = 0
        · omega
        · have := ringM_bd h; omega
      have HE := Lib.hid (show decide (0 < ringM p n) = ringB p n by unfold ringB; congr 1; apply propext; omega)
      have HN := Lib.hid hn
      clear hn hz
      go_enter Try.func47, Try.ntmps47
      go_wp2_with (first | (go_at_call 82; refine (l01Small_any _ _).mono ?_; rintro e w' ⟨rfl, rfl⟩) | (go_at_call 56; refine (in_any _ _ _ _).mono ?_; rintro e w' ⟨rfl, rfl⟩) | (go_at_call 66; refine (l02Modulus_any _ _ _ HS.out HN.out.1 (Int.le_trans HN.out.2 (by omega))).mono ?_; rintro e w' ⟨rfl, rfl⟩))
      go_ret
      exact ⟨ret_bool HE.out, (Below.refl _ _).alloc (Nat.le_refl _) _⟩
    · have hz : ringM p n = 0 := by
        by_cases h : 1 ≤ n
        · exact ringM_high (by omega)
        · exact ringM_low (by omega)
      have HE := Lib.hid (ringB_f hz)
      have hi : inB n 1 40 = false := inB_f (by omega)
      clear hz hn
      go_enter Try.func47, Try.ntmps47
      go_wp2_with (first | (go_at_call 82; refine (l01Small_any _ _).mono ?_; rintro e w' ⟨rfl, rfl⟩) | (go_at_call 56; refine (in_any _ _ _ _).mono ?_; rintro e w' ⟨rfl, rfl⟩))
      go_ret
      exact ⟨ret_bool HE.out.symm, (Below.refl _ _).alloc (Nat.le_refl _) _⟩
theorem specModulusOf_any (p n : Int) (w : World) :
    Calls Try.prog 39 #[.agg #[.int .i64 p, .int .i64 n]] w fun e w' => e = .returned (.tuple #[.int .i64 (ringM p n), .int .i64 (ringC p n)]) ∧ Below w.heap.size w w' := by
  by_cases h0 : ringM p n = 0
  · have hd := ringB_f h0
    simp only [ringC, h0, if_true]
    go_enter Try.func39, Try.ntmps39
    go_wp2_with (go_at_call 47; refine (specIsRing_any _ _ _).mono ?_; rintro e w1 ⟨rfl, hb⟩)
    go_ret2
    exact ⟨rfl, below_one hb⟩
  · have hd := ringB_t h0
    obtain ⟨hs, hn1, hx⟩ := ringM_in h0
    have hn2 : n ≤ 1000 := by have := ringM_bd h0; omega
    have H := Lib.hid (And.intro hs (And.intro hn1 hn2))
    simp only [ringC, h0, if_false]
    clear hs hn1 hn2 h0 hx
    go_enter Try.func39, Try.ntmps39
    go_wp2_with (first | (go_at_call 47; refine (specIsRing_any _ _ _).mono ?_; rintro e w1 ⟨rfl, hb⟩; have c0 := (cells_two hb).1; have c1 := (cells_two hb).2) | (go_at_call 66; refine (l02Modulus_any _ _ _ H.out.1 H.out.2.1 H.out.2.2).mono ?_; rintro e w' ⟨rfl, rfl⟩))
    go_ret2
    exact ⟨rfl, below_one hb⟩
end Go.Proofs.Ytckpeoadglkbgaa
namespace Go.Proofs.Ytckpeoadglkbgaa
open Go.RowKit
set_option linter.unusedVariables false
theorem remainder_any (x m : Int) (w : World) (h1 : 2 ≤ m) (h2 : m ≤ 1000000000) :
    Calls Try.prog 88 #[.int .i64 x, .int .i64 m] w fun e w' => e = .returned (.int .i64 (x % m)) ∧ w = w' := by
  have hm : (m == 0) = false := by simp; omega
  have hb := tmod_bd (x := x) (show 0 < m by omega)
  by_cases h : x.tmod m < 0
  · have HE := Lib.hid (rem_neg (by omega) h)
    go_enter Try.func88, Try.ntmps88
    go_wp2
    go_ret
    exact ⟨ret_int HE.out, rfl⟩
  · have HE := Lib.hid (rem_pos (by omega) h)
    go_enter Try.func88, Try.ntmps88
    go_wp2
    go_ret
    exact ⟨ret_int HE.out, rfl⟩
theorem l01Mod_any (x m : Int) (w : World) (h1 : 2 ≤ m) (h2 : m ≤ 1000000000) :
    Calls Try.prog 84 #[.int .i64 x, .int .i64 m] w fun e w' => e = .returned (.int .i64 (x % m)) ∧ w = w' := by
  have hm : (m == 0) = false := by simp; omega
  have hb := tmod_bd (x := x) (show 0 < m by omega)
  have HE := Lib.hid (mod_twice2 (x := x) (show 0 < m by omega))
  go_enter Try.func84, Try.ntmps84
  go_wp2
  go_ret
  exact ⟨ret_int HE.out, rfl⟩
def redV (p n x : Int) : Int := if ringM p n = 0 then 0 else if valueB x then x % ringM p n else 0
def redC (p n x : Int) : Int := if ringM p n = 0 then 1 else if valueB x then 0 else 2
end Go.Proofs.Ytckpeoadglkbgaa
namespace Go.Proofs.Ytckpeoadglkbgaa
open Go.RowKit
set_option linter.unusedVariables false
theorem toRing_any (p n : Int) (w : World) :
    Calls Try.prog 40 #[.agg #[.int .i64 p, .int .i64 n]] w fun e w' => e = .returned (.agg #[.int .i64 p, .int .i64 n]) ∧ Below w.heap.size w w' := by
  go_enter Try.func40, Try.ntmps40
  go_wp2
  refine bodyPost_ret (v := .agg #[.int .i64 p, .int .i64 n]) (by simp [results, Try.results40, go_sem]) rfl ?_
  exact ⟨rfl, (((Below.refl _ _).alloc (Nat.le_refl _) _).alloc (by simp) _).alloc (by simp; omega) _⟩
end Go.Proofs.Ytckpeoadglkbgaa
namespace Go.Proofs.Ytckpeoadglkbgaa
open Go.RowKit
set_option linter.unusedVariables false
theorem and1_odd {e : Int} (h0 : 0 ≤ e) (h1 : e ≤ 4000000000000000000) (h : e % 2 = 1) : (bits BinOp.and IntKind.i64 e 1 == 1) = true := by
  have := Go.Proofs.and_one e.toNat (by omega)
  rw [show ((e.toNat : Nat) : Int) = e by omega] at this
  rw [this]; simp; omega
theorem and1_even {e : Int} (h0 : 0 ≤ e) (h1 : e ≤ 4000000000000000000) (h : ¬ e % 2 = 1) : (bits BinOp.and IntKind.i64 e 1 == 1) = false := by
  have := Go.Proofs.and_one e.toNat (by omega)
  rw [show ((e.toNat : Nat) : Int) = e by omega] at this
  rw [this]; simp; omega
end Go.Proofs.Ytckpeoadglkbgaa
namespace Go.Proofs.Ytckpeoadglkbgaa
open Go.RowKit
set_option linter.unusedVariables false
theorem keep_alloc {w w1 : World} {a b : Value} {T : TypeId} {o : Obj} (hb : Below ((w.alloc (.cells #[a, b] T)).alloc o).heap.size ((w.alloc (.cells #[a, b] T)).alloc o) w1) :
    Below w.heap.size w w1 ∧ w1.cell? ⟨w.heap.size, 0, none⟩ = some a ∧ w1.cell? ⟨w.heap.size, 1, none⟩ = some b := by
  refine keep_first (T := T) ?_
  exact ((Below.refl _ _).alloc (Nat.le_refl _) _).trans (hb.mono (by simp))
theorem cell_second (w : World) (o : Obj) (v : Value) (T : TypeId) : ((w.alloc o).alloc (.cells #[v] T)).cell? ⟨w.heap.size + 1, 0, none⟩ = some v := by
  have e : (w.alloc o).heap.size = w.heap.size + 1 := by simp
  rw [← e, World.cell?_alloc_new]; rfl
theorem size_second (w : World) (o o' : Obj) : w.heap.size + 1 < ((w.alloc o).alloc o').heap.size := by simp
theorem rgC_zero {p n a : Int} (h : rgC p n a = 0) : ringM p n ≠ 0 ∧ 0 ≤ a ∧ a < ringM p n := by
  unfold rgC at h
  split at h
  · omega
  · split at h
    · rename_i h1 h2; exact ⟨h1, h2⟩
    · omega
theorem isUnit_any (p n a : Int) (w : World) (hp : 2 ≤ p) (ha : 0 ≤ a) :
    Calls Try.prog 59 #[.agg #[.int .i64 p, .int .i64 n], .int .i64 a] w fun e w' => e = .returned (.bool (!(a % p == 0))) ∧ Below w.heap.size w w' := by
  have hz : (p == 0) = false := by simp; omega
  go_enter Try.func59, Try.ntmps59
  go_wp2
  go_ret
  exact ⟨ret_bool (by first | rfl | simp), (Below.refl _ _).alloc (Nat.le_refl _) _⟩
theorem l02Code_any (p n a : Int) (w : World) :
    Calls Try.prog 77 #[.agg #[.int .i64 p, .int .i64 n], .int .i64 a] w fun e w' => e = .returned (.int .i64 (rgC p n a)) ∧ Below w.heap.size w w' := by
  by_cases h0 : ringM p n = 0
  · have hd := ringB_f h0
    simp only [rgC, h0, if_true]
    clear h0
    go_enter Try.func77, Try.ntmps77
    go_wp2_with (go_at_call 47; refine (specIsRing_any _ _ _).mono ?_; rintro e wn ⟨rfl, hb⟩; (first | have hH := keep_first hb | have hH := keep_next ⟨hB, c0, c1⟩ hb); obtain ⟨hB, c0, c1⟩ := hH)
    go_ret
    exact ⟨rfl, hB⟩
  · have hd := ringB_t h0
    obtain ⟨_, _, hn1, hn2, hm1, hm2, _⟩ := ringM_bd h0
    have H := Lib.hid (And.intro (ringM_in h0).1 (And.intro hn1 (show n ≤ 1000 by omega)))
    by_cases ha : 0 ≤ a ∧ a < ringM p n
    · have hi : inB a 0 (ringM p n - 1) = true := inB_t ha.1 (by omega)
      simp only [rgC, h0, ha, and_self, if_true, if_false]
      clear h0 ha
      go_enter Try.func77, Try.ntmps77
      go_wp2_with (first | (go_at_call 47; refine (specIsRing_any _ _ _).mono ?_; rintro e wn ⟨rfl, hb⟩; (first | have hH := keep_first hb | have hH := keep_next ⟨hB, c0, c1⟩ hb); obtain ⟨hB, c0, c1⟩ := hH) | (go_at_call 66; refine (l02Modulus_any _ _ _ H.out.1 H.out.2.1 H.out.2.2).mono ?_; rintro e wn ⟨rfl, rfl⟩) | (go_at_call 56; refine (in_any _ _ _ _).mono ?_; rintro e wn ⟨rfl, rfl⟩))
      go_ret
      exact ⟨rfl, hB⟩
    · have hi : inB a 0 (ringM p n - 1) = false := inB_f (by omega)
      simp only [rgC, h0, ha, if_false]
      clear h0 ha
      go_enter Try.func77, Try.ntmps77
      go_wp2_with (first | (go_at_call 47; refine (specIsRing_any _ _ _).mono ?_; rintro e wn ⟨rfl, hb⟩; (first | have hH := keep_first hb | have hH := keep_next ⟨hB, c0, c1⟩ hb); obtain ⟨hB, c0, c1⟩ := hH) | (go_at_call 66; refine (l02Modulus_any _ _ _ H.out.1 H.out.2.1 H.out.2.2).mono ?_; rintro e wn ⟨rfl, rfl⟩) | (go_at_call 56; refine (in_any _ _ _ _).mono ?_; rintro e wn ⟨rfl, rfl⟩))
      go_ret
      exact ⟨rfl, hB⟩
def unitC (p n a : Int) : Int := if rgC p n a = 0 then (if a % p = 0 then 5 else 0) else rgC p n a
def invV (p n a : Int) : Int := if unitC p n a = 0 then bezX a (ringM p n) % ringM p n else 0
theorem inverseBy_any (a m : Int) (w : World) (hva : valueB a = true) (hvm : valueB m = true) (hm1 : 2 ≤ m) (hm2 : m ≤ 1000000000) :
    Calls Try.prog 89 #[.int .i64 a, .int .i64 m] w fun e w' => e = .returned (.int .i64 (bezX a m % m)) ∧ w = w' := by
  go_enter Try.func89, Try.ntmps89
  go_wp2_with (first | (go_at_call 107; refine (implBez_val _ _ _ hva hvm).mono ?_; rintro e wn ⟨rfl, rfl⟩) | (go_at_call 88; refine (remainder_any _ _ _ hm1 hm2).mono ?_; rintro e wn ⟨rfl, rfl⟩))
  go_ret
  exact ⟨rfl, rfl⟩
theorem l02Inverse_any (a m : Int) (w : World) (h1 : 0 ≤ a) (h2 : a < m) (hm1 : 2 ≤ m) (hm2 : m ≤ 1000000000) :
    Calls Try.prog 90 #[.int .i64 a, .int .i64 m] w fun e w' => e = .returned (.int .i64 (bezX a m % m)) ∧ w = w' := by
  have hv1 : -1000000000000 ≤ a := by omega
  have hv2 : a ≤ 1000000000000 := by omega
  have hv3 : -1000000000000 ≤ m := by omega
  have hv4 : m ≤ 1000000000000 := by omega
  go_enter Try.func90, Try.ntmps90
  go_wp2_with (first | (go_at_call 108; refine (l01Bez_any _ _ _ hv1 hv2 hv3 hv4).mono ?_; rintro e wn ⟨rfl, rfl⟩) | (go_at_call 84; refine (l01Mod_any _ _ _ hm1 hm2).mono ?_; rintro e wn ⟨rfl, rfl⟩))
  go_ret
  exact ⟨rfl, rfl⟩
end Go.Proofs.Ytckpeoadglkbgaa
namespace Go.Proofs.Ytckpeoadglkbgaa
open Go.RowKit
set_option linter.unusedVariables false
set_option linter.unusedSimpArgs false
set_option maxRecDepth 20000
theorem prod_nine {a x : Int} (a0 : 0 ≤ a) (a1 : a ≤ 1000000000) (x0 : 0 ≤ x) (x1 : x ≤ 1000000000) : 0 ≤ a * x ∧ a * x ≤ 1000000000000000000 := by
  refine ⟨Int.mul_nonneg a0 x0, ?_⟩
  have := Int.mul_le_mul a1 x1 x0 (by omega)
  omega
theorem seen_al {w : World} {o : Option Addr} {n c : Nat} {l : List Int} (h : Seen w o n c l) (ob : Obj) : Seen (w.alloc ob) o n c l := seen_below h ((Below.refl _ _).alloc (Nat.le_refl _) _)
/-- what is asked of coefficients -/
def Cof9 (f : List Int) : Prop := ∀ i, -1000000000 ≤ f.getD i 0 ∧ f.getD i 0 ≤ 1000000000
set_option maxHeartbeats 1000000 in
theorem l11Value_any (m x : Int) (m2 : 2 ≤ m) (m9 : m ≤ 1000000000) (x0 : 0 ≤ x) (x1 : x ≤ 1000000000) {o : Option Addr} {n c : Nat} {f : List Int} {w : World} (h : Seen w o n c f) (hf : Cof9 f) :
    Calls Try.prog 63 #[.slice o n c, .int .i64 x, .int .i64 m] w fun e w' => e = .returned (.int .i64 (vM m f x)) ∧ w = w' := by
  obtain ⟨hl, hn, hno, hnc, g, h1, h2⟩ := h
  have HO := Lib.hid fun h => (h1 h).1
  have HL := Lib.hid hl
  have HC := Lib.hid h2
  have HF := Lib.hid hf
  clear h1 h2 hl hno hnc hf
  go_enter Try.func63, Try.ntmps63
  go_wp2_with fail
  go_loop [7, 8] (fun a i => ∃ (j : Nat) (y : Int), j ≤ n ∧ i = .int .i64 y ∧ y = (n : Int) - 1 - j ∧ a = .int .i64 (evM m f x j)) (fun _ i => (intOf i + 1).toNat)
  case atStart => exact ⟨0, (n : Int) - 1, Nat.zero_le _, rfl, by omega, rfl⟩
  case round =>
    obtain ⟨j, y, hj, rfl, hy, rfl⟩ := hrel
    by_cases hjn : j < n
    · obtain ⟨k, hk⟩ : ∃ k : Nat, y = k := ⟨y.toNat, by omega⟩
      subst hk
      have hkn : k < n := by omega
      have hme : f.length - 1 - j = k := by have := HL.out; omega
      have hog := HO.out (by omega)
      subst hog
      have a2 := HC.out k hkn
      have hh : evM m f x (j + 1) = (evM m f x j * x + f.getD k 0) % m := by rw [evM, hme]
      obtain ⟨y0, y1⟩ := HF.out k
      obtain ⟨b0, b1⟩ := evM_rng (p := m) (by omega) f x j
      obtain ⟨p0, p1⟩ := prod_nine b0 (by omega) x0 x1
      have HH := Lib.hid hh
      clear hh
      generalize evM m f x j = a at *
      generalize f.getD k 0 = z at *
      have w1 : IntKind.i64.wrap (a * x) = a * x := IntWalk.i64_in _ (by omega)
      have w2 : IntKind.i64.wrap (a * x + z) = a * x + z := IntWalk.i64_in _ (by omega)
      have HY := Lib.hid hy
      have hkn' : (k : Int) < (n : Int) := by omega
      clear hme hy p0 p1
      go_wp2_with (go_at_call 84; refine (l01Mod_any _ _ _ m2 m9).mono ?_; rintro e wn ⟨rfl, rfl⟩)
      exact ⟨⟨j + 1, (k : Int) - 1, by omega, by first | rfl | (go_num), by have := HY.out; omega, by rw [HH.out]⟩, by first | (simp [intOf]; done) | (simp [intOf]; omega)⟩
    · have hjl : j = f.length := by have := HL.out; omega
      have hneg : y = -1 := by omega
      subst hneg hjl
      clear hy
      obtain ⟨E, hEE⟩ : ∃ E, evM m f x f.length = E := ⟨_, rfl⟩
      have HEE := Lib.hid hEE
      rw [hEE]
      clear hEE
      go_wp2_with fail
      go_ret
      exact ⟨ret_int HEE.out.symm, rfl⟩
/-- the code of a ring, a polynomial and a residue -/
def henC (p n : Int) (f : List Int) (x : Int) : Int := if polyB f then rgC p n x else 1
theorem henC_zero {p n x : Int} {f : List Int} (h : henC p n f x = 0) : polyB f = true ∧ ringM p n ≠ 0 ∧ 0 ≤ x ∧ x < ringM p n := by
  unfold henC at h
  split at h
  · rename_i hp; exact ⟨hp, rgC_zero h⟩
  · omega
theorem poly_cof9 {f : List Int} (h : polyB f = true) : Cof9 f := fun i => by have := (polyB_of h).2.1 i; omega
set_option maxHeartbeats 1000000 in
theorem l11Code_any (p n x : Int) {o : Option Addr} {k c : Nat} {f : List Int} {w : World} (h : Seen w o k c f) :
    Calls Try.prog 62 #[.agg #[.int .i64 p, .int .i64 n], .slice o k c, .int .i64 x] w fun e w' => e = .returned (.int .i64 (henC p n f x)) ∧ Below w.heap.size w w' := by
  have HS := Lib.hid h
  clear h
  cases hp : polyB f
  · rw [show henC p n f x = 1 by simp [henC, hp]]
    go_enter Try.func62, Try.ntmps62
    go_wp2_with (go_at_call 48; refine (specIsPoly_any (seen_al HS.out _)).mono ?_; rw [hp]; rintro e w2 ⟨rfl, rfl⟩)
    go_ret
    exact ⟨rfl, (Below.refl _ _).alloc (Nat.le_refl _) _⟩
  · rw [show henC p n f x = rgC p n x by simp [henC, hp]]
    go_enter Try.func62, Try.ntmps62
    go_wp2_with (first | (go_at_call 48; refine (specIsPoly_any (seen_al HS.out _)).mono ?_; rw [hp]; rintro e w2 ⟨rfl, rfl⟩) | (go_at_call 77; refine (l02Code_any _ _ _ _).mono ?_; rintro e wn ⟨rfl, hb⟩; (first | have hH := keep_first hb | have hH := keep_next ⟨hB, c0, c1⟩ hb); obtain ⟨hB, c0, c1⟩ := hH))
    go_ret
    exact ⟨rfl, hB⟩
def valR (p n : Int) (f : List Int) (x : Int) : Int := if henC p n f x = 0 then vM (ringM p n) f x else 0
set_option maxHeartbeats 1000000 in
theorem specValueIn_any (p n x : Int) {o : Option Addr} {k c : Nat} {f : List Int} {w : World} (h : Seen w o k c f) :
    Calls Try.prog 38 #[.agg #[.int .i64 p, .int .i64 n], .slice o k c, .int .i64 x] w fun e w' => e = .returned (.tuple #[.int .i64 (valR p n f x), .int .i64 (henC p n f x)]) ∧ Below w.heap.size w w' := by
  have HS := Lib.hid h
  clear h
  by_cases hr : henC p n f x = 0
  · have hk : (henC p n f x == 0) = true := by simp [hr]
    obtain ⟨hp, h0, hx0, hx1⟩ := henC_zero hr
    obtain ⟨_, _, hn1, hn2, hm1, hm2, _⟩ := ringM_bd h0
    have H := Lib.hid (And.intro (ringM_in h0).1 (And.intro hn1 (show n ≤ 1000 by omega)))
    have HF := Lib.hid (poly_cof9 hp)
    have hx9 : x ≤ 1000000000 := by omega
    rw [show valR p n f x = vM (ringM p n) f x by simp [valR, hr], hr]
    have HR := Lib.hid hr
    clear h0 hr hp hk
    go_enter Try.func38, Try.ntmps38
    go_wp2_with (first | (go_at_call 62; refine (l11Code_any _ _ _ (seen_al HS.out _)).mono ?_; rintro e wn ⟨rfl, hb⟩; have hH := keep_first hb; obtain ⟨hB, c0, c1⟩ := hH; rw [HR.out]) | (go_at_call 66; refine (l02Modulus_any _ _ _ H.out.1 H.out.2.1 H.out.2.2).mono ?_; rintro e wn ⟨rfl, rfl⟩) | (go_at_call 63; refine (l11Value_any _ _ hm1 hm2 hx0 hx9 (seen_below HS.out hB) HF.out).mono ?_; rintro e wn ⟨rfl, rfl⟩))
    go_ret2
    exact ⟨rfl, hB⟩
  · have hk : (henC p n f x == 0) = false := by simp [hr]
    rw [show valR p n f x = 0 by simp [valR, hr]]
    clear hr
    go_enter Try.func38, Try.ntmps38
    go_wp2_with (go_at_call 62; refine (l11Code_any _ _ _ (seen_al HS.out _)).mono ?_; rintro e wn ⟨rfl, hb⟩; have hH := keep_first hb; obtain ⟨hB, c0, c1⟩ := hH)
    go_ret2
    exact ⟨rfl, hB⟩
end Go.Proofs.Ytckpeoadglkbgaa
namespace Go.Proofs.Ytckpeoadglkbgaa
open Go.RowKit
set_option linter.unusedVariables false
set_option linter.unusedSimpArgs false
set_option maxRecDepth 20000
theorem keep11 {w0 W W' : World} {a b : Addr} {u v : Value} (h : Below w0.heap.size w0 W ∧ W.cell? a = some u ∧ W.cell? b = some v) (hb : Below W.heap.size W W') : Below w0.heap.size w0 W' ∧ W'.cell? a = some u ∧ W'.cell? b = some v :=
  ⟨h.1.trans (hb.mono h.1.size), by rw [hb.cell (World.block_lt_of_cell? _ _ h.2.1)]; exact h.2.1, by rw [hb.cell (World.block_lt_of_cell? _ _ h.2.2)]; exact h.2.2⟩
/-- a step of Newton -/
def stepV (m : Int) (f : List Int) (x : Int) : Int := (x - vM m f x * (bezX (vM m (derL f) x) m % m)) % m
theorem stepV_rng {m : Int} (hm : 0 < m) (f : List Int) (x : Int) : 0 ≤ stepV m f x ∧ stepV m f x < m := ⟨Int.emod_nonneg _ (by omega), Int.emod_lt_of_pos _ hm⟩
theorem der_len9 {f : List Int} (h : polyB f = true) : (derL f).length ≤ 1100000 := by
  have := (polyB_of h).1
  simp only [derL, tabL_length]
  omega
theorem der_cof9 {f : List Int} (h : polyB f = true) : Cof9 (derL f) := by
  intro i
  obtain ⟨hl, hr, _⟩ := polyB_of h
  by_cases hi : i < f.length - 1
  · have e := derL_getD f i
    rw [e]
    obtain ⟨z0, z1⟩ := hr (i + 1)
    generalize f.getD (i + 1) 0 = z at *
    rcases (by omega : i = 0 ∨ i = 1 ∨ i = 2 ∨ i = 3 ∨ i = 4 ∨ i = 5 ∨ i = 6 ∨ i = 7) with rfl | rfl | rfl | rfl | rfl | rfl | rfl | rfl <;> omega
  · rw [derL_getD, show f.getD (i + 1) 0 = 0 by simp [List.getD, List.getElem?_eq_none (show f.length ≤ i + 1 by omega)]]
    omega
set_option maxHeartbeats 1000000 in
theorem l11Step_any (m x : Int) (m2 : 2 ≤ m) (m9 : m ≤ 1000000000) (x0 : 0 ≤ x) (x1 : x ≤ 1000000000) {o : Option Addr} {n c : Nat} {f : List Int} {w : World} (h : Seen w o n c f) (hp : polyB f = true) :
    Calls Try.prog 65 #[.slice o n c, .int .i64 x, .int .i64 m] w fun e w' => e = .returned (.int .i64 (stepV m f x)) ∧ Below w.heap.size w w' := by
  have HS := Lib.hid h
  have HF := Lib.hid (poly_cof9 hp)
  have HD := Lib.hid (der_cof9 hp)
  have hd := der_len9 hp
  have HP := Lib.hid hp
  obtain ⟨v0, v1⟩ := vM_range (m := m) (by omega) f x
  obtain ⟨d0, d1⟩ := vM_range (m := m) (by omega) (derL f) x
  have i0 : 0 ≤ bezX (vM m (derL f) x) m % m := Int.emod_nonneg _ (by omega)
  have i1 : bezX (vM m (derL f) x) m % m < m := Int.emod_lt_of_pos _ (by omega)
  have HE := Lib.hid (show stepV m f x = (x - vM m f x * (bezX (vM m (derL f) x) m % m)) % m from rfl)
  obtain ⟨p0, p1⟩ := prod_nine v0 (show vM m f x ≤ 1000000000 by omega) i0 (show bezX (vM m (derL f) x) m % m ≤ 1000000000 by omega)
  have w1 : IntKind.i64.wrap (vM m f x * (bezX (vM m (derL f) x) m % m)) = vM m f x * (bezX (vM m (derL f) x) m % m) := IntWalk.i64_in _ (by omega)
  have w2 : IntKind.i64.wrap (x - vM m f x * (bezX (vM m (derL f) x) m % m)) = x - vM m f x * (bezX (vM m (derL f) x) m % m) := IntWalk.i64_in _ (by omega)
  clear h hp
  go_enter Try.func65, Try.ntmps65
  go_wp2_with (first
    | (go_at_call 63; with_reducible refine (l11Value_any _ _ m2 m9 x0 x1 HS.out HF.out).mono ?_; rintro e wn ⟨rfl, rfl⟩)
    | (go_at_call 64; refine (l06Der_any HS.out HP.out).mono ?_; rintro e w2 ⟨v, rfl, hr, hb⟩; obtain ⟨o2, c2, rfl, HS2⟩ := seen_row hr hd)
    | (go_at_call 63; with_reducible refine (l11Value_any _ _ m2 m9 x0 x1 HS2 HD.out).mono ?_; rintro e wn ⟨rfl, rfl⟩)
    | (go_at_call 90; refine (l02Inverse_any _ _ _ d0 d1 m2 m9).mono ?_; rintro e wn ⟨rfl, rfl⟩)
    | (go_at_call 84; refine (l01Mod_any _ _ _ m2 m9).mono ?_; rintro e wn ⟨rfl, rfl⟩))
  go_ret
  exact ⟨ret_int HE.out.symm, hb⟩
/-- a simple root by p -/
def simB (p : Int) (f : List Int) (a : Int) : Bool := vM p f a == 0 && !(vM p (derL f) a == 0)
set_option maxHeartbeats 1000000 in
theorem l11Simple_any (p a : Int) (p2 : 2 ≤ p) (p9 : p ≤ 1000000000) (a0 : 0 ≤ a) (a1 : a ≤ 1000000000) {o : Option Addr} {n c : Nat} {f : List Int} {w : World} (h : Seen w o n c f) (hp : polyB f = true) :
    Calls Try.prog 57 #[.slice o n c, .int .i64 a, .int .i64 p] w fun e w' => e = .returned (.bool (simB p f a)) ∧ Below w.heap.size w w' := by
  have HS := Lib.hid h
  have HF := Lib.hid (poly_cof9 hp)
  have HD := Lib.hid (der_cof9 hp)
  have hd := der_len9 hp
  have HP := Lib.hid hp
  clear h hp
  by_cases h1 : vM p f a = 0
  · have k1 : (vM p f a == 0) = true := by simp [h1]
    have HE := Lib.hid (show simB p f a = !(vM p (derL f) a == 0) by simp [simB, h1])
    clear h1
    go_enter Try.func57, Try.ntmps57
    go_wp2_with (first
      | (go_at_call 63; with_reducible refine (l11Value_any _ _ p2 p9 a0 a1 HS.out HF.out).mono ?_; rintro e wn ⟨rfl, rfl⟩)
      | (go_at_call 64; refine (l06Der_any HS.out HP.out).mono ?_; rintro e w2 ⟨v, rfl, hr, hb⟩; obtain ⟨o2, c2, rfl, HS2⟩ := seen_row hr hd)
      | (go_at_call 63; with_reducible refine (l11Value_any _ _ p2 p9 a0 a1 HS2 HD.out).mono ?_; rintro e wn ⟨rfl, rfl⟩))
    go_ret
    exact ⟨by rw [HE.out]; first | rfl | simp, hb⟩
  · have k1 : (vM p f a == 0) = false := by simp [h1]
    have HE := Lib.hid (show simB p f a = false by simp [simB, h1])
    clear h1
    go_enter Try.func57, Try.ntmps57
    go_wp2_with (go_at_call 63; with_reducible refine (l11Value_any _ _ p2 p9 a0 a1 HS.out HF.out).mono ?_; rintro e wn ⟨rfl, rfl⟩)
    go_ret
    exact ⟨by rw [HE.out]; rfl, Below.refl _ _⟩
theorem henC_more {p n x : Int} {f : List Int} (h : henC p n f x ≠ 0) : henC p n f x = 1 ∨ henC p n f x = 2 := by
  unfold henC rgC at *
  split <;> (try split) <;> (try split) <;> simp_all
def newC (p n : Int) (f : List Int) (x : Int) : Int := if henC p n f x = 0 then (if vM p (derL f) x = 0 then 5 else 0) else henC p n f x
def newV (p n : Int) (f : List Int) (x : Int) : Int := if newC p n f x = 0 then stepV (ringM p n) f x else 0
set_option maxHeartbeats 1000000 in
theorem specNewton_any (p n x : Int) {o : Option Addr} {k c : Nat} {f : List Int} {w : World} (h : Seen w o k c f) :
    Calls Try.prog 22 #[.agg #[.int .i64 p, .int .i64 n], .slice o k c, .int .i64 x] w fun e w' => e = .returned (.tuple #[.int .i64 (newV p n f x), .int .i64 (newC p n f x)]) ∧ Below w.heap.size w w' := by
  have HS := Lib.hid h
  clear h
  by_cases hr : henC p n f x = 0
  · have hk : (henC p n f x == 0) = true := by simp [hr]
    obtain ⟨hp, h0, hx0, hx1⟩ := henC_zero hr
    obtain ⟨hp2, hp97, hn1, hn2, hm1, hm2, _⟩ := ringM_bd h0
    have H := Lib.hid (And.intro (ringM_in h0).1 (And.intro hn1 (show n ≤ 1000 by omega)))
    have HF := Lib.hid (poly_cof9 hp)
    have HD := Lib.hid (der_cof9 hp)
    have hd := der_len9 hp
    have HP := Lib.hid hp
    have hx9 : x ≤ 1000000000 := by omega
    have hp9 : p ≤ 1000000000 := by omega
    have HR := Lib.hid hr
    by_cases h1 : vM p (derL f) x = 0
    · have k1 : (vM p (derL f) x == 0) = true := by simp [h1]
      have e1 : newC p n f x = 5 := by simp [newC, hr, h1]
      rw [show newV p n f x = 0 by simp [newV, e1], e1]
      clear h0 hr hp hk h1 e1
      go_enter Try.func22, Try.ntmps22
      go_wp2_with (first
        | (go_at_call 62; refine (l11Code_any _ _ _ (seen_al HS.out _)).mono ?_; rintro e wn ⟨rfl, hb⟩; have hH := keep_first hb; obtain ⟨hB, c0, c1⟩ := hH; rw [HR.out]))
      have hst : Below w.heap.size w wn.drew ∧ wn.drew.cell? ⟨w.heap.size, 0, none⟩ = some (.int .i64 p) ∧ wn.drew.cell? ⟨w.heap.size, 1, none⟩ = some (.int .i64 n) := ⟨below_drewN hB 1, c0, c1⟩
      have HDer := Lib.hid fun (W : World) (hw : Below w.heap.size w W) => l06Der_any (seen_below HS.out hw) HP.out
      go_region_held3 (fun W' => Below w.heap.size w W' ∧ W'.cell? ⟨w.heap.size, 0, none⟩ = some (.int .i64 p) ∧ W'.cell? ⟨w.heap.size, 1, none⟩ = some (.int .i64 n)) (first | exact hst | exact keep11 ‹_› hb2 | assumption)
        (first | (go_at_call 64; refine (HDer.out _ hst.1).mono ?_; rintro e w2 ⟨v, rfl, hr2, hb2⟩; obtain ⟨o2, c2, rfl, HS2⟩ := seen_row hr2 hd) | (go_at_call 63; with_reducible refine (l11Value_any _ _ hp2 hp9 hx0 hx9 HS2 HD.out).mono ?_; rintro e wn ⟨rfl, rfl⟩))
      all_goals go_wp2_with fail
      all_goals go_ret2
      all_goals exact ⟨rfl, (keep11 hst hb2).1⟩
    · have k1 : (vM p (derL f) x == 0) = false := by simp [h1]
      have e1 : newC p n f x = 0 := by simp [newC, hr, h1]
      rw [show newV p n f x = stepV (ringM p n) f x by simp [newV, e1], e1]
      clear h0 hr hp hk h1 e1
      go_enter Try.func22, Try.ntmps22
      go_wp2_with (first
        | (go_at_call 62; refine (l11Code_any _ _ _ (seen_al HS.out _)).mono ?_; rintro e wn ⟨rfl, hb⟩; have hH := keep_first hb; obtain ⟨hB, c0, c1⟩ := hH; rw [HR.out]))
      have hst : Below w.heap.size w wn.drew ∧ wn.drew.cell? ⟨w.heap.size, 0, none⟩ = some (.int .i64 p) ∧ wn.drew.cell? ⟨w.heap.size, 1, none⟩ = some (.int .i64 n) := ⟨below_drewN hB 1, c0, c1⟩
      have HDer := Lib.hid fun (W : World) (hw : Below w.heap.size w W) => l06Der_any (seen_below HS.out hw) HP.out
      go_region_held3 (fun W' => Below w.heap.size w W' ∧ W'.cell? ⟨w.heap.size, 0, none⟩ = some (.int .i64 p) ∧ W'.cell? ⟨w.heap.size, 1, none⟩ = some (.int .i64 n)) (first | exact hst | exact keep11 ‹_› hb2 | assumption)
        (first | (go_at_call 64; refine (HDer.out _ hst.1).mono ?_; rintro e w2 ⟨v, rfl, hr2, hb2⟩; obtain ⟨o2, c2, rfl, HS2⟩ := seen_row hr2 hd) | (go_at_call 63; with_reducible refine (l11Value_any _ _ hp2 hp9 hx0 hx9 HS2 HD.out).mono ?_; rintro e wn ⟨rfl, rfl⟩))
      all_goals obtain ⟨hB2, d0, d1⟩ := keep11 hst hb2
      all_goals go_wp2_with (first
        | (go_at_call 66; refine (l02Modulus_any _ _ _ H.out.1 H.out.2.1 H.out.2.2).mono ?_; rintro e wn ⟨rfl, rfl⟩)
        | (go_at_call 65; refine (l11Step_any _ _ hm1 hm2 hx0 hx9 (seen_below HS.out hB2) HP.out).mono ?_; rintro e wn ⟨rfl, hb3⟩))
      all_goals go_ret2
      all_goals exact ⟨rfl, hB2.trans (hb3.mono hB2.size)⟩
  · have e1 : newC p n f x = henC p n f x := by simp [newC, hr]
    rw [show newV p n f x = 0 by simp [newV, e1, hr], e1]
    have hc := henC_more hr
    clear hr e1
    rcases hc with hc | hc
    all_goals
      rw [hc]
      have HR := Lib.hid hc
      clear hc
      go_enter Try.func22, Try.ntmps22
      go_wp2_with (go_at_call 62; refine (l11Code_any _ _ _ (seen_al HS.out _)).mono ?_; rintro e wn ⟨rfl, hb⟩; have hH := keep_first hb; obtain ⟨hB, c0, c1⟩ := hH; rw [HR.out])
      go_region
      all_goals go_wp2_with fail
      all_goals go_ret2
      all_goals exact ⟨rfl, below_drewN hB 1⟩
end Go.Proofs.Ytckpeoadglkbgaa
namespace Go.Proofs.Ytckpeoadglkbgaa
open Go.RowKit
set_option linter.unusedVariables false
set_option linter.unusedSimpArgs false
set_option maxRecDepth 20000
theorem box8 {w w1 : World} {o : Obj} (hb : Below (w.alloc o).heap.size (w.alloc o) w1) : Below w.heap.size w w1 := ((Below.refl _ _).alloc (Nat.le_refl _) _).trans (hb.mono (by simp))
theorem box8_cells {w w1 : World} {a b : Value} {T : TypeId} (hb : Below (w.alloc (.cells #[a, b] T)).heap.size (w.alloc (.cells #[a, b] T)) w1) :
    w1.cell? ⟨w.heap.size, 0, none⟩ = some a ∧ w1.cell? ⟨w.heap.size, 1, none⟩ = some b := by
  constructor
  · rw [hb.cell (by simp)]; exact World.cell?_alloc_new _ _ _ _ ▸ rfl
  · rw [hb.cell (by simp)]; exact World.cell?_alloc_new _ _ _ _ ▸ rfl
theorem below_a8 (w : World) (o : Obj) : Below w.heap.size w (w.alloc o) := (Below.refl _ _).alloc (Nat.le_refl _) _
theorem row_len {b n c : Nat} {o : Option Addr} {w : World} {l : List Int} (h : IntRow b w (.slice o n c) l) : l.length = n := by
  rcases h.2 with ⟨e, h0⟩ | ⟨g, cap, cur, e, _⟩
  · injection e with e1 e2 e3; omega
  · injection e with e1 e2 e3; exact e2.symm
theorem trim_row {b n c : Nat} {o : Option Addr} {w : World} {l : List Int} (h : IntRow b w (.slice o n c) l) : IntRow b w (.slice o (trimN l l.length) c) (trimL l) :=
  row_cut h (by rw [← row_len h]; exact trimN_le _ _)
/-! checks -/
def chkC (p : Int) (l : List Int) : Int := if smallB p then (if resB p l then 0 else 2) else 1
set_option maxHeartbeats 1000000 in
theorem checkAll_any (p : Int) {o : Option Addr} {n c : Nat} {l : List Int} {w : World} (h : Seen w o n c l) :
    Calls Try.prog 76 #[R1 p, .slice o n c] w fun e w' => e = .returned (.int .i64 (chkC p l)) ∧ Below w.heap.size w w' := by
  obtain ⟨hl, hn, hno, hnc, g, h1, h2⟩ := h
  have HO := Lib.hid h1
  have HL := Lib.hid hl
  have HC := Lib.hid h2
  clear h1 h2 hl hno hnc
  cases hs : smallB p
  · have h0 := ringM_small (n := 1) hs
    have HP := Lib.hid (show chkC p l = 1 by simp [chkC, hs])
    have HM := Lib.hid fun w => implModulus_any p 1 w
    rw [h0] at HM
    clear h0
    go_enter Try.func76, Try.ntmps76
    go_wp2_with fail
    refine (HM.out _).mono ?_
    rintro e w1 ⟨rfl, hb⟩
    have HB := Lib.hid (box8 hb)
    clear hb HM
    go_wp2_with fail
    go_ret
    rw [HP.out]; exact ⟨rfl, HB.out⟩
  · obtain ⟨p2, p97⟩ := smallB_bd hs
    have hpz : (p == 0) = false := by simp; omega
    have HM := Lib.hid fun w => modulus8_any p hs w
    go_enter Try.func76, Try.ntmps76
    go_wp2_with fail
    refine (HM.out _).mono ?_
    rintro e w1 ⟨rfl, hb⟩
    have HB := Lib.hid (box8 hb)
    clear hb HM
    go_wp2_with fail
    go_loop [14] (fun i => ∃ k : Nat, k ≤ n ∧ i = .int .i64 k ∧ resB p (l.take k) = true) (fun i => n - (intOf i).toNat)
    case atStart => exact ⟨0, Nat.zero_le _, rfl, by simp [resB]⟩
    case round =>
      obtain ⟨k, hk, rfl, hall⟩ := hrel
      by_cases hlt : k < n
      · have hkl : k < l.length := by have := HL.out; omega
        obtain ⟨hog, hgl⟩ := HO.out (by omega)
        subst hog
        have a2 : w1.cell? ⟨g, k, none⟩ = some (.int .i64 (l.getD k 0)) := by rw [HB.out.cell (p := ⟨g, k, none⟩) hgl]; exact HC.out k hlt
        have HA := Lib.hid (all_take6 (f := fun x => inB x 0 (p - 1)) hkl)
        have HFA := Lib.hid (fun h : inB (l.getD k 0) 0 (p - 1) = false => (show chkC p l = 2 by
          rw [chkC, hs, show resB p l = false from all_false hkl h]; rfl))
        have HTR := Lib.hid (fun h : inB (l.getD k 0) 0 (p - 1) = true => (show resB p (l.take (k + 1)) = true by
          unfold resB at hall ⊢; rw [HA.out, hall]; simpa using h))
        have hkn : (k : Int) < (n : Int) := by omega
        generalize l.getD k 0 = x at *
        clear hkl hall hgl HA
        by_cases hx0 : x < 0
        · have HP := Lib.hid (HFA.out (inB_f (.inl hx0)))
          go_wp2_with fail
          go_ret
          rw [HP.out]; exact ⟨rfl, HB.out⟩
        · by_cases hx1 : p ≤ x
          · have HP := Lib.hid (HFA.out (inB_f (.inr (by omega))))
            go_wp2_with fail
            go_ret
            rw [HP.out]; exact ⟨rfl, HB.out⟩
          · have HP := Lib.hid (HTR.out (inB_t (by omega) (by omega)))
            go_wp2_with fail
            exact ⟨⟨k + 1, by omega, by go_num, HP.out⟩, by simp [intOf]; omega⟩
      · have hkn : k = n := by omega
        rw [hkn, HL.out, List.take_of_length_le (Nat.le_refl _)] at hall
        have HP := Lib.hid (show chkC p l = 0 by simp [chkC, hs, hall])
        clear hlt hall
        subst hkn
        go_wp2_with fail
        go_ret
        rw [HP.out]; exact ⟨rfl, HB.out⟩
theorem modB_can (p : Int) (f : List Int) : modB p f = (canB f && (chkC p f == 0)) := by
  rw [modB_eq]
  unfold canB chkC
  cases smallB p <;> cases resB p f <;> cases lastB f <;> cases decide (f.length ≤ 9) <;> rfl
def okC (p : Int) (f : List Int) : Int := if modB p f then 0 else 1
def okC2 (p : Int) (f g : List Int) : Int := if twoM p f g then 0 else 1
theorem red_step {p : Int} {l : List Int} {n k : Nat} (hk : k < n) : (tabL n fun i => if i < k then l.getD i 0 % p else 0).set k (l.getD k 0 % p) = tabL n fun i => if i < k + 1 then l.getD i 0 % p else 0 := by
  rw [tab_set _ hk]
  refine tabL_ext fun i hi => ?_
  by_cases e : i = k
  · rw [if_pos e, if_pos (by omega), e]
  · rw [if_neg e]
    by_cases h2 : i < k
    · rw [if_pos h2, if_pos (by omega)]
    · rw [if_neg h2, if_neg (by omega)]
set_option maxHeartbeats 2000000 in
theorem reduced_any (p : Int) (hs : smallB p = true) {o : Option Addr} {n c : Nat} {l : List Int} {w : World} (h : Seen w o n c l) (hn9 : n ≤ 1000) :
    Calls Try.prog 98 #[R1 p, .slice o n c] w (OwnPost (redL p l) w) := by
  obtain ⟨p2, p97⟩ := smallB_bd hs
  obtain ⟨hl, hn, hno, hnc, g, h1, h2⟩ := h
  obtain ⟨i0, hi, hz0, hz1, hz2⟩ := info_parts Try.infoInt64
  have HI := Lib.hid hi
  have HZ0 := Lib.hid hz0
  have HZ1 := Lib.hid hz1
  have HZ2 := Lib.hid hz2
  have HO := Lib.hid h1
  have HL := Lib.hid hl
  have HC := Lib.hid h2
  have HM := Lib.hid fun w => modulus8_any p hs w
  clear hi hz0 hz1 hz2 h1 h2 hl hno hnc hs
  go_enter Try.func98, Try.ntmps98
  go_wp2_with fail
  refine (HM.out _).mono ?_
  rintro e w1 ⟨rfl, hb⟩
  have hb1 := box8 hb
  have HB1 := Lib.hid hb1
  have hbs := hb1.size
  clear hb HM hb1
  go_upto_region 2 with fail
  go_wp2_with (at_make; refine wpList_make_full _ rfl (.tmp 12) (.tmp 12) 26 rfl w1.heap.size 2 i0 (.int .i64 0) 1 Try.underlying26 HI.out HZ0.out HZ1.out .i64 .i64 _ _ n rfl rfl rfl rfl (by rw [HZ2.out]; omega) (by unfold maxLen; omega) (Nat.le_refl _) ?_; intro w2 hown hgrow)
  have HB2 := Lib.hid (HB1.out.grown hgrow hbs (fun k h => by cases h))
  have HR2 := Lib.hid (show IntRow w1.heap.size w2 (.slice (some ⟨w1.heap.size, 0, none⟩) n n) (tabL n fun i => if i < 0 then l.getD i 0 % p else 0) from int_made hown)
  generalize w1.heap.size = Q at *
  clear hown hgrow HB1
  go_wp2_with fail
  go_loopw [16] (fun s wr => ∃ k : Nat, k ≤ n ∧ s = .int .i64 k ∧ IntRow Q wr (.slice (some ⟨Q, 0, none⟩) n n) (tabL n fun i => if i < k then l.getD i 0 % p else 0) ∧ Below w.heap.size w wr) (fun s _ => n - (intOf s).toNat)
  case atStart => exact ⟨0, Nat.zero_le _, rfl, HR2.out, HB2.out⟩
  case round =>
    obtain ⟨k, hk, rfl, hr, hb⟩ := hrel
    have HR := Lib.hid hr
    have HB := Lib.hid hb
    clear hr hb HR2 HB2
    by_cases hlt : k < n
    · obtain ⟨hog, hgl⟩ := HO.out (by omega)
      subst hog
      have a2 : wr.cell? ⟨g, k, none⟩ = some (.int .i64 (l.getD k 0)) := by rw [HB.out.cell (p := ⟨g, k, none⟩) hgl]; exact HC.out k hlt
      have hrl : (tabL n fun i => if i < k then l.getD i 0 % p else 0).length = n := tabL_length _ _
      have c2 := int_at HR.out hrl hlt
      have f2 := int_frozen HR.out hrl k
      have HE := Lib.hid (red_step (p := p) (l := l) hlt)
      have HR3 := Lib.hid (int_stored HR.out hrl k (l.getD k 0 % p))
      have HB3 := Lib.hid (HB.out.setCell (p := ⟨Q, k, none⟩) hbs (.int .i64 (l.getD k 0 % p)))
      rw [HE.out] at HR3
      have hkn : (k : Int) < (n : Int) := by omega
      obtain ⟨y0, hy0⟩ : ∃ y, (tabL n fun i => if i < k then l.getD i 0 % p else 0).getD k 0 = y := ⟨_, rfl⟩
      rw [hy0] at c2
      clear hgl HE HR HB hy0 hrl
      generalize l.getD k 0 = z at *
      go_wp2_with fail
      refine (remainder8_any z p wr p2 (by omega)).mono ?_
      rintro e w3 ⟨rfl, rfl⟩
      go_wp2_with fail
      exact ⟨⟨k + 1, by omega, by go_num, HR3.out, HB3.out⟩, by simp only [intOf]; omega⟩
    · have hkn : k = n := by omega
      have HT := Lib.hid (show trimL (tabL n fun i => if i < k then l.getD i 0 % p else 0) = redL p l by
        unfold redL
        rw [← HL.out]
        congr 1
        exact tabL_ext fun i hi => by rw [if_pos (by omega)])
      have hrl : (tabL n fun i => if i < k then l.getD i 0 % p else 0).length = n := tabL_length _ _
      have SR := Lib.hid (show Seen wr (some ⟨Q, 0, none⟩) n n (tabL n fun i => if i < k then l.getD i 0 % p else 0) by
        have h := row_seen (o := some ⟨Q, 0, none⟩) (n := (tabL n fun i => if i < k then l.getD i 0 % p else 0).length) (c := n) (by rw [hrl]; exact HR.out) (by rw [hrl]; omega)
        rw [hrl] at h; exact h)
      have HR3 := Lib.hid (intRow_lower (trim_row HR.out) hbs)
      rw [HT.out] at HR3
      generalize (tabL n fun i => if i < k then l.getD i 0 % p else 0) = rl at *
      clear HT hrl HR
      go_wp2_with fail
      refine (trimmed_any SR.out).mono ?_
      rintro e w3 ⟨rfl, rfl⟩
      go_wp2_with fail
      go_ret
      exact ⟨_, rfl, HR3.out, HB.out⟩
/-! products -/
set_option maxHeartbeats 4000000 in
theorem product_any (p : Int) (hs : smallB p = true) {o o' : Option Addr} {n n' c c' : Nat} {f g : List Int} {w : World} (h : Seen w o n c f) (h' : Seen w o' n' c' g) (hf : ModP p f) (hg : ModP p g) (hn9 : n ≤ 20) (hn9' : n' ≤ 20) :
    Calls Try.prog 113 #[R1 p, .slice o n c, .slice o' n' c'] w (OwnPost (prodL p f g) w) := by
  obtain ⟨p2, p97⟩ := smallB_bd hs
  obtain ⟨hl, hn, hno, hnc, a, h1, h2⟩ := h
  obtain ⟨hl', hn', hno', hnc', a', h1', h2'⟩ := h'
  obtain ⟨i0, hi, hz0, hz1, hz2⟩ := info_parts Try.infoInt64
  have HI := Lib.hid hi
  have HZ0 := Lib.hid hz0
  have HZ1 := Lib.hid hz1
  have HZ2 := Lib.hid hz2
  have HO := Lib.hid h1
  have HO' := Lib.hid h1'
  have HL := Lib.hid (And.intro hl hl')
  have HC := Lib.hid h2
  have HC' := Lib.hid h2'
  have HF := Lib.hid hf
  have HG := Lib.hid hg
  have hpz : (p == 0) = false := by simp; omega
  have HM := Lib.hid fun w => modulus8_any p hs w
  obtain ⟨N, hN⟩ : ∃ N, n + n' = N := ⟨_, rfl⟩
  have hN1 : (n : Int) + (n' : Int) = (N : Int) := by omega
  have HN := Lib.hid hN
  have hN17 : N ≤ 40 := by omega
  clear hi hz0 hz1 hz2 h1 h2 hl hno hnc h1' h2' hl' hno' hnc' hf hg hs hN
  go_enter Try.func113, Try.ntmps113
  go_wp2_with fail
  refine (HM.out _).mono ?_
  rintro e w1 ⟨rfl, hb⟩
  have hb1 := box8 hb
  have HB1 := Lib.hid hb1
  have hbs := hb1.size
  clear hb HM hb1
  go_upto_region 2 with fail
  go_wp2_with (at_make; refine wpList_make_full _ rfl (.tmp 19) (.tmp 19) 26 rfl w1.heap.size 2 i0 (.int .i64 0) 1 Try.underlying26 HI.out HZ0.out HZ1.out .i64 .i64 _ _ N rfl rfl rfl rfl (by rw [HZ2.out]; omega) (by unfold maxLen; omega) (Nat.le_refl _) ?_; intro w2 hown hgrow)
  have HB2 := Lib.hid (HB1.out.grown hgrow hbs (fun k h => by cases h))
  have HR2 := Lib.hid (show IntRow w1.heap.size w2 (.slice (some ⟨w1.heap.size, 0, none⟩) N N) (mulY p f g N 0 0) by rw [mulY_start]; exact int_made hown)
  generalize w1.heap.size = Q at *
  clear hown hgrow HB1 hN1
  go_wp2_with fail
  go_loopw [23] (fun s wr => ∃ i : Nat, i ≤ n ∧ s = .int .i64 i ∧ IntRow Q wr (.slice (some ⟨Q, 0, none⟩) N N) (mulY p f g N i 0) ∧ Below w.heap.size w wr) (fun s _ => n - (intOf s).toNat)
  case atStart => exact ⟨0, Nat.zero_le _, rfl, HR2.out, HB2.out⟩
  case round =>
    obtain ⟨i, hi, rfl, hr, hb⟩ := hrel
    have HR := Lib.hid hr
    have HB := Lib.hid hb
    clear hr hb HR2 HB2
    by_cases hlt : i < n
    · obtain ⟨hog, hgl⟩ := HO.out (by omega)
      subst hog
      have a2 : wr.cell? ⟨a, i, none⟩ = some (.int .i64 (f.getD i 0)) := by rw [HB.out.cell (p := ⟨a, i, none⟩) hgl]; exact HC.out i hlt
      have HX := Lib.hid (HF.out.rng i)
      have hin : (i : Int) < (n : Int) := by omega
      obtain ⟨x, hx⟩ : ∃ x, f.getD i 0 = x := ⟨_, rfl⟩
      rw [hx] at a2 HX
      have HFX := Lib.hid hx
      clear hgl hx
      go_wp2_with fail
      go_loopw [30] (fun s wr => ∃ k : Nat, k ≤ n' ∧ s = .int .i64 k ∧ IntRow Q wr (.slice (some ⟨Q, 0, none⟩) N N) (mulY p f g N i k) ∧ Below w.heap.size w wr) (fun s _ => n' - (intOf s).toNat)
      case atStart => exact ⟨0, Nat.zero_le _, rfl, HR.out, HB.out⟩
      case round =>
        obtain ⟨k, hk, rfl, hr, hb⟩ := hrel
        have HR2 := Lib.hid hr
        have HB2 := Lib.hid hb
        clear hr hb HR HB a2
        by_cases hltk : k < n'
        · obtain ⟨m, hm⟩ : ∃ m, i + k = m := ⟨_, rfl⟩
          have hmN : m < N := by have := HN.out; omega
          have hik : (i : Int) + (k : Int) = (m : Int) := by omega
          have hwm : IntKind.i64.wrap (m : Int) = (m : Int) := IntWalk.i64_in _ (by omega)
          obtain ⟨hog', hgl'⟩ := HO'.out (by omega)
          subst hog'
          have b2 : wr.cell? ⟨a', k, none⟩ = some (.int .i64 (g.getD k 0)) := by rw [HB2.out.cell (p := ⟨a', k, none⟩) hgl']; exact HC'.out k hltk
          have hsl := mulY_length p f g N i k
          have c4 := int_at HR2.out hsl hmN
          rw [mulY_at hmN] at c4
          have f4 := int_frozen HR2.out hsl m
          have HE := Lib.hid (mulY_step (p := p) (f := f) (g := g) hmN hm)
          have hs0 : 0 ≤ mulW f g i k m % p ∧ mulW f g i k m % p < p := ⟨Int.emod_nonneg _ (by omega), Int.emod_lt_of_pos _ (by omega)⟩
          have hpb := prod_small p97 HX.out (HG.out.rng k)
          rw [HFX.out] at HE
          obtain ⟨z, hzz⟩ : ∃ z, g.getD k 0 = z := ⟨_, rfl⟩
          obtain ⟨s, hs⟩ : ∃ s, mulW f g i k m % p = s := ⟨_, rfl⟩
          rw [hzz] at b2 HE hpb
          rw [hs] at c4 HE hs0
          have w1 : IntKind.i64.wrap (x * z) = x * z := IntWalk.i64_in _ (by omega)
          have w2 : IntKind.i64.wrap (s + x * z) = s + x * z := IntWalk.i64_in _ (by omega)
          have hnn : 0 ≤ s + x * z := by omega
          obtain ⟨E, hEE⟩ : ∃ E, (s + x * z) % p = E := ⟨_, rfl⟩
          have ht : (s + x * z).tmod p = E := by rw [tmod_nonneg hnn, hEE]
          have hE0 : 0 ≤ E ∧ E < p := by rw [← hEE]; exact ⟨Int.emod_nonneg _ (by omega), Int.emod_lt_of_pos _ (by omega)⟩
          have w3 : IntKind.i64.wrap E = E := IntWalk.i64_in _ (by omega)
          rw [hEE] at HE
          have HR3 := Lib.hid (int_stored HR2.out hsl m E)
          rw [HE.out] at HR3
          have HB3 := Lib.hid (HB2.out.setCell (p := ⟨Q, m, none⟩) hbs (.int .i64 E))
          have hkn' : (k : Int) < (n' : Int) := by omega
          have hmN' : (m : Int) < (N : Int) := by omega
          clear hgl' hsl hzz hs hpb hs0 hm HE HR2 HB2
          go_wp2_with fail
          exact ⟨⟨k + 1, by omega, by go_num, HR3.out, HB3.out⟩, by simp only [intOf]; omega⟩
        · have hkn : g.length ≤ k := by have := HL.out.2; omega
          have HR3 := Lib.hid (show IntRow Q wr (.slice (some ⟨Q, 0, none⟩) N N) (mulY p f g N (i + 1) 0) by rw [← mulY_row hkn]; exact HR2.out)
          clear HR2
          go_wp2_with fail
          exact ⟨⟨i + 1, by omega, by go_num, HR3.out, HB2.out⟩, by simp only [intOf]; omega⟩
    · have hin : i = f.length := by have := HL.out.1; omega
      have HT := Lib.hid (show trimL (mulY p f g N i 0) = prodL p f g by rw [hin]; exact mulY_end (by have := HN.out; have := HL.out; omega))
      have hrl := mulY_length p f g N i 0
      have SR := Lib.hid (show Seen wr (some ⟨Q, 0, none⟩) N N (mulY p f g N i 0) by
        have h := row_seen (o := some ⟨Q, 0, none⟩) (n := (mulY p f g N i 0).length) (c := N) (by rw [hrl]; exact HR.out) (by rw [hrl]; omega)
        rw [hrl] at h; exact h)
      have HR3 := Lib.hid (intRow_lower (trim_row HR.out) hbs)
      rw [HT.out] at HR3
      generalize mulY p f g N i 0 = rl at *
      clear HT hrl HR hin
      go_wp2_with fail
      refine (trimmed_any SR.out).mono ?_
      rintro e w3 ⟨rfl, rfl⟩
      go_wp2_with fail
      go_ret
      exact ⟨_, rfl, HR3.out, HB.out⟩
/-! derivatives -/
theorem der_step {f : List Int} {n k : Nat} (hk : k < n) : (tabL n fun i => if i < k then ((i : Int) + 1) * f.getD (i + 1) 0 else 0).set k (((k : Int) + 1) * f.getD (k + 1) 0) = tabL n fun i => if i < k + 1 then ((i : Int) + 1) * f.getD (i + 1) 0 else 0 := by
  rw [tab_set _ hk]
  refine tabL_ext fun i hi => ?_
  by_cases e : i = k
  · rw [if_pos e, if_pos (by omega), e]
  · rw [if_neg e]
    by_cases h2 : i < k
    · rw [if_pos h2, if_pos (by omega)]
    · rw [if_neg h2, if_neg (by omega)]
set_option maxHeartbeats 2000000 in
theorem derivative_any (p : Int) (hs : smallB p = true) {o : Option Addr} {n c : Nat} {f : List Int} {w : World} (h : Seen w o n c f) (hf : ModP p f) (hn9 : n ≤ 9) :
    Calls Try.prog 87 #[R1 p, .slice o n c] w (OwnPost (redL p (derL f)) w) := by
  obtain ⟨p2, p97⟩ := smallB_bd hs
  obtain ⟨hl, hn, hno, hnc, g, h1, h2⟩ := h
  obtain ⟨i0, hi, hz0, hz1, hz2⟩ := info_parts Try.infoInt64
  have HI := Lib.hid hi
  have HZ0 := Lib.hid hz0
  have HZ1 := Lib.hid hz1
  have HZ2 := Lib.hid hz2
  have HO := Lib.hid h1
  have HL := Lib.hid hl
  have HC := Lib.hid h2
  have HF := Lib.hid hf
  obtain ⟨d, hd⟩ : ∃ d, n - 1 = d := ⟨_, rfl⟩
  have hm0 : max ((n : Int) - 1) 0 = (d : Int) := by omega
  have HD := Lib.hid hd
  have hd8 : d ≤ 8 := by omega
  have HRED := Lib.hid fun (wx : World) (o' : Option Addr) (c' : Nat) (a : List Int) (hx : Seen wx o' d c' a) => reduced_any p hs hx (by omega)
  obtain ⟨W0, hW0⟩ : ∃ W0, w.alloc (.cells #[.int .i64 p, .int .i64 1] 25) = W0 := ⟨_, rfl⟩
  have HW0 := Lib.hid hW0
  have hb1 : Below w.heap.size w W0 := by rw [← hW0]; exact below_a8 _ _
  obtain ⟨Q, hQ⟩ : ∃ Q, W0.heap.size = Q := ⟨_, rfl⟩
  have hs0 : Q = w.heap.size + 1 := by rw [← hQ, ← hW0]; simp
  have HS0 := Lib.hid hs0
  have q0 : W0.cell? ⟨w.heap.size, 0, none⟩ = some (.int .i64 p) := by rw [← hW0]; exact World.cell?_alloc_new _ _ _ _ ▸ rfl
  have q1 : W0.cell? ⟨w.heap.size, 1, none⟩ = some (.int .i64 1) := by rw [← hW0]; exact World.cell?_alloc_new _ _ _ _ ▸ rfl
  have HQ := Lib.hid (And.intro q0 q1)
  have HB1 := Lib.hid hb1
  clear hi hz0 hz1 hz2 h1 h2 hl hno hnc hf hd hb1 q0 q1 hs0
  go_enter Try.func87, Try.ntmps87
  go_upto_region 1 with fail
  clear hW0
  go_wp2_with (at_make; refine wpList_make_full _ rfl (.tmp 10) (.tmp 10) 26 rfl W0.heap.size 2 i0 (.int .i64 0) 1 Try.underlying26 HI.out HZ0.out HZ1.out .i64 .i64 _ _ d rfl rfl rfl rfl (by rw [HZ2.out]; omega) (by unfold maxLen; omega) (Nat.le_refl _) ?_; intro w2 hown hgrow; rw [hQ] at hown)
  have HB2 := Lib.hid ((Below.refl W0.heap.size W0).grown hgrow (Nat.le_refl _) (fun k h => by cases h))
  have HR2 := Lib.hid (show IntRow Q w2 (.slice (some ⟨Q, 0, none⟩) d d) (tabL d fun i => if i < 0 then ((i : Int) + 1) * f.getD (i + 1) 0 else 0) by rw [← hQ] at hown ⊢; exact int_made hown)
  clear hown hgrow hm0
  rw [hQ] at HB2
  go_wp2_with fail
  go_loopw [14] (fun s wr => ∃ k : Nat, k ≤ d ∧ s = .int .i64 k ∧ IntRow Q wr (.slice (some ⟨Q, 0, none⟩) d d) (tabL d fun i => if i < k then ((i : Int) + 1) * f.getD (i + 1) 0 else 0) ∧ Below Q W0 wr) (fun s _ => d - (intOf s).toNat)
  case atStart => exact ⟨0, Nat.zero_le _, rfl, HR2.out, HB2.out⟩
  case round =>
    obtain ⟨k, hk, rfl, hr, hb⟩ := hrel
    have HR := Lib.hid hr
    have HB := Lib.hid hb
    clear hr hb HR2 HB2
    by_cases hlt : k < d
    · obtain ⟨m, hm⟩ : ∃ m, k + 1 = m := ⟨_, rfl⟩
      have hm1 : (k : Int) + 1 = (m : Int) := by omega
      have wm : IntKind.i64.wrap (m : Int) = (m : Int) := IntWalk.i64_in _ (by omega)
      have hmn : m < n := by have := HD.out; omega
      obtain ⟨hog, hgl⟩ := HO.out (by omega)
      subst hog
      have a2 : wr.cell? ⟨g, m, none⟩ = some (.int .i64 (f.getD m 0)) := by
        rw [HB.out.cell (p := ⟨g, m, none⟩) (by show g < Q; have := HS0.out; omega), HB1.out.cell (p := ⟨g, m, none⟩) hgl]; exact HC.out m hmn
      have hrl : (tabL d fun i => if i < k then ((i : Int) + 1) * f.getD (i + 1) 0 else 0).length = d := tabL_length _ _
      have c2 := int_at HR.out hrl hlt
      have f2 := int_frozen HR.out hrl k
      have HE := Lib.hid (der_step (f := f) hlt)
      rw [hm1, hm] at HE
      have hz := HF.out.rng m
      obtain ⟨z, hzz⟩ : ∃ z, f.getD m 0 = z := ⟨_, rfl⟩
      rw [hzz] at a2 HE hz
      have m1 : 0 ≤ (m : Int) * z ∧ (m : Int) * z ≤ 9409 := by
        have e1 := Int.mul_nonneg (show 0 ≤ (m : Int) by omega) hz.1
        have e2 := Int.mul_le_mul (show (m : Int) ≤ 97 by omega) (show z ≤ 97 by omega) hz.1 (by omega)
        omega
      have w1 : IntKind.i64.wrap ((m : Int) * z) = (m : Int) * z := IntWalk.i64_in _ (by omega)
      have HR3 := Lib.hid (int_stored HR.out hrl k ((m : Int) * z))
      rw [HE.out] at HR3
      have HB3 := Lib.hid (HB.out.setCell (p := ⟨Q, k, none⟩) (Nat.le_refl _) (.int .i64 ((m : Int) * z)))
      have hkd : (k : Int) < (d : Int) := by omega
      have hmn' : (m : Int) < (n : Int) := by omega
      obtain ⟨y0, hy0⟩ : ∃ y, (tabL d fun i => if i < k then ((i : Int) + 1) * f.getD (i + 1) 0 else 0).getD k 0 = y := ⟨_, rfl⟩
      rw [hy0] at c2
      have hmd : m ≤ d := by omega
      clear hgl HE HR HB hy0 hrl hzz hz m1 hm
      go_wp2_with fail
      exact ⟨⟨m, hmd, by first | rfl | go_num | (congr 1; omega), HR3.out, HB3.out⟩, by simp only [intOf]; omega⟩
    · have hkd : k = d := by omega
      have HT := Lib.hid (show (tabL d fun i => if i < k then ((i : Int) + 1) * f.getD (i + 1) 0 else 0) = derL f by
        unfold derL
        rw [← HL.out, show n - 1 = d from HD.out]
        exact tabL_ext fun i hi => by rw [if_pos (by omega)])
      have hrl : (derL f).length = d := by rw [derL, tabL_length, ← HL.out]; exact HD.out
      have HR3 := HR.out
      rw [HT.out] at HR3
      have SR := Lib.hid (show Seen wr (some ⟨Q, 0, none⟩) d d (derL f) by
        have h := row_seen (o := some ⟨Q, 0, none⟩) (n := (derL f).length) (c := d) (by rw [hrl]; exact HR3) (by rw [hrl]; omega)
        rw [hrl] at h; exact h)
      have c0 : wr.cell? ⟨w.heap.size, 0, none⟩ = some (.int .i64 p) := by rw [HB.out.cell (p := ⟨w.heap.size, 0, none⟩) (by show w.heap.size < Q; have := HS0.out; omega)]; exact HQ.out.1
      have c1 : wr.cell? ⟨w.heap.size, 1, none⟩ = some (.int .i64 1) := by rw [HB.out.cell (p := ⟨w.heap.size, 1, none⟩) (by show w.heap.size < Q; have := HS0.out; omega)]; exact HQ.out.2
      have HB4 := Lib.hid (HB1.out.trans (HB.out.mono (by have := HS0.out; omega)))
      clear HT hrl HR HR3 hkd
      generalize derL f = dl at *
      go_wp2_with fail
      refine (HRED.out _ _ _ _ SR.out).mono ?_
      rintro e w3 ⟨v, rfl, hr3, hb3⟩
      have HR5 := Lib.hid (intRow_lower hr3 HB4.out.size)
      have HB5 := Lib.hid (HB4.out.trans (hb3.mono HB4.out.size))
      clear hr3 hb3 HRED
      go_wp2_with fail
      go_ret
      exact ⟨_, rfl, HR5.out, HB5.out⟩
end Go.Proofs.Ytckpeoadglkbgaa
namespace Go.Proofs.Ytckpeoadglkbgaa
open Go.RowKit
set_option linter.unusedVariables false
variable {F : Fence} {n : Nat} {P : Program} {α : Type}
/-- the call of an iterator value, at the yield of any loop l, for any two invariants that abide the iterator's own steps -/
def SeqBb (F : Fence) (n : Nat) (P : Program) (g : Nat) (ba lb : Array Value) (encs : α → Array Value) (St Fr : World → World → Prop) (S Sp : List α → Prop) (Start : World → Prop) : Prop :=
  ∀ (l : Nat) (J Jx : List α → World → Prop) (W : World), Start W →
    (∀ s A B, J s A → St A B → J s B) → (∀ s A B, Jx s A → St A B → Jx s B) → J [] W →
    (∀ pre x A, Sp (pre ++ [x]) → J pre A → YieldAt F (n - 1) P l (encs x) A fun e B => (e = .returned (.bool true) ∧ J (pre ++ [x]) B ∧ Fr A B) ∨ (e = .returned (.bool false) ∧ Jx (pre ++ [x]) B)) →
    CallsIn F n P g (ba ++ #[.func (.yield l) #[] #[]] ++ lb) W fun e B => ∃ v, e = .returned v ∧ ((∃ xs, S xs ∧ J xs B) ∨ ∃ pre, Sp pre ∧ Jx pre B)
/-- how a body may be left -/
def LeftBb (Fr : World → World → Prop) (I Ix : List α → World → Prop) (xs : List α) (W : World) : Exit → Act → World → Prop
  | .normal, _, B => KeepsOthers W B ∧ Fr W B ∧ I xs B
  | .ret, _, B => KeepsOthers W B ∧ Ix xs B
  | _, _, _ => False
/-- the loop's record and the block for deferred calls stand in W -/
def StandsB (K : Nat) (r : Loop) (W : World) : Prop := W.heap[K + 1]? = some (.loop r) ∧ W.heap[K]? = some (.deferred (some []))
theorem StandsB.put {K : Nat} {r r' : Loop} {W : World} (h : StandsB K r W) : StandsB K r' (W.putObj (K + 1) (.loop r')) :=
  ⟨World.putObj_heap_same (Array.getElem?_eq_some_iff.1 h.1).1, (World.putObj_heap_other (by omega)).trans h.2⟩
theorem StandsB.keeps {K : Nat} {r : Loop} {W B : World} (h : StandsB K r W) (hk : KeepsOthers W B) : StandsB K r B := ⟨hk.same _ _ h.1 rfl, hk.same _ _ h.2 rfl⟩
theorem wpIn_rangeBb {g : Operand} {ps : Array Tmp} {assign body : Code} {Q : Exit → Act → World → Prop} {a : Act} {w : World}
    (hro : F.round = none) (h1 : 1 ≤ n) {gf : Nat} {ba lb : Array Value} (hg : a.eval g = .func (.func gf) ba lb) (hFg : F.fn gf) (eg : ∀ args w, (callFunc gf args).run P w = .ok (.enter gf args) w)
    {encs : α → Array Value} {St Fr : World → World → Prop} {S Sp : List α → Prop} {Start : World → Prop} (hseq : SeqBb F (n - 1) P gf ba lb encs St Fr S Sp Start) (hps : ∀ x, (encs x).size = ps.size)
    (I Ix : List α → World → Prop) (a₁ : α → Act)
    (hIp : ∀ s W k o o', I s W → w.heap.size ≤ k → W.heap[k]? = some o → o.isCells = false → I s (W.putObj k o'))
    (hXp : ∀ s W k o o', Ix s W → w.heap.size ≤ k → W.heap[k]? = some o → o.isCells = false → Ix s (W.putObj k o'))
    (hFp : ∀ A W k o o', Fr A W → w.heap.size ≤ k → W.heap[k]? = some o → o.isCells = false → Fr A (W.putObj k o'))
    (hFq : ∀ W k o o', w.heap.size ≤ k → W.heap[k]? = some o → o.isCells = false → Fr W (W.putObj k o')) (hFt : ∀ {A B C : World}, Fr A B → Fr B C → Fr A C)
    (hIs : ∀ s A B, I s A → St A B → I s B) (hXs : ∀ s A B, Ix s A → St A B → Ix s B) (hSk : ∀ A B k o, St A B → w.heap.size ≤ k → A.heap[k]? = some o → o.isCells = false → B.heap[k]? = some o)
    (h0 : ∀ o o', I [] ((w.alloc o).alloc o')) (hS0 : ∀ o o', Start ((w.alloc o).alloc o'))
    (hassign : ∀ (l : Nat) (x : α) (W : World) (K : Act → World → Prop), K (a₁ x) W →
      assign.wpIn (F.inRound l) (n - 1 - 1) P (Exit.then K (fun _ _ _ => False)) { tmps := (ps.zip (encs x)).foldl (fun t (p, v) => t.setIfInBounds p v) a.tmps, defers := [] } W)
    (hbody : ∀ (l : Nat) (pre : List α) (x : α) (W : World), Sp (pre ++ [x]) → I pre W → body.wpIn (F.inRound l) (n - 1 - 1) P (LeftBb Fr I Ix (pre ++ [x]) W) (a₁ x) W)
    (hdone : ∀ (D : Nat) (xs : List α) (W : World), w.heap.size ≤ D → S xs → I xs W → W.heap[D]? = some (.deferred (some [])) → Q .normal { a with defers := { target := .collected D, args := #[] } :: a.defers } W)
    (hstop : ∀ (D : Nat) (pre : List α) (W : World), w.heap.size ≤ D → Sp pre → Ix pre W → W.heap[D]? = some (.deferred (some [])) → Code.ret.wpIn F n P Q { a with defers := { target := .collected D, args := #[] } :: a.defers } W) :
    (Code.rangeFunc g ps assign body).wpIn F n P Q a w := by
  refine wpIn_rangeFunc fun fn hfn => ?_
  rw [hro]
  let mk : LoopState → Option Code → Loop := fun st pe => { state := st, pending := pe, fn, tmps := a.tmps, params := ps, assign, body, defers := w.heap.size }
  refine ⟨w.heap.size + 1, [{ target := .collected w.heap.size, args := #[] }], (w.alloc (.deferred (some []))).alloc (.loop (mk .ready none)), { target := .fn (.func gf) lb, args := ba ++ #[.func (.yield (w.heap.size + 1)) #[] #[]] },
    (w.alloc (.deferred (some []))).alloc (.loop (mk .ready none)), gf, ba ++ #[.func (.yield (w.heap.size + 1)) #[] #[]] ++ lb, (w.alloc (.deferred (some []))).alloc (.loop (mk .ready none)),
    run_enterLoop_outer _ _ _ _ _, ?_, ?_, ?_, fun _ => h1, ?_⟩
  · simp only [resolve, hg]
    simp [go_sem]
  · intro f' hf'; simp [Target.leads] at hf'; subst hf'; exact hFg
  · simp [invoke, go_sem, eg]
  have st0 : StandsB w.heap.size (mk .ready none) ((w.alloc (.deferred (some []))).alloc (.loop (mk .ready none))) := by
    refine ⟨?_, ?_⟩
    · have := World.alloc_heap_new (w.alloc (.deferred (some []))) (.loop (mk .ready none)); rwa [World.size_alloc] at this
    · exact (Below.heap_alloc _ _ _ (by simp)).trans (World.alloc_heap_new w _)
  have stS : ∀ r A B, StandsB w.heap.size r A → St A B → StandsB w.heap.size r B := fun r A B h hs => ⟨hSk A B _ _ hs (by omega) h.1 rfl, hSk A B _ _ hs (by omega) h.2 rfl⟩
  refine (hseq (w.heap.size + 1) (fun s W => I s W ∧ StandsB w.heap.size (mk .ready none) W) (fun s W => Ix s W ∧ StandsB w.heap.size (mk .done (some .ret)) W) _ (hS0 _ _)
    (fun s A B h hs => ⟨hIs s A B h.1 hs, stS _ A B h.2 hs⟩) (fun s A B h hs => ⟨hXs s A B h.1 hs, stS _ A B h.2 hs⟩) ⟨h0 _ _, st0⟩ ?_).mono ?_
  · rintro pre x W hsp ⟨hi, hst⟩
    refine ⟨fn, _, assign, body, run_yield (P := P) (args := encs x) hst.1 (hps x), roundIn_of_wpIn hfn (hassign _ x W _ ⟨_, run_beginRound hst.1 rfl, ?_⟩)⟩
    have hb2 : StandsB w.heap.size (mk .busy none) (W.putObj (w.heap.size + 1) (.loop (mk .busy none))) := hst.put
    refine wpIn_mono (hbody _ pre x _ hsp (hIp _ _ _ _ _ hi (by omega) hst.1 rfl)) ?_
    rintro e a3 W3 hp
    cases e with
    | normal =>
      obtain ⟨hk, hf, hi3⟩ := hp
      have hs3 := hb2.keeps hk
      exact ⟨_, _, run_endRound (P := P) none hs3.1, .inl ⟨rfl, ⟨hIp _ _ _ _ _ hi3 (by omega) hs3.1 rfl, hs3.put⟩, hFp _ _ _ _ _ (hFt (hFq _ _ _ _ (by omega) hst.1 rfl) hf) (by omega) hs3.1 rfl⟩⟩
    | ret =>
      obtain ⟨hk, hi3⟩ := hp
      have hs3 := hb2.keeps hk
      exact ⟨_, _, run_endRound (P := P) (some .ret) hs3.1, .inr ⟨rfl, hXp _ _ _ _ _ hi3 (by omega) hs3.1 rfl, hs3.put⟩⟩
    | exit id => exact hp.elim
    | goto t => exact hp.elim
    | panic ch => exact hp.elim
    | outgrown => exact hp.elim
  · rintro e W2 ⟨v, rfl, (⟨xs, hS, hi, hst⟩ | ⟨pre, hSp, hi, hst⟩)⟩
    · exact ⟨none, _, run_endLoop (P := P) hst.1 (by simp [mk]), hdone _ xs _ (Nat.le_refl _) hS (hIp _ _ _ _ _ hi (by omega) hst.1 rfl) ((World.putObj_heap_other (by omega)).trans hst.2)⟩
    · exact ⟨some .ret, _, run_endLoop (P := P) hst.1 (by simp [mk]), hstop _ pre _ (Nat.le_refl _) hSp (hXp _ _ _ _ _ hi (by omega) hst.1 rfl) ((World.putObj_heap_other (by omega)).trans hst.2)⟩
end Go.Proofs.Ytckpeoadglkbgaa
namespace Go.Proofs.Ytckpeoadglkbgaa
open Go
set_option linter.unusedVariables false
section
variable {P : Program} {ops : Array Oper} {md : Region.Mode} {w : World} {l n : Nat}
theorem still_wpIn {o : Oper} {a : Act} {K : Act → Prop} {K' : Act → World → Prop} {Q' : Exit → Act → World → Prop} (hd : ∀ c, o.op ≠ .defer c) (h : ∀ a, K a → K' a w) (hh : o.still P a w K) : o.wpIn (Fence.wide.inRound l) n P a w K' Q' := by
  refine ⟨fun f _ => trivial, ?_⟩
  rw [Oper.semAt_eq _ _ _ hd]
  unfold Oper.still at hh
  generalize (execOp a.eval o).run P w = r at *
  cases r with
  | ok x w' =>
    cases x <;> simp only [Oper.stillUpon] at hh <;> simp only [Oper.uponIn]
    case enter f args =>
      obtain ⟨rfl, v, hc, hn⟩ := hh
      refine ⟨fun h => absurd h (by simp [Fence.wide, Fence.inRound]), ?_⟩
      exact (CallsIn.inRound l (callsIn_wide.2 hc)).mono fun e w'' ⟨he, hw⟩ => by subst he; subst hw; exact h _ hn
    all_goals (obtain ⟨rfl, h2⟩ := hh; exact h _ h2)
  | halt x w' => simp only [Oper.stillUpon] at hh
theorem stOp_wpIn {i : Nat} {a : Act} {K : Act → Prop} {K' : Act → World → Prop} {Q' : Exit → Act → World → Prop} (hd : ∀ (i : Nat) o, ops[i]? = some o → ∀ c, o.op ≠ .defer c) (h : ∀ a, K a → K' a w) (hh : stOp P ops w i K a) : wpOpIn (Fence.wide.inRound l) n P ops Q' i K' a w := by
  unfold stOp at hh
  unfold wpOpIn
  split
  · rename_i ho; simp only [ho] at hh; exact h _ hh
  · rename_i o ho
    simp only [ho] at hh
    split
    · rename_i hw; simp only [hw, if_true] at hh; exact still_wpIn (hd i o ho) h hh
    · rename_i hw; simp only [hw] at hh; exact ⟨fun f _ => trivial, h _ hh⟩
theorem wpAnyIn_of_head {m g : Nat} {L : Array Bool → Act → Prop} {Q' : Exit → Act → World → Prop} (hd : ∀ (i : Nat) o, ops[i]? = some o → ∀ c, o.op ≠ .defer c) (hL : ∀ listed a, L listed a → wpAnyIn (Fence.wide.inRound l) n P md ops Q' g listed a w) :
    ∀ (f : Nat) (listed : Array Bool) (a : Act), wpAnyL P md ops w m L f listed a → wpAnyIn (Fence.wide.inRound l) n P md ops Q' (f + g) listed a w
  | 0, listed, a, h => by rw [Nat.zero_add]; exact hL _ _ h
  | f + 1, listed, a, h => by
    rw [show f + 1 + g = (f + g) + 1 by omega]
    exact ⟨fun h0 => absurd h0 h.1, fun i hi => stOp_wpIn hd (fun a' h' => wpAnyIn_of_head hd hL f _ a' h') (h.2 i hi).2⟩
theorem wpAnyIn_of_seq {F : Fence} {Q' : Exit → Act → World → Prop} : ∀ (xs : List Oper) (k : Nat) (listed : Array Bool) (a : Act) (w : World), (∀ j, xs[j]? = ops[k + j]?) →
    Region.seqB md ops xs.length k listed = true → wpListIn F n P ops Q' xs a w → wpAnyIn F n P md ops Q' xs.length listed a w
  | [], _, _, _, _, _, hB, h => ⟨by simpa [Region.seqB] using hB, h⟩
  | o :: xs, k, listed, a, w, hl, hB, h => by
    have h0 : ops[k]? = some o := by simpa using (hl 0).symm
    simp only [List.length_cons, Region.seqB, Bool.and_eq_true, decide_eq_true_eq] at hB
    refine ⟨fun h1 => (by rw [hB.1] at h1; cases h1), fun i hi => ?_⟩
    rw [hB.1] at hi
    have hik : i = k := by simpa using hi
    subst hik
    have hw : wpOpIn F n P ops Q' i (wpListIn F n P ops Q' xs) a w := by unfold wpOpIn; simp only [h0]; exact h
    exact wpOpIn_mono (fun a' w' h' => wpAnyIn_of_seq xs (i + 1) _ a' w' (fun j => by have := hl (j + 1); simpa [Nat.add_assoc, Nat.add_comm 1 j] using this) hB.2 h') hw
def noDefer (ops : Array Oper) : Bool := ops.all fun o => match o.op with | .defer _ => false | _ => true
theorem noDefer_spec (h : noDefer ops = true) (i : Nat) (o : Oper) (ho : ops[i]? = some o) (c : _) : o.op ≠ .defer c := by
  intro e
  have h1 := Array.all_eq_true'.1 h o (Array.mem_of_getElem? ho)
  rw [e] at h1
  cases h1
theorem wpIn_region_still_tail {id : Nat} {Q : Exit → Act → World → Prop} {a : Act} {xs : List Oper} (m : Nat) (hm : P.follows .mixedOrders = true) (hB : Region.lexTailB .any xs.toArray m = true) (hd : noDefer xs.toArray = true)
    (h : wpStill P xs.toArray { w with drawn := w.drawn + 1 } (fun a' => wpListIn (Fence.wide.inRound l) n P xs.toArray Q (xs.drop m) a' { w with drawn := w.drawn + 1 }) (xs.take m) a) : (Code.region id xs.toArray true).wpIn (Fence.wide.inRound l) n P Q a w := by
  simp only [Region.lexTailB, Bool.and_eq_true, decide_eq_true_eq] at hB
  obtain ⟨⟨⟨⟨hsel, hn⟩, hs⟩, hc⟩, hlex⟩ := hB
  have hn' : m < xs.length := by simpa using hn
  have htl : (xs.take m).length = m := by simp; omega
  have hdl : (xs.drop m).length = xs.toArray.size - m := by simp
  have inv0 : HeadInv .any xs.toArray m (Array.replicate xs.toArray.size false) :=
    ⟨by simp, fun j oj _ hl => (by rw [getD_replicate_false] at hl; cases hl), fun t _ ht => getD_in (by simpa using ht) (getD_replicate_false _ _)⟩
  have H := wpAnyL_lex (md := .any) (g := xs.toArray.size - m) hsel hs hc hn (xs.take m) 0 _ a (fun j hj => by
    have hj' : j < m := by rw [htl] at hj; exact hj
    simp [hj']) (by simpa using htl) inv0 (by rw [htl]; exact hlex) h
  refine wpIn_region_any hm ?_
  have := wpAnyIn_of_head (l := l) (n := n) (Q' := Q) (g := xs.toArray.size - m) (noDefer_spec hd) (fun listed a' hL => by
    have := wpAnyIn_of_seq (F := Fence.wide.inRound l) (n := n) (md := .any) (Q' := Q) (xs.drop m) m listed a' { w with drawn := w.drawn + 1 } (fun j => by simp [List.getElem?_drop]) (by rw [hdl]; exact hL.1) hL.2
    rwa [hdl] at this) _ _ _ H
  rw [htl, show m + (xs.toArray.size - m) = xs.toArray.size by omega] at this
  exact this
end
end Go.Proofs.Ytckpeoadglkbgaa
namespace Go.Proofs.Ytckpeoadglkbgaa
open Go.RowKit Go.Shelf
attribute [local go_sem] Oper.semAt_some
set_option linter.unusedVariables false
set_option maxRecDepth 20000
set_option linter.unusedSimpArgs false
theorem boxed_put8 {W : World} {j k : Nat} {t : TypeId} {v : Value} {o o' : Obj} (h : Boxed W j t v) (hk : W.heap[k]? = some o) (ho : o.isCells = false) : Boxed (W.putObj k o') j t v := by
  have hne : j ≠ k := by
    rintro rfl
    have h' : W.heap[j]? = some (Obj.cells #[v] t (0, 0)) := h
    rw [h'] at hk; cases hk; cases ho
  exact (World.putObj_heap_other hne).trans h
theorem below_put8 {b k : Nat} {w W : World} {o' : Obj} (h : Below b w W) (hk : b ≤ k) : Below b w (W.putObj k o') :=
  ⟨h.os, h.tape, h.output, by have := h.size; simp [World.putObj]; omega, fun j hj => (World.putObj_heap_other (by omega)).trans (h.block j hj)⟩
theorem boxed_below8 {W w2 : World} {j : Nat} {t : TypeId} {v : Value} (h : Boxed W j t v) (hb : Below W.heap.size W w2) : Boxed w2 j t v := (hb.block j h.lt).trans h
theorem keeps_below8 {W w2 : World} (hb : Below W.heap.size W w2) : KeepsOthers W w2 :=
  ⟨hb.size, fun k o hk _ => (hb.block k (Array.getElem?_eq_some_iff.1 hk).1).trans hk⟩
theorem boxed_set8 {W : World} {j : Nat} {t : TypeId} {v : Value} (h : Boxed W j t v) {a : Addr} (ha : j ≠ a.block) (u : Value) : Boxed (W.setCell a u) j t v := by
  have e : (W.setCell a u).heap[j]? = W.heap[j]? := Below.heap_setCell _ _ _ _ ha
  exact e.trans h
/-- an iterator's own steps only add memory -/
abbrev StU8 (A B : World) : Prop := Below A.heap.size A B
theorem backward8_made (o : Option Addr) (n c : Nat) (w : World) :
    Calls Try.prog 91 #[.slice o n c] w fun e w' => e = .returned (.func (.func 109) #[] #[.pointer (some ⟨w.heap.size, 0, none⟩)]) ∧ w' = w.alloc (.cells #[.slice o n c] 26) := by
  go_enter Try.func91, Try.ntmps91
  go_wp2
  go_ret
  exact ⟨rfl, rfl⟩
/-- the indices from the end on -/
def bkI (n j : Nat) : List Nat := (List.range j).map fun i => n - 1 - i
theorem bkI_succ (n j : Nat) : bkI n (j + 1) = bkI n j ++ [n - 1 - j] := by
  unfold bkI; rw [List.range_succ, List.map_append]; rfl
theorem bkI_length (n j : Nat) : (bkI n j).length = j := by simp [bkI]
def Ints8 (g n : Nat) (W : World) : Prop := ∀ k, k < n → ∃ y, W.cell? ⟨g, k, none⟩ = some (.int .i64 y)
def BackN (g b n c : Nat) (W : World) : Prop := Boxed W b 26 (.slice (some ⟨g, 0, none⟩) n c) ∧ Ints8 g n W
/-- what a round keeps: the box of the list, and that integers stand in it -/
def FrN (g b n : Nat) (A B : World) : Prop := B.heap[b]? = A.heap[b]? ∧ (Ints8 g n A → Ints8 g n B)
theorem frN_refl {g b n : Nat} (A : World) : FrN g b n A A := ⟨rfl, id⟩
theorem frN_trans {g b n : Nat} {A B C : World} (h : FrN g b n A B) (k : FrN g b n B C) : FrN g b n A C := ⟨k.1.trans h.1, fun x => k.2 (h.2 x)⟩
theorem ints8_put {g n k : Nat} {W : World} {o o' : Obj} (h : Ints8 g n W) (hk : W.heap[k]? = some o) (ho : o.isCells = false) : Ints8 g n (W.putObj k o') := fun i hi => by
  obtain ⟨y, hy⟩ := h i hi
  refine ⟨y, ?_⟩
  have hne : g ≠ k := by
    rintro rfl
    unfold World.cell? at hy
    rw [show W.heap[(⟨g, i, none⟩ : Addr).block]? = some o from hk] at hy
    cases o <;> simp [Obj.isCells] at ho <;> simp at hy
  rw [World.cell?_of_block (w := W) (a := ⟨g, i, none⟩) (World.putObj_heap_other hne)]; exact hy
theorem frN_put {g b n k : Nat} {A W : World} {o o' : Obj} (h : FrN g b n A W) (hk : W.heap[k]? = some o) (ho : o.isCells = false) (hb : b ≠ k) : FrN g b n A (W.putObj k o') :=
  ⟨(World.putObj_heap_other hb).trans h.1, fun x => ints8_put (h.2 x) hk ho⟩
theorem frN_below {g b n : Nat} {A B : World} (h : Below A.heap.size A B) (hb : b < A.heap.size) (hg : g < A.heap.size) : FrN g b n A B :=
  ⟨h.block b hb, fun x i hi => by obtain ⟨y, hy⟩ := x i hi; exact ⟨y, by rw [h.cell (p := ⟨g, i, none⟩) hg]; exact hy⟩⟩
theorem frN_set {g b n : Nat} {A : World} {a : Addr} (x : Int) (ha : b ≠ a.block) : FrN g b n A (A.setCell a (.int .i64 x)) := by
  refine ⟨Below.heap_setCell _ _ _ _ ha, fun h i hi => ?_⟩
  obtain ⟨y, hy⟩ := h i hi
  by_cases e : a = ⟨g, i, none⟩
  · subst e; exact ⟨x, World.cell?_setCell_same _ _ _ hy⟩
  · exact ⟨y, by rw [World.cell?_setCell_other _ _ _ _ e]; exact hy⟩
theorem frN_drew {g b n : Nat} (A : World) : FrN g b n A A.drew := ⟨rfl, id⟩
theorem backN_kept {g b n c : Nat} {A B : World} (h : BackN g b n c A) (hf : FrN g b n A B) : BackN g b n c B := ⟨hf.1.trans h.1, hf.2 h.2⟩
set_option maxRecDepth 20000 in
set_option maxHeartbeats 1600000 in
theorem backIdx_by (n : Nat) (hn : 1 ≤ n) (g b N c : Nat) (hl : N ≤ 1100000) :
    SeqBb Fence.wide n Try.prog 109 #[] #[.pointer (some ⟨b, 0, none⟩)] (fun x : Nat × Int => #[.int .i64 x.1, .int .i64 x.2]) StU8 (FrN g b N) (fun xs => xs.map Prod.fst = bkI N N) (fun pre => ∃ j, j ≤ N ∧ pre.map Prod.fst = bkI N j) (BackN g b N c) := by
  intro lp J Jx W hW hJ hX h0 hY
  have HW := Lib.hid hW
  have H0 := Lib.hid h0
  have q0 := hW.1.cell
  clear hW h0
  show CallsIn Fence.wide n Try.prog 109 #[.func (.yield lp) #[] #[], .pointer (some ⟨b, 0, none⟩)] W _
  refine callsIn_of_wp Try.func109 rfl trivial ?_ rfl
  simp only [Try.ntmps109, List.size_toArray, List.length_cons, List.length_nil, Nat.reduceAdd, Nat.reduceSub, Array.replicate_succ, Array.replicate_zero, List.push_toArray, List.append_toArray, List.nil_append, List.cons_append]
  gi_wp2
  gi_loopw [3] (fun i wr => ∃ (j : Nat) (x : Int) (pre : List (Nat × Int)), j ≤ N ∧ i = .int .i64 x ∧ x = (N : Int) - 1 - j ∧ BackN g b N c wr ∧ pre.map Prod.fst = bkI N j ∧ J pre wr) (fun i wr => (intOf i + 1).toNat)
  case atStart => exact ⟨0, (N : Int) - 1, [], Nat.zero_le _, rfl, by omega, HW.out, rfl, H0.out⟩
  case round =>
    obtain ⟨j, x, pre, hj, rfl, hx, hb, hpre, hJj⟩ := hrel
    have q1 := hb.1.cell
    by_cases hlt : j < N
    · obtain ⟨m, hm⟩ : ∃ m : Nat, x = m := ⟨x.toNat, by omega⟩
      subst hm
      have hm2 : m = N - 1 - j := by omega
      have hml : m < N := by omega
      obtain ⟨y, q2⟩ := hb.2 m hml
      have hs : (pre ++ [(m, y)]).map Prod.fst = bkI N (j + 1) := by rw [bkI_succ, List.map_append, hpre, hm2]; rfl
      have HY := Lib.hid (hY pre (m, y) wr ⟨j + 1, by omega, hs⟩ hJj)
      have HS := Lib.hid hs
      have HB := Lib.hid hb
      have HXX := Lib.hid hx
      have hm0 : (m : Int) ≤ 1100000 := by omega
      have hge : (0 : Int) ≤ (m : Int) := by omega
      clear hs hb hJj hm2 hx hpre
      obtain ⟨fn, tmps, assign, body, hy, hR⟩ := HY.out
      clear HY
      simp only at hy
      gi_wp2
      refine hR.mono ?_
      rintro e W3 (⟨rfl, hJ3, hF3⟩ | ⟨rfl, hX3⟩)
      · have hb3 := backN_kept HB.out hF3
        have d0 := hb3.1.cell
        have HB3 := Lib.hid hb3
        clear hb3 q1 q2
        gi_wp2
        go_roundw
        case rel => exact ⟨j + 1, (m : Int) - 1, _, by omega, rfl, by have := HXX.out; omega, HB3.out, HS.out, hJ3⟩
        case measure => simp [intOf]
      · gi_wp2
        refine bodyPost_ret (results_none rfl _ _ _) rfl ?_
        exact ⟨_, rfl, .inr ⟨_, ⟨j + 1, by omega, HS.out⟩, hX3⟩⟩
    · have hjl : j = N := by omega
      have HK := Lib.hid hjl
      have HJ := Lib.hid hJj
      have HP := Lib.hid hpre
      have hx1 : x < 0 := by omega
      clear hjl hJj hb hpre
      gi_wp2
      go_end0
      have hPe := HP.out
      rw [HK.out] at hPe
      exact ⟨_, rfl, .inl ⟨_, hPe, HJ.out⟩⟩
/-! the list that stays -/
def bk8 (l : List Int) (j : Nat) : List (Nat × Int) := (List.range j).map fun (i : Nat) => (l.length - 1 - i, l.getD (l.length - 1 - i) 0)
theorem bk8_length (l : List Int) (j : Nat) : (bk8 l j).length = j := by simp [bk8]
theorem bk8_succ (l : List Int) (j : Nat) : bk8 l (j + 1) = bk8 l j ++ [(l.length - 1 - j, l.getD (l.length - 1 - j) 0)] := by
  unfold bk8; rw [List.range_succ, List.map_append]; rfl
theorem bk8_last {l : List Int} {pre : List (Nat × Int)} {x : Nat × Int} (h : ∃ j, j ≤ l.length ∧ pre ++ [x] = bk8 l j) : pre.length + 1 ≤ l.length ∧ x.2 = l.getD (l.length - 1 - pre.length) 0 := by
  obtain ⟨j, hj, e⟩ := h
  have hl := congrArg List.length e
  rw [bk8_length, List.length_append, List.length_singleton] at hl
  obtain ⟨k, rfl⟩ : ∃ k, j = k + 1 := ⟨j - 1, by omega⟩
  rw [bk8_succ] at e
  have e2 := List.append_inj_right' e rfl
  injection e2 with e3
  rw [e3, show k = pre.length by omega]
  exact ⟨by omega, rfl⟩
def Fr8 (g b : Nat) (A B : World) : Prop := ∀ k, k = g ∨ k = b → B.heap[k]? = A.heap[k]?
def BackAt8 (g b c : Nat) (l : List Int) (W : World) : Prop :=
  Boxed W b 26 (.slice (some ⟨g, 0, none⟩) l.length c) ∧ ∀ k, k < l.length → W.cell? ⟨g, k, none⟩ = some (.int .i64 (l.getD k 0))
theorem backAt8_kept {g b c : Nat} {l : List Int} {A B : World} (h : BackAt8 g b c l A) (hf : Fr8 g b A B) : BackAt8 g b c l B :=
  ⟨(hf b (.inr rfl)).trans h.1, fun k hk => by rw [World.cell?_of_block (w := A) (a := ⟨g, k, none⟩) (hf g (.inl rfl))]; exact h.2 k hk⟩
set_option maxRecDepth 20000 in
set_option maxHeartbeats 1600000 in
theorem backward8_by (n : Nat) (hn : 1 ≤ n) (g b c : Nat) (l : List Int) (hl : l.length ≤ 1100000) :
    SeqBb Fence.wide n Try.prog 109 #[] #[.pointer (some ⟨b, 0, none⟩)] (fun x : Nat × Int => #[.int .i64 x.1, .int .i64 x.2]) StU8 (Fr8 g b) (fun xs => xs = bk8 l l.length) (fun pre => ∃ j, j ≤ l.length ∧ pre = bk8 l j) (BackAt8 g b c l) := by
  intro lp J Jx W hW hJ hX h0 hY
  have HW := Lib.hid hW
  have H0 := Lib.hid h0
  have q0 := hW.1.cell
  clear hW h0
  show CallsIn Fence.wide n Try.prog 109 #[.func (.yield lp) #[] #[], .pointer (some ⟨b, 0, none⟩)] W _
  refine callsIn_of_wp Try.func109 rfl trivial ?_ rfl
  simp only [Try.ntmps109, List.size_toArray, List.length_cons, List.length_nil, Nat.reduceAdd, Nat.reduceSub, Array.replicate_succ, Array.replicate_zero, List.push_toArray, List.append_toArray, List.nil_append, List.cons_append]
  gi_wp2
  gi_loopw [3] (fun i wr => ∃ (j : Nat) (x : Int), j ≤ l.length ∧ i = .int .i64 x ∧ x = (l.length : Int) - 1 - j ∧ BackAt8 g b c l wr ∧ J (bk8 l j) wr) (fun i wr => (intOf i + 1).toNat)
  case atStart => exact ⟨0, (l.length : Int) - 1, Nat.zero_le _, rfl, by omega, HW.out, H0.out⟩
  case round =>
    obtain ⟨j, x, hj, rfl, hx, hb, hJj⟩ := hrel
    have q1 := hb.1.cell
    by_cases hlt : j < l.length
    · obtain ⟨m, hm⟩ : ∃ m : Nat, x = m := ⟨x.toNat, by omega⟩
      subst hm
      have hm2 : m = l.length - 1 - j := by omega
      have hml : m < l.length := by omega
      have q2 := hb.2 m hml
      obtain ⟨y, hy⟩ : ∃ y, l.getD m 0 = y := ⟨_, rfl⟩
      rw [hy] at q2
      have hs : bk8 l (j + 1) = bk8 l j ++ [(m, y)] := by rw [bk8_succ, ← hm2, hy]
      have HY := Lib.hid (hY (bk8 l j) (m, y) wr ⟨j + 1, by omega, hs.symm⟩ hJj)
      have HS := Lib.hid hs
      have HB := Lib.hid hb
      have HXX := Lib.hid hx
      have hm0 : (m : Int) ≤ 1100000 := by omega
      have hge : (0 : Int) ≤ (m : Int) := by omega
      clear hs hb hJj hy hm2 hx
      obtain ⟨fn, tmps, assign, body, hy, hR⟩ := HY.out
      clear HY
      simp only at hy
      gi_wp2
      refine hR.mono ?_
      rintro e W3 (⟨rfl, hJ3, hF3⟩ | ⟨rfl, hX3⟩)
      · have hb3 := backAt8_kept HB.out hF3
        have d0 := hb3.1.cell
        have HB3 := Lib.hid hb3
        clear hb3 q1 q2
        gi_wp2
        go_roundw
        case rel => exact ⟨j + 1, (m : Int) - 1, by omega, rfl, by have := HXX.out; omega, HB3.out, by rw [HS.out]; exact hJ3⟩
        case measure => simp [intOf]
      · gi_wp2
        refine bodyPost_ret (results_none rfl _ _ _) rfl ?_
        exact ⟨_, rfl, .inr ⟨_, ⟨j + 1, by omega, HS.out.symm⟩, hX3⟩⟩
    · have hjl : j = l.length := by omega
      have HK := Lib.hid hjl
      have HJ := Lib.hid hJj
      have hx1 : x < 0 := by omega
      clear hjl hJj hb
      gi_wp2
      go_end0
      have hJe := HJ.out
      rw [HK.out] at hJe
      exact ⟨_, rfl, .inl ⟨_, rfl, hJe⟩⟩
end Go.Proofs.Ytckpeoadglkbgaa
namespace Go.Proofs.Ytckpeoadglkbgaa
open Go.RowKit Go.Shelf
attribute [local go_sem] Oper.semAt_some
set_option linter.unusedVariables false
set_option linter.unusedSimpArgs false
set_option maxRecDepth 20000
/-- boxes of variables that lie -/
def Boxes (W : World) (L : List (Nat × TypeId × Value)) : Prop := ∀ x ∈ L, Boxed W x.1 x.2.1 x.2.2
theorem boxes_put {W : World} {L : List (Nat × TypeId × Value)} {k : Nat} {o o' : Obj} (h : Boxes W L) (hk : W.heap[k]? = some o) (ho : o.isCells = false) : Boxes (W.putObj k o') L := fun x hx => boxed_put8 (h x hx) hk ho
theorem boxes_below {W W' : World} {L : List (Nat × TypeId × Value)} (h : Boxes W L) (hb : Below W.heap.size W W') : Boxes W' L := fun x hx => boxed_below8 (h x hx) hb
theorem boxes_set {W : World} {L : List (Nat × TypeId × Value)} {a : Addr} (h : Boxes W L) (ha : ∀ x ∈ L, x.1 ≠ a.block) (u : Value) : Boxes (W.setCell a u) L := fun x hx => boxed_set8 (h x hx) (ha x hx) u
theorem boxes_drew {W : World} {L : List (Nat × TypeId × Value)} (h : Boxes W L) : Boxes W.drew L := h
theorem boxes_cons {W : World} {L : List (Nat × TypeId × Value)} {b : Nat} {T : TypeId} {v : Value} (h : Boxes W L) (hb : Boxed W b T v) : Boxes W ((b, T, v) :: L) := fun x hx => by
  rcases List.mem_cons.1 hx with rfl | hx
  · exact hb
  · exact h x hx
theorem boxes_grown {W W' : World} {L : List (Nat × TypeId × Value)} (h : Boxes W L) (hg : W.grownBy W' none) : Boxes W' L := fun x hx => (hg.block x.1 (h x hx).lt (by simp)).trans (h x hx)
theorem row_none8 {b n c : Nat} {o : Option Addr} {w w' : World} {l : List Int} (h : IntRow b w (.slice o n c) l) (hg : w.grownBy w' none) : IntRow b w' (.slice o n c) l :=
  World.ownsRow.kept h hg (by cases hv : (Value.slice o n c).ownBlock with | none => exact .inl rfl | some k => exact .inr (by simp))
theorem row_put8 {b : Nat} {w : World} {v : Value} {l : List Int} {k : Nat} {o o' : Obj} (h : IntRow b w v l) (hk : w.heap[k]? = some o) (ho : o.isCells = false) : IntRow b (w.putObj k o') v l := ownsRow_putObj h _ hk ho
/-- four cells stay where memory is added -/
theorem keep8_alloc {W3 W' : World} {x1 x2 x3 x4 : Addr} {v1 v2 v3 v4 : Value} (h : Below W3.heap.size W3 W' ∧ W'.cell? x1 = some v1 ∧ W'.cell? x2 = some v2 ∧ W'.cell? x3 = some v3 ∧ W'.cell? x4 = some v4) (o : Obj) :
    Below W3.heap.size W3 (W'.alloc o) ∧ (W'.alloc o).cell? x1 = some v1 ∧ (W'.alloc o).cell? x2 = some v2 ∧ (W'.alloc o).cell? x3 = some v3 ∧ (W'.alloc o).cell? x4 = some v4 := by
  obtain ⟨hb, h1, h2, h3, h4⟩ := h
  exact ⟨hb.alloc hb.size o, (World.cell?_alloc_lt _ _ _ (World.block_lt_of_cell? _ _ h1)).trans h1, (World.cell?_alloc_lt _ _ _ (World.block_lt_of_cell? _ _ h2)).trans h2, (World.cell?_alloc_lt _ _ _ (World.block_lt_of_cell? _ _ h3)).trans h3, (World.cell?_alloc_lt _ _ _ (World.block_lt_of_cell? _ _ h4)).trans h4⟩
theorem keep8_set {W3 W' : World} {q x1 x2 x3 x4 : Addr} {v1 v2 v3 v4 : Value} (h : Below W3.heap.size W3 W' ∧ W'.cell? x1 = some v1 ∧ W'.cell? x2 = some v2 ∧ W'.cell? x3 = some v3 ∧ W'.cell? x4 = some v4) (hq : W3.heap.size ≤ q.block) (l1 : x1.block < W3.heap.size) (l2 : x2.block < W3.heap.size) (l3 : x3.block < W3.heap.size) (l4 : x4.block < W3.heap.size) (u : Value) :
    Below W3.heap.size W3 (W'.setCell q u) ∧ (W'.setCell q u).cell? x1 = some v1 ∧ (W'.setCell q u).cell? x2 = some v2 ∧ (W'.setCell q u).cell? x3 = some v3 ∧ (W'.setCell q u).cell? x4 = some v4 := by
  obtain ⟨hb, h1, h2, h3, h4⟩ := h
  exact ⟨hb.setCell hq u, (World.cell?_setCell_other _ _ _ _ (by intro e; subst e; omega)).trans h1, (World.cell?_setCell_other _ _ _ _ (by intro e; subst e; omega)).trans h2, (World.cell?_setCell_other _ _ _ _ (by intro e; subst e; omega)).trans h3, (World.cell?_setCell_other _ _ _ _ (by intro e; subst e; omega)).trans h4⟩
theorem bkI_last {n : Nat} {pre : List (Nat × Int)} {x : Nat × Int} (h : ∃ j, j ≤ n ∧ (pre ++ [x]).map Prod.fst = bkI n j) : pre.length + 1 ≤ n ∧ x.1 + pre.length + 1 = n := by
  obtain ⟨j, hj, e⟩ := h
  have hl := congrArg List.length e
  rw [bkI_length, List.length_map, List.length_append, List.length_singleton] at hl
  obtain ⟨k, rfl⟩ : ∃ k, j = k + 1 := ⟨j - 1, by omega⟩
  rw [bkI_succ, List.map_append] at e
  have e2 := List.append_inj_right' e rfl
  injection e2 with e3
  have e4 : k = pre.length := by omega
  rw [← e4]
  exact ⟨by omega, by rw [e3]; omega⟩
/-- what holds at the head of each round of the division -/
def DvI (w : World) (L : List (Nat × TypeId × Value)) (b5 Q q : Nat) (p iv : Int) (f g : List Int) (o5 : Option Addr) (c5 : Nat) (pre : List (Nat × Int)) (W : World) : Prop :=
  Boxes W L ∧ IntRow b5 W (.slice o5 f.length c5) (tabL f.length (mdS p iv g (fun j => f.getD j 0) f.length pre.length)) ∧ IntRow Q W (.slice (some ⟨Q, 0, none⟩) q q) (qX p iv f g q pre.length) ∧ Below w.heap.size w W
theorem dvI_put {w W : World} {L : List (Nat × TypeId × Value)} {b5 Q q : Nat} {p iv : Int} {f g : List Int} {o5 : Option Addr} {c5 : Nat} {pre : List (Nat × Int)} {k : Nat} {o o' : Obj} (h : DvI w L b5 Q q p iv f g o5 c5 pre W) (hb : w.heap.size ≤ k) (hk : W.heap[k]? = some o) (ho : o.isCells = false) : DvI w L b5 Q q p iv f g o5 c5 pre (W.putObj k o') :=
  ⟨boxes_put h.1 hk ho, row_put8 h.2.1 hk ho, row_put8 h.2.2.1 hk ho, below_put8 h.2.2.2 hb⟩
theorem dvI_below {w A B : World} {L : List (Nat × TypeId × Value)} {b5 Q q : Nat} {p iv : Int} {f g : List Int} {o5 : Option Addr} {c5 : Nat} {pre : List (Nat × Int)} (h : DvI w L b5 Q q p iv f g o5 c5 pre A) (hs : StU8 A B) : DvI w L b5 Q q p iv f g o5 c5 pre B :=
  ⟨boxes_below h.1 hs, row_below h.2.1 hs (Nat.le_refl _), row_below h.2.2.1 hs (Nat.le_refl _), h.2.2.2.trans (hs.mono h.2.2.2.size)⟩
/-- all orders of a region come to the same -/
theorem wp_meet {P : Program} {c : Code} {Q : Exit → Act → World → Prop} {a : Act} {w : World} {T : Array Value} {W : World} (hr : c.wp P (fun e a' w' => e = .normal ∧ a' = { tmps := T, defers := [] } ∧ w' = W) a w) (hk : Q .normal { tmps := T, defers := [] } W) : c.wp P Q a w :=
  Code.wp_mono (fun e a' w' h => by obtain ⟨rfl, rfl, rfl⟩ := h; exact hk) hr
end Go.Proofs.Ytckpeoadglkbgaa
namespace Go.Proofs.Ytckpeoadglkbgaa
open Go.RowKit Go.Shelf
attribute [local go_sem] Oper.semAt_some
set_option linter.unusedVariables false
set_option linter.unusedSimpArgs false
set_option maxRecDepth 20000
/-- what holds at the head of each round of Horner's rule -/
def VaI (w : World) (L : List (Nat × TypeId × Value)) (bv : Nat) (p : Int) (f : List Int) (x : Int) (pre : List (Nat × Int)) (W : World) : Prop :=
  Boxes W L ∧ Boxed W bv 2 (.int .i64 (evM p f x pre.length)) ∧ Below w.heap.size w W
theorem vaI_put {w W : World} {L : List (Nat × TypeId × Value)} {bv k : Nat} {p x : Int} {f : List Int} {pre : List (Nat × Int)} {o o' : Obj} (h : VaI w L bv p f x pre W) (hb : w.heap.size ≤ k) (hk : W.heap[k]? = some o) (ho : o.isCells = false) : VaI w L bv p f x pre (W.putObj k o') :=
  ⟨boxes_put h.1 hk ho, boxed_put8 h.2.1 hk ho, below_put8 h.2.2 hb⟩
theorem vaI_below {w A B : World} {L : List (Nat × TypeId × Value)} {bv : Nat} {p x : Int} {f : List Int} {pre : List (Nat × Int)} (h : VaI w L bv p f x pre A) (hs : StU8 A B) : VaI w L bv p f x pre B :=
  ⟨boxes_below h.1 hs, boxed_below8 h.2.1 hs, h.2.2.trans (hs.mono h.2.2.size)⟩
theorem fr8_put {g b k : Nat} {A W : World} {o' : Obj} (h : Fr8 g b A W) (h1 : g < k) (h2 : b < k) : Fr8 g b A (W.putObj k o') := by
  intro j hj
  refine (World.putObj_heap_other ?_).trans (h j hj)
  rcases hj with rfl | rfl <;> omega
theorem fr8_trans {g b : Nat} {A B C : World} (h : Fr8 g b A B) (k : Fr8 g b B C) : Fr8 g b A C := fun j hj => (k j hj).trans (h j hj)
set_option maxHeartbeats 4000000 in
theorem valueAt_any (p x : Int) (hs : smallB p = true) (x0 : 0 ≤ x) (x1 : x < p) {o : Option Addr} {n c : Nat} {f : List Int} {w : World} (h : Seen w o n c f) (hf : ModP p f) (h0 : f.length ≠ 0) (hn9 : n ≤ 9) :
    Calls Try.prog 67 #[R1 p, .slice o n c, .int .i64 x] w fun e w' => e = .returned (.int .i64 (evM p f x f.length)) ∧ Below w.heap.size w w' := by
  obtain ⟨p2, p97, pp⟩ := small_prime hs
  obtain ⟨hl, hn, hno, hnc, g, h1, h2⟩ := h
  obtain ⟨rfl, hag⟩ := h1 (by omega)
  subst hl
  have HC := Lib.hid h2
  have HF := Lib.hid hf
  have HAG := Lib.hid hag
  have HM := Lib.hid fun w => modulus8_any p hs w
  have hn9' : (f.length : Int) ≤ 9 := by omega
  clear hno hnc h1 h2 hf hs hn hag
  refine (callsIn_wide (n := 4)).1 ?_
  refine callsIn_of_wp_marks Try.func67 rfl trivial ?_ rfl
  simp only [Try.ntmps67, List.size_toArray, List.length_cons, List.length_nil, Nat.reduceAdd, Nat.reduceSub, Array.replicate_succ, Array.replicate_zero, List.push_toArray, List.append_toArray, List.nil_append, List.cons_append]
  refine wpIn_wide.2 ?_
  have hbw := (below_a8 w (.cells #[.int .i64 p, .int .i64 1] 25)).alloc (by simp) (.cells #[.int .i64 x] 2)
  have hbx := Boxed.new (w.alloc (.cells #[.int .i64 p, .int .i64 1] 25)) 2 (.int .i64 x)
  rw [World.size_alloc] at hbx
  have HBW := Lib.hid hbw
  have HBX := Lib.hid hbx
  clear hbw hbx
  go_wp2_with fail
  refine (HM.out _).mono ?_
  rintro e w1 ⟨rfl, hb⟩
  have hb0 := HBW.out.trans (hb.mono HBW.out.size)
  have hx1 := boxed_below8 HBX.out hb
  obtain ⟨bx, hbx⟩ : ∃ bx, w.heap.size + 1 = bx := ⟨_, rfl⟩
  rw [hbx] at hx1
  have hxm : bx < w1.heap.size := hx1.lt
  obtain ⟨bm, hbm⟩ : ∃ bm, w1.heap.size = bm := ⟨_, rfl⟩
  have hbs := hb0.size
  have h2' := boxes_cons (boxes_cons (L := []) (by intro x hx; cases hx) (Boxed.new w1 2 (.int .i64 p))) (hx1.alloc (.cells #[.int .i64 p] 2))
  have h3 := boxes_below h2' (below_a8 (w1.alloc (.cells #[.int .i64 p] 2)) (.cells #[.int .i64 0] 2))
  have hv3 := Boxed.new (w1.alloc (.cells #[.int .i64 p] 2)) 2 (.int .i64 0)
  have h4 := boxes_below h3 (below_a8 ((w1.alloc (.cells #[.int .i64 p] 2)).alloc (.cells #[.int .i64 0] 2)) (.cells #[.slice (some ⟨g, 0, none⟩) f.length c] 26))
  have hv4 := hv3.alloc (.cells #[.slice (some ⟨g, 0, none⟩) f.length c] 26)
  have hk4 := Boxed.new ((w1.alloc (.cells #[.int .i64 p] 2)).alloc (.cells #[.int .i64 0] 2)) 26 (.slice (some ⟨g, 0, none⟩) f.length c)
  have hb4 := ((hb0.alloc hbs (.cells #[.int .i64 p] 2)).alloc (by simp; omega) (.cells #[.int .i64 0] 2)).alloc (by simp; omega) (.cells #[.slice (some ⟨g, 0, none⟩) f.length c] 26)
  rw [World.size_alloc, World.size_alloc, hbm] at hk4
  rw [World.size_alloc, hbm] at hv4
  rw [hbm] at h4 hxm hbs
  have HX := Lib.hid h4
  have HVB := Lib.hid hv4
  have HKB := Lib.hid hk4
  have HB := Lib.hid hb4
  have HSZ := Lib.hid (And.intro hxm hbs)
  rw [hbx]
  clear hb hb0 hx1 h2' h3 hv3 h4 hv4 hk4 hb4 HM hbx hxm hbs
  go_wp2_with fail
  refine (backward8_made _ _ _ _).mono ?_
  rintro e W8 ⟨rfl, rfl⟩
  go_wp2_with fail
  generalize ((w1.alloc (.cells #[.int .i64 p] 2)).alloc (.cells #[.int .i64 0] 2)).alloc (.cells #[.slice (some ⟨g, 0, none⟩) f.length c] 26) = W9 at *
  refine (wpIn_wide (n := 4)).1 ?_
  have hsz := HB.out.size
  have hkl : bm + 1 + 1 < W9.heap.size := HKB.out.lt
  have hgl := HAG.out
  have hzz := HSZ.out
  refine wpIn_rangeBb (F := Fence.wide) (n := 4) (P := Try.prog) (w := W9) rfl (by omega) (gf := 109) (ba := #[]) (lb := #[.pointer (some ⟨bm + 1 + 1, 0, none⟩)]) rfl trivial (enters_of Try.func109 (by kernel_rfl) rfl)
    (backward8_by 3 (by omega) g (bm + 1 + 1) c f (by omega)) (fun _ => rfl)
    (VaI w [(bx, 2, .int .i64 x), (bm, 2, .int .i64 p)] (bm + 1) p f x) (fun _ _ => False)
    (fun y => { tmps := #[R1 p, .slice (some ⟨g, 0, none⟩) f.length c, .int .i64 x, .pointer (some ⟨w.heap.size, 0, none⟩), undef, .pointer (some ⟨bx, 0, none⟩), .int .i64 0, .pointer (some ⟨bm, 0, none⟩), .pointer (some ⟨bm + 1, 0, none⟩), undef, .int .i64 y.2, .agg #[.int .i64 p, .int .i64 1], .int .i64 p, .slice (some ⟨g, 0, none⟩) f.length c, .func (.func 109) #[] #[.pointer (some ⟨bm + 1 + 1, 0, none⟩)], .int .i64 y.1, .int .i64 y.2, undef, undef, undef, undef, undef, undef, undef, undef], defers := [] })
    ?ip ?xp ?fp ?fq ?ft ?is ?xs ?sk ?h0 ?s0 ?assign ?body ?done ?stop
  case ip => intro pre W k o o' h hk ho hc; exact vaI_put h (by omega) ho hc
  case xp => intro _ _ _ _ _ h; exact h.elim
  case fp => intro A W k o o' hf hk ho hc; exact fr8_put hf (by omega) (by omega)
  case fq => intro W k o o' hk ho hc; exact fr8_put (fun _ _ => rfl) (by omega) (by omega)
  case ft => intro A B C h k; exact fr8_trans h k
  case is => intro pre A B h hs; exact vaI_below h hs
  case xs => intro _ _ _ h; exact h.elim
  case sk => intro A B k o hs hk ho hc; exact (hs.block k (Array.getElem?_eq_some_iff.1 ho).1).trans ho
  case h0 =>
    intro oo oo'
    have hbb : Below W9.heap.size W9 ((W9.alloc oo).alloc oo') := (below_a8 W9 oo).alloc (by simp) oo'
    exact ⟨boxes_below HX.out hbb, boxed_below8 HVB.out hbb, HB.out.trans (hbb.mono hsz)⟩
  case s0 =>
    intro oo oo'
    have hbb : Below W9.heap.size W9 ((W9.alloc oo).alloc oo') := (below_a8 W9 oo).alloc (by simp) oo'
    refine ⟨boxed_below8 HKB.out hbb, fun k hk => ?_⟩
    rw [hbb.cell (p := ⟨g, k, none⟩) (by show g < W9.heap.size; omega), HB.out.cell (p := ⟨g, k, none⟩) hgl]
    exact HC.out k hk
  case assign =>
    intro lp y W K hK
    gi_wp2
    exact hK
  case body =>
    rintro lp pre y W hsp ⟨hx, hv, hb⟩
    obtain ⟨hk, hy⟩ := bk8_last hsp
    have hh : evM p f x (pre ++ [y]).length = (evM p f x pre.length * x + y.2) % p := by rw [List.length_append, List.length_singleton, evM, hy]
    obtain ⟨a0, a1⟩ := evM_rng (p := p) (by omega) f x pre.length
    have hyr := HF.out.rng (f.length - 1 - pre.length)
    rw [← hy] at hyr
    have HH := Lib.hid hh
    have xx := (hx (bx, 2, .int .i64 x) (by simp)).cell
    have xm := (hx (bm, 2, .int .i64 p) (by simp)).cell
    have q2 := hv.cell
    have q2f := hv.frozen
    have hpb := prod_small p97 ⟨a0, a1⟩ ⟨x0, x1⟩
    obtain ⟨z, hz⟩ : ∃ z, y.2 = z := ⟨_, rfl⟩
    obtain ⟨h, hhe⟩ : ∃ h, evM p f x pre.length = h := ⟨_, rfl⟩
    rw [hz] at hyr ⊢
    rw [hhe] at q2 hpb a0 a1
    have HE := Lib.hid (show evM p f x (pre ++ [y]).length = (h * x + z) % p by rw [hh, hhe, hz])
    have hw1 : IntKind.i64.wrap (h * x) = h * x := IntWalk.i64_in _ (by omega)
    have hw2 : IntKind.i64.wrap (h * x + z) = h * x + z := IntWalk.i64_in _ (by omega)
    have hv2 := hv.set (.int .i64 ((h * x + z) % p))
    have hF : Fr8 g (bm + 1 + 1) W (W.setCell ⟨bm + 1, 0, none⟩ (.int .i64 ((h * x + z) % p))) := fun j hj => Below.heap_setCell _ _ _ _ (by show j ≠ bm + 1; rcases hj with rfl | rfl <;> omega)
    have hb2 := hb.setCell (p := ⟨bm + 1, 0, none⟩) (show w.heap.size ≤ bm + 1 by omega) (.int .i64 ((h * x + z) % p))
    have hx2 := boxes_set hx (a := ⟨bm + 1, 0, none⟩) (by
      intro u hu
      show u.1 ≠ bm + 1
      rcases List.mem_cons.1 hu with rfl | hu
      · show bx ≠ bm + 1; omega
      rcases List.mem_cons.1 hu with rfl | hu
      · show bm ≠ bm + 1; omega
      · cases hu) (.int .i64 ((h * x + z) % p))
    have HRES := Lib.hid (And.intro hv2 (And.intro hF (And.intro hb2 hx2)))
    clear hsp hh hy hz hhe hx hv hb hv2 hF hb2 hx2 hpb HH
    gi_wp2_with (refine ⟨trivial, ?_⟩; gi_at_call 88; refine (CallsIn.inRound lp (callsIn_wide.2 (remainder8_any _ p _ p2 (by omega)))).mono ?_; rintro e wn ⟨rfl, rfl⟩)
    obtain ⟨hv2, hF, hb2, hx2⟩ := HRES.out
    exact ⟨KeepsOthers.setCell _ _ _, hF, hx2, by rw [HE.out]; exact hv2, hb2⟩
  case done =>
    rintro D xs W hD rfl ⟨hx, hv, hb⟩ hK
    rw [bk8_length] at hv
    have q2 := hv.cell
    have HB9 := Lib.hid hb
    have HKD := Lib.hid hK
    have hDw : w.heap.size ≤ D := by omega
    obtain ⟨E, hE⟩ : ∃ E, evM p f x f.length = E := ⟨_, rfl⟩
    have HEE := Lib.hid hE
    rw [hE] at q2
    clear hx hv hb hK hE
    go_wp2_with fail
    refine ⟨by simp, .inl ⟨_, _, rfl, run_takeDeferred HKD.out, ?_⟩⟩
    refine ⟨.int .i64 E, by simp [results, Try.results67, go_sem], ?_⟩
    exact ⟨ret_int HEE.out.symm, below_put8 HB9.out hDw⟩
  case stop => intro _ _ _ _ _ h; exact h.elim
end Go.Proofs.Ytckpeoadglkbgaa
namespace Go.Proofs.Ytckpeoadglkbgaa
open Go.RowKit
set_option linter.unusedVariables false
set_option linter.unusedSimpArgs false
def BackAtO (o : Option Addr) (g b c : Nat) (l : List Int) (W : World) : Prop :=
  Boxed W b 26 (.slice o l.length c) ∧ ∀ k, k < l.length → W.cell? ⟨g, k, none⟩ = some (.int .i64 (l.getD k 0))
theorem backAtO_kept {o : Option Addr} {g b c : Nat} {l : List Int} {A B : World} (h : BackAtO o g b c l A) (hf : Fr8 g b A B) : BackAtO o g b c l B :=
  ⟨(hf b (.inr rfl)).trans h.1, fun k hk => by rw [World.cell?_of_block (w := A) (a := ⟨g, k, none⟩) (hf g (.inl rfl))]; exact h.2 k hk⟩
set_option maxRecDepth 20000 in
set_option maxHeartbeats 1600000 in
theorem backwardO_by (n : Nat) (hn : 1 ≤ n) (o : Option Addr) (g b c : Nat) (l : List Int) (ho : 0 < l.length → o = some ⟨g, 0, none⟩) (hl : l.length ≤ 1100000) :
    SeqBb Fence.wide n Try.prog 109 #[] #[.pointer (some ⟨b, 0, none⟩)] (fun x : Nat × Int => #[.int .i64 x.1, .int .i64 x.2]) StU8 (Fr8 g b) (fun xs => xs = bk8 l l.length) (fun pre => ∃ j, j ≤ l.length ∧ pre = bk8 l j) (BackAtO o g b c l) := by
  intro lp J Jx W hW hJ hX h0 hY
  have HW := Lib.hid hW
  have H0 := Lib.hid h0
  have q0 := hW.1.cell
  clear hW h0
  show CallsIn Fence.wide n Try.prog 109 #[.func (.yield lp) #[] #[], .pointer (some ⟨b, 0, none⟩)] W _
  refine callsIn_of_wp Try.func109 rfl trivial ?_ rfl
  simp only [Try.ntmps109, List.size_toArray, List.length_cons, List.length_nil, Nat.reduceAdd, Nat.reduceSub, Array.replicate_succ, Array.replicate_zero, List.push_toArray, List.append_toArray, List.nil_append, List.cons_append]
  gi_wp2
  gi_loopw [3] (fun i wr => ∃ (j : Nat) (x : Int), j ≤ l.length ∧ i = .int .i64 x ∧ x = (l.length : Int) - 1 - j ∧ BackAtO o g b c l wr ∧ J (bk8 l j) wr) (fun i wr => (intOf i + 1).toNat)
  case atStart => exact ⟨0, (l.length : Int) - 1, Nat.zero_le _, rfl, by omega, HW.out, H0.out⟩
  case round =>
    obtain ⟨j, x, hj, rfl, hx, hb, hJj⟩ := hrel
    have q1 := hb.1.cell
    by_cases hlt : j < l.length
    · have HO := Lib.hid (ho (by omega))
      rw [ho (by omega)] at q1
      obtain ⟨m, hm⟩ : ∃ m : Nat, x = m := ⟨x.toNat, by omega⟩
      subst hm
      have hm2 : m = l.length - 1 - j := by omega
      have hml : m < l.length := by omega
      have q2 := hb.2 m hml
      obtain ⟨y, hy⟩ : ∃ y, l.getD m 0 = y := ⟨_, rfl⟩
      rw [hy] at q2
      have hs : bk8 l (j + 1) = bk8 l j ++ [(m, y)] := by rw [bk8_succ, ← hm2, hy]
      have HY := Lib.hid (hY (bk8 l j) (m, y) wr ⟨j + 1, by omega, hs.symm⟩ hJj)
      have HS := Lib.hid hs
      have HB := Lib.hid hb
      have HXX := Lib.hid hx
      have hm0 : (m : Int) ≤ 1100000 := by omega
      have hge : (0 : Int) ≤ (m : Int) := by omega
      clear hs hb hJj hy hm2 hx
      obtain ⟨fn, tmps, assign, body, hy, hR⟩ := HY.out
      clear HY
      simp only at hy
      gi_wp2
      refine hR.mono ?_
      rintro e W3 (⟨rfl, hJ3, hF3⟩ | ⟨rfl, hX3⟩)
      · have hb3 := backAtO_kept HB.out hF3
        have d0 := hb3.1.cell
        rw [HO.out] at d0
        have HB3 := Lib.hid hb3
        clear hb3 q1 q2
        gi_wp2
        go_roundw
        case rel => exact ⟨j + 1, (m : Int) - 1, by omega, rfl, by have := HXX.out; omega, HB3.out, by rw [HS.out]; exact hJ3⟩
        case measure => simp [intOf]
      · gi_wp2
        refine bodyPost_ret (results_none rfl _ _ _) rfl ?_
        exact ⟨_, rfl, .inr ⟨_, ⟨j + 1, by omega, HS.out.symm⟩, hX3⟩⟩
    · have hjl : j = l.length := by omega
      have HK := Lib.hid hjl
      have HJ := Lib.hid hJj
      have hx1 : x < 0 := by omega
      clear hjl hJj hb
      gi_wp2
      go_end0
      have hJe := HJ.out
      rw [HK.out] at hJe
      exact ⟨_, rfl, .inl ⟨_, rfl, hJe⟩⟩
end Go.Proofs.Ytckpeoadglkbgaa
