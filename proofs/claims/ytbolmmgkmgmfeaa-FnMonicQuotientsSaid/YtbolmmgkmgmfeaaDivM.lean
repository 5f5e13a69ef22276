/- Plain mathematics of chapter 7: division by a monic polynomial, over nine places and over the list's own; with what wraps behind a coefficient that is not valid. -/
import Derived.Test.YtbolmmgkmgmfeaaMonic
import Derived.Test.YtbolmmgkmgmfeaaPolyImpl2
namespace Go.Proofs.Ytbolmmgkmgmfeaa
open Go.RowKit
set_option linter.unusedVariables false
set_option linter.unusedSimpArgs false
def monB (g : List Int) : Bool := !decide (g.length = 0) && (g.getD (g.length - 1) 0 == 1)
theorem monB_of {g : List Int} (h : monB g = true) : 1 ≤ g.length ∧ g.getD (g.length - 1) 0 = 1 := by
  simp only [monB, Bool.and_eq_true, Bool.not_eq_true', decide_eq_false_iff_not, beq_iff_eq] at h
  exact ⟨by omega, h.2⟩
def fnL (l : List Int) : Nat → Int := fun j => l.getD j 0
theorem subG_zero (r : Nat → Int) (g : List Int) (i : Nat) : subG r g 0 i = r := by
  funext j; unfold subG
  split <;> simp
theorem divS_stay {g : List Int} {r0 : Nat → Int} {N : Nat} (hN : N ≤ 9) (h0 : ∀ j, N ≤ j → r0 j = 0) : ∀ d, d ≤ 9 - N → divS g r0 9 d = r0
  | 0, _ => rfl
  | d + 1, h => by
    show subG (divS g r0 9 d) g (divS g r0 9 d (9 - 1 - d)) (9 - g.length - d) = r0
    rw [divS_stay hN h0 d (by omega), h0 (9 - 1 - d) (by omega), subG_zero]
theorem divS_move {g : List Int} {r0 : Nat → Int} {N : Nat} (hN : N ≤ 9) (hl : 1 ≤ g.length) (h0 : ∀ j, N ≤ j → r0 j = 0) : ∀ k, k + g.length ≤ N + 1 → divS g r0 9 (9 - N + k) = divS g r0 N k
  | 0, _ => divS_stay hN h0 (9 - N) (Nat.le_refl _)
  | k + 1, h => by
    show subG (divS g r0 9 (9 - N + k)) g (divS g r0 9 (9 - N + k) (9 - 1 - (9 - N + k))) (9 - g.length - (9 - N + k)) = subG (divS g r0 N k) g (divS g r0 N k (N - 1 - k)) (N - g.length - k)
    rw [divS_move hN hl h0 k (by omega), show 9 - 1 - (9 - N + k) = N - 1 - k by omega, show 9 - g.length - (9 - N + k) = N - g.length - k by omega]
theorem divC_stay {g : List Int} {r0 : Nat → Int} {N : Nat} (hN : N ≤ 9) (h0 : ∀ j, N ≤ j → r0 j = 0) {d : Nat} (hd : d < 9 - N) : divC g r0 9 d = 0 := by
  unfold divC
  rw [divS_stay hN h0 d (by omega)]; exact h0 _ (by omega)
theorem divC_move {g : List Int} {r0 : Nat → Int} {N : Nat} (hN : N ≤ 9) (hl : 1 ≤ g.length) (h0 : ∀ j, N ≤ j → r0 j = 0) {k : Nat} (hk : k + g.length ≤ N) : divC g r0 9 (9 - N + k) = divC g r0 N k := by
  unfold divC
  rw [divS_move hN hl h0 k (by omega), show 9 - 1 - (9 - N + k) = N - 1 - k by omega]
theorem fnL_out {l : List Int} : ∀ j, l.length ≤ j → fnL l j = 0 := fun j h => getD_out h
def dmR (f g : List Int) : List Int := tabL 9 (divS g (fnL f) 9 (10 - g.length))
def dmQl (f g : List Int) : List Int := tabL 9 fun j => if j + g.length ≤ 9 then quoC g (fnL f) 9 j else 0
def dmOk (f g : List Int) : Bool := ((List.range (10 - g.length)).all fun m => cofB (divC g (fnL f) 9 m)) && polyB (trimL (dmR f g))
def dmC (f g : List Int) : Int := if polyB f && polyB g then (if monB g then (if dmOk f g then 0 else 3) else 5) else 1
def dmQ (f g : List Int) : List Int := if dmC f g = 0 then trimL (dmQl f g) else []
def dmS (f g : List Int) : List Int := if dmC f g = 0 then trimL (dmR f g) else []
theorem cofB_of {x : Int} (h : cofB x = true) : -1000000 ≤ x ∧ x ≤ 1000000 := by
  simp only [cofB, inB, Bool.and_eq_true, decide_eq_true_eq] at h; exact h
theorem cofB_mk {x : Int} (h : -1000000 ≤ x ∧ x ≤ 1000000) : cofB x = true := inB_t h.1 h.2
theorem cofB_no {x : Int} (h : cofB x = false) : x < -1000000 ∨ 1000000 < x := by
  rcases cofB_cases x with ⟨h1, _⟩ | ⟨_, h2⟩
  · rw [h1] at h; cases h
  · exact h2
theorem divS_bd {f g : List Int} {N : Nat} (hf : ∀ i, -1000000 ≤ f.getD i 0 ∧ f.getD i 0 ≤ 1000000) (hg : ∀ i, -1000000 ≤ g.getD i 0 ∧ g.getD i 0 ≤ 1000000) :
    ∀ k, (∀ m, m < k → cofB (divC g (fnL f) N m) = true) → ∀ j, -(1000000 + (k : Int) * 1000000000000) ≤ divS g (fnL f) N k j ∧ divS g (fnL f) N k j ≤ 1000000 + (k : Int) * 1000000000000
  | 0, _, j => by have := hf j; show _ ≤ f.getD j 0 ∧ f.getD j 0 ≤ _; omega
  | k + 1, h, j => by
    have h1 := divS_bd hf hg k (fun m hm => h m (by omega)) j
    have hc := cofB_of (h k (by omega))
    show _ ≤ divS g (fnL f) N k j - (if N - g.length - k ≤ j then divC g (fnL f) N k * g.getD (j - (N - g.length - k)) 0 else 0) ∧ divS g (fnL f) N k j - (if N - g.length - k ≤ j then divC g (fnL f) N k * g.getD (j - (N - g.length - k)) 0 else 0) ≤ _
    have hm := mul_bd hc (hg (j - (N - g.length - k)))
    split <;> omega
/-- the rest, j numbers of g taken away, as a machine does it -/
def subW (r g : List Int) (c : Int) (i j : Nat) : List Int := tabL 9 fun t => if i ≤ t ∧ t < i + j then IntKind.i64.wrap (r.getD t 0 - IntKind.i64.wrap (c * g.getD (t - i) 0)) else r.getD t 0
theorem subW_length (r g : List Int) (c : Int) (i j : Nat) : (subW r g c i j).length = 9 := tabL_length _ _
theorem subW_zero {r g : List Int} {c : Int} {i : Nat} (h : r.length = 9) : subW r g c i 0 = r :=
  ext_getD (by rw [subW_length, h]) fun t ht => by
    rw [subW_length] at ht
    rw [subW, tabL_getD ht, if_neg (by omega)]
theorem subW_at {r g : List Int} {c : Int} {i j t : Nat} (ht : i + j = t) (h9 : t < 9) : (subW r g c i j).getD t 0 = r.getD t 0 := by
  rw [subW, tabL_getD h9, if_neg (by omega)]
theorem subW_step {r g : List Int} {c : Int} {i j t : Nat} (ht : i + j = t) (h9 : t < 9) :
    (subW r g c i j).set t (IntKind.i64.wrap (r.getD t 0 - IntKind.i64.wrap (c * g.getD j 0))) = subW r g c i (j + 1) := by
  unfold subW
  rw [tab_set _ h9]
  refine tabL_ext fun u hu => ?_
  by_cases e : u = t
  · rw [if_pos e, if_pos (by omega), e, show t - i = j by omega]
  · rw [if_neg e]
    by_cases h2 : i ≤ u ∧ u < i + j
    · rw [if_pos h2, if_pos (by omega)]
    · rw [if_neg h2, if_neg (by omega)]
def qW (f g : List Int) (k : Nat) : List Int := tabL 9 fun j => if 9 < j + g.length + k ∧ j + g.length ≤ 9 then quoC g (fnL f) 9 j else 0
def DGood (f g : List Int) (k : Nat) (rl ql : List Int) : Prop := rl = tabL 9 (divS g (fnL f) 9 k) ∧ ql = qW f g k ∧ ∀ m, m < k → cofB (divC g (fnL f) 9 m) = true
def DBad (f g : List Int) (k : Nat) (ql : List Int) : Prop := (∃ j, 9 < j + g.length + k ∧ j < 9 ∧ cofB (ql.getD j 0) = false) ∧ ∃ m, m < k ∧ cofB (divC g (fnL f) 9 m) = false
def DSt (f g : List Int) (k : Nat) (rl ql : List Int) : Prop := rl.length = 9 ∧ ql.length = 9 ∧ (DGood f g k rl ql ∨ DBad f g k ql)
theorem dst_start {f g : List Int} (hf : f.length ≤ 9) : DSt f g 0 (padL f) (tabL 9 fun _ => 0) := by
  refine ⟨padL_length f, tabL_length _ _, .inl ⟨?_, ?_, fun m h => by omega⟩⟩
  · refine ext_getD (by rw [padL_length, tabL_length]) fun i hi => ?_
    rw [padL_length] at hi
    rw [padL_getD hf, tabL_getD hi]; rfl
  · refine tabL_ext fun i hi => ?_
    rw [if_neg (by omega)]
theorem dst_step {f g rl ql : List Int} {i k : Nat} {c : Int} (hf : ∀ i, -1000000 ≤ f.getD i 0 ∧ f.getD i 0 ≤ 1000000) (hg : ∀ i, -1000000 ≤ g.getD i 0 ∧ g.getD i 0 ≤ 1000000) (hl : 1 ≤ g.length) (hi : i + g.length + k = 9)
    (h : DSt f g k rl ql) (hc : rl.getD (i + (g.length - 1)) 0 = c) : DSt f g (k + 1) (subW rl g c i g.length) (ql.set i c) := by
  obtain ⟨h1, h2, h3⟩ := h
  refine ⟨subW_length _ _ _ _ _, by rw [List.length_set]; exact h2, ?_⟩
  rcases h3 with ⟨rfl, rfl, hv⟩ | ⟨⟨j, hj, hj9, hjc⟩, m, hm, hmc⟩
  · have hce : c = divC g (fnL f) 9 k := by
      rw [← hc, tabL_getD (by omega)]; unfold divC; rw [show i + (g.length - 1) = 9 - 1 - k by omega]
    cases hcc : cofB c
    · refine .inr ⟨⟨i, by omega, by omega, ?_⟩, k, by omega, by rw [← hce]; exact hcc⟩
      rw [qW, tab_set _ (show i < 9 by omega), tabL_getD (show i < 9 by omega), if_pos rfl]; exact hcc
    · refine .inl ⟨?_, ?_, fun m hm => ?_⟩
      · unfold subW
        refine tabL_ext fun t ht => ?_
        rw [tabL_getD ht]
        have hb := divS_bd (N := 9) hf hg k hv t
        have hm := mul_bd (cofB_of hcc) (hg (t - i))
        have hk9 : (k : Int) ≤ 9 := by omega
        show _ = divS g (fnL f) 9 k t - (if 9 - g.length - k ≤ t then divC g (fnL f) 9 k * g.getD (t - (9 - g.length - k)) 0 else 0)
        rw [show 9 - g.length - k = i by omega, ← hce]
        by_cases h2 : i ≤ t ∧ t < i + g.length
        · rw [if_pos h2, if_pos h2.1, IntWalk.i64_in (c * g.getD (t - i) 0) (by omega), IntWalk.i64_in _ (by omega)]
        · rw [if_neg h2]
          by_cases h3 : i ≤ t
          · rw [if_pos h3, getD_out (l := g) (by omega), Int.mul_zero, Int.sub_zero]
          · rw [if_neg h3, Int.sub_zero]
      · unfold qW
        rw [tab_set _ (by omega)]
        refine tabL_ext fun t ht => ?_
        by_cases e : t = i
        · rw [if_pos e, if_pos (by omega), hce, e]; unfold quoC; rw [show 9 - g.length - i = k by omega]
        · rw [if_neg e]
          by_cases h2 : 9 < t + g.length + k ∧ t + g.length ≤ 9
          · rw [if_pos h2, if_pos (by omega)]
          · rw [if_neg h2, if_neg (by omega)]
      · by_cases e : m = k
        · rw [e, ← hce]; exact hcc
        · exact hv m (by omega)
  · refine .inr ⟨⟨j, by omega, hj9, ?_⟩, m, by omega, hmc⟩
    have : (ql.set i c).getD j 0 = ql.getD j 0 := by simp [List.getD, List.getElem?_set_ne (show i ≠ j by omega)]
    rw [this]; exact hjc
theorem trim_bad {l : List Int} {j : Nat} (h : cofB (l.getD j 0) = false) : resC l = 3 := by
  have : polyB (trimL l) = false := by
    cases hp : polyB (trimL l)
    · rfl
    · have := (polyB_of hp).2.1 j
      rw [trimL_getD] at this
      rw [cofB_mk this] at h; cases h
  simp [resC, this]
theorem dmOk_no {f g : List Int} {m : Nat} (hm : m < 10 - g.length) (h : cofB (divC g (fnL f) 9 m) = false) : dmOk f g = false := by
  have : ((List.range (10 - g.length)).all fun m => cofB (divC g (fnL f) 9 m)) = false := by
    rw [List.all_eq_false]
    exact ⟨m, List.mem_range.2 hm, by rw [h]; simp⟩
  unfold dmOk; rw [this, Bool.false_and]
theorem dmOk_yes {f g : List Int} (h : ∀ m, m < 10 - g.length → cofB (divC g (fnL f) 9 m) = true) : dmOk f g = polyB (trimL (dmR f g)) := by
  have : ((List.range (10 - g.length)).all fun m => cofB (divC g (fnL f) 9 m)) = true := by
    rw [List.all_eq_true]
    exact fun m hm => h m (List.mem_range.1 hm)
  unfold dmOk; rw [this, Bool.true_and]
theorem quo_valid {f g : List Int} (h : ∀ m, m < 10 - g.length → cofB (divC g (fnL f) 9 m) = true) : polyB (trimL (dmQl f g)) = true := by
  refine polyB_mk ?_ (fun i hi => ?_) (trimL_last _)
  · rw [trimL_length, dmQl, tabL_length]; exact trimN_le _ _
  · rw [trimL_getD]
    by_cases h9 : i < 9
    · rw [dmQl, tabL_getD h9]
      split
      · exact cofB_of (h _ (by omega))
      · omega
    · rw [getD_out (by rw [dmQl, tabL_length]; omega)]; omega
theorem dst_end {f g rl ql : List Int} (hl : 1 ≤ g.length) (hl9 : g.length ≤ 9) (h : DSt f g (10 - g.length) rl ql) :
    (resC ql = 0 ∧ resC rl = 0 ∧ dmOk f g = true ∧ resL ql = trimL (dmQl f g) ∧ resL rl = trimL (dmR f g)) ∨ (resC ql ≠ 0 ∧ dmOk f g = false) ∨ (resC ql = 0 ∧ resC rl ≠ 0 ∧ dmOk f g = false) := by
  obtain ⟨h1, h2, ⟨h3, h4, hv⟩ | ⟨⟨j, hj, hj9, hjc⟩, m, hm, hmc⟩⟩ := h
  · have hq : ql = dmQl f g := by
      rw [h4]; unfold qW dmQl
      refine tabL_ext fun t ht => ?_
      by_cases e : t + g.length ≤ 9
      · rw [if_pos (by omega), if_pos e]
      · rw [if_neg (by omega), if_neg e]
    have hr : rl = dmR f g := h3
    have hQ := quo_valid (f := f) hv
    have hO := dmOk_yes (f := f) hv
    subst hq hr
    cases hp : polyB (trimL (dmR f g))
    · rw [hp] at hO
      exact .inr (.inr ⟨by simp [resC, hQ], by simp [resC, hp], hO⟩)
    · rw [hp] at hO
      exact .inl ⟨by simp [resC, hQ], by simp [resC, hp], hO, by simp [resL, hQ], by simp [resL, hp]⟩
  · exact .inr (.inl ⟨by rw [trim_bad hjc]; omega, dmOk_no hm hmc⟩)
/-! the same over the list's own places -/
theorem own_quo {f g : List Int} (hf : f.length ≤ 9) (hl : 1 ≤ g.length) (h : g.length ≤ f.length) : trimL (tabL (f.length + 1 - g.length) (quoC g (fnL f) f.length)) = trimL (dmQl f g) := by
  refine trim_same fun i => ?_
  unfold dmQl
  by_cases h9 : i < 9
  · rw [tabL_getD h9]
    by_cases hi : i < f.length + 1 - g.length
    · rw [tabL_getD hi, if_pos (by omega)]
      unfold quoC
      rw [← divC_move hf hl fnL_out (show f.length - g.length - i + g.length ≤ f.length by omega), show 9 - f.length + (f.length - g.length - i) = 9 - g.length - i by omega]
    · rw [tabL_out (by omega)]
      split
      · unfold quoC; rw [divC_stay hf fnL_out (by omega)]
      · rfl
  · rw [tabL_out (by omega), tabL_out (by omega)]
theorem own_rest {f g : List Int} (hf : f.length ≤ 9) (hl : 1 ≤ g.length) (hm : g.getD (g.length - 1) 0 = 1) (h : g.length ≤ f.length) : trimL (tabL f.length (divS g (fnL f) f.length (f.length + 1 - g.length))) = trimL (dmR f g) := by
  refine trim_same fun i => ?_
  unfold dmR
  rw [show 10 - g.length = 9 - f.length + (f.length + 1 - g.length) by omega, divS_move hf hl fnL_out _ (by omega)]
  by_cases h9 : i < f.length
  · rw [tabL_getD h9, tabL_getD (by omega)]
  · rw [tabL_out (by omega)]
    by_cases h8 : i < 9
    · rw [tabL_getD h8, div_zero hm hl fnL_out _ (by omega) i (by omega)]
    · rw [tabL_out (by omega)]
theorem own_few {f g : List Int} (hf : f.length ≤ 9) (h : f.length < g.length) : trimL ([] : List Int) = trimL (dmQl f g) ∧ trimL f = trimL (dmR f g) := by
  constructor
  · refine trim_same fun i => ?_
    unfold dmQl
    by_cases h9 : i < 9
    · rw [tabL_getD h9]
      split
      · unfold quoC; rw [divC_stay hf fnL_out (by omega)]; simp
      · simp
    · rw [tabL_out (by omega)]; simp
  · refine trim_same fun i => ?_
    unfold dmR
    rw [divS_stay hf fnL_out _ (by omega)]
    by_cases h9 : i < 9
    · rw [tabL_getD h9]; rfl
    · rw [tabL_out (by omega), getD_out (by omega)]
theorem own_valid {f g : List Int} (hf : f.length ≤ 9) (hl : 1 ≤ g.length) (h : ∀ k, k + g.length ≤ f.length → cofB (divC g (fnL f) f.length k) = true) : ∀ m, m < 10 - g.length → cofB (divC g (fnL f) 9 m) = true := fun m hm => by
  by_cases h1 : m < 9 - f.length
  · rw [divC_stay hf fnL_out h1]; rfl
  · obtain ⟨k, rfl⟩ : ∃ k, m = 9 - f.length + k := ⟨m - (9 - f.length), by omega⟩
    rw [divC_move hf hl fnL_out (by omega)]; exact h k (by omega)
theorem own_bad {f g : List Int} (hf : f.length ≤ 9) (hl : 1 ≤ g.length) {k : Nat} (hk : k + g.length ≤ f.length) (h : cofB (divC g (fnL f) f.length k) = false) : dmOk f g = false := by
  refine dmOk_no (m := 9 - f.length + k) (by omega) ?_
  rw [divC_move hf hl fnL_out hk]; exact h
/-! the law -/
theorem monic_law {f g : List Int} (hf : polyB f = true) (hg : polyB g = true) (hm : monB g = true) (ho : dmOk f g = true) :
    (∀ x, pval (trimL (dmQl f g)) x * pval g x + pval (trimL (dmR f g)) x = pval f x) ∧ (trimL (dmR f g)).length < g.length ∧ polyB (trimL (dmQl f g)) = true ∧ polyB (trimL (dmR f g)) = true := by
  obtain ⟨hl, hm1⟩ := monB_of hm
  have hf9 := (polyB_of hf).1
  have hg9 := (polyB_of hg).1
  have hv : ∀ m, m < 10 - g.length → cofB (divC g (fnL f) 9 m) = true := by
    unfold dmOk at ho
    rw [Bool.and_eq_true, List.all_eq_true] at ho
    exact fun m h => ho.1 m (List.mem_range.2 h)
  have hp : polyB (trimL (dmR f g)) = true := by rw [← dmOk_yes hv]; exact ho
  refine ⟨fun x => ?_, ?_, quo_valid hv, hp⟩
  · rw [pval_trim, pval_trim]
    have h1 := div_law g (fnL f) hg9 x
    have e1 : pval f x = pv (fnL f) x 9 := pval_upto f x hf9
    have e2 : pval (dmR f g) x = pv (divS g (fnL f) 9 (9 - g.length + 1)) x 9 := by
      unfold dmR; rw [pval_tab, show 10 - g.length = 9 - g.length + 1 by omega]
    have e3 : pval (dmQl f g) x = pv (quoC g (fnL f) 9) x (9 - g.length + 1) := by
      unfold dmQl; rw [pval_tab]
      rw [← pv_congr (c := fun j => if j + g.length ≤ 9 then quoC g (fnL f) 9 j else 0) (n := 9 - g.length + 1) (fun i hi => if_pos (by omega))]
      have hp := pv_more (c := fun j => if j + g.length ≤ 9 then quoC g (fnL f) 9 j else 0) (n := 9 - g.length + 1) x (9 - (9 - g.length + 1)) (fun i hi => if_neg (by omega))
      rw [show 9 - g.length + 1 + (9 - (9 - g.length + 1)) = 9 by omega] at hp
      exact hp
    rw [e1, e2, e3, h1, Int.mul_comm]
  · have hz : ∀ j, g.length - 1 ≤ j → (trimL (dmR f g)).getD j 0 = 0 := fun j hj => by
      rw [trimL_getD]; unfold dmR
      by_cases h9 : j < 9
      · rw [tabL_getD h9]; exact div_zero hm1 hl (fun j hj => fnL_out j (by omega)) _ (by omega) j (by omega)
      · rw [tabL_out (by omega)]
    rcases (polyB_of hp).2.2 with h | h
    · omega
    · by_cases hh : (trimL (dmR f g)).length < g.length
      · exact hh
      · exact absurd (hz _ (by omega)) h
end Go.Proofs.Ytbolmmgkmgmfeaa
