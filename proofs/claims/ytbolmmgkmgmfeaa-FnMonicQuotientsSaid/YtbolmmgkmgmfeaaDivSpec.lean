/- Contracts of the walk: chapter 7 in spec: division by a monic polynomial. -/
import Derived.Test.YtbolmmgkmgmfeaaDivImpl
import Derived.OneCell
import Derived.Test.YtbolmmgkmgmfeaaPolyLaw0
namespace Go.Proofs.Ytbolmmgkmgmfeaa
open Go.RowKit
set_option linter.unusedVariables false
set_option linter.unusedSimpArgs false
set_option maxRecDepth 20000
theorem row_other {b : Nat} {w : World} {v : Value} {l : List Int} (h : IntRow b w v l) {a : Addr} (ha : v.ownBlock ≠ some a.block) (u : Value) : IntRow b (w.setCell a u) v l := ownsRow_setCell_other h ha u
theorem own_ne {G Q n c : Nat} (h : G ≠ Q) : (Value.slice (some ⟨G, 0, none⟩) n c).ownBlock ≠ some Q := by
  show some G ≠ some Q
  exact fun e => h (by injection e)
/-- the rest, j numbers of g taken away -/
def subV (r : Nat → Int) (g : List Int) (c : Int) (N i j : Nat) : List Int := tabL N fun t => if i ≤ t ∧ t < i + j then r t - c * g.getD (t - i) 0 else r t
theorem subV_zero (r : Nat → Int) (g : List Int) (c : Int) (N i : Nat) : subV r g c N i 0 = tabL N r := tabL_ext fun t ht => by rw [if_neg (by omega)]
theorem subV_length (r : Nat → Int) (g : List Int) (c : Int) (N i j : Nat) : (subV r g c N i j).length = N := tabL_length _ _
theorem subV_at {r : Nat → Int} {g : List Int} {c : Int} {N i j t : Nat} (ht : i + j = t) (h9 : t < N) : (subV r g c N i j).getD t 0 = r t := by
  rw [subV, tabL_getD h9, if_neg (by omega)]
theorem subV_step {r : Nat → Int} {g : List Int} {c : Int} {N i j t : Nat} (ht : i + j = t) (h9 : t < N) : (subV r g c N i j).set t (r t - c * g.getD j 0) = subV r g c N i (j + 1) := by
  unfold subV
  rw [tab_set _ h9]
  refine tabL_ext fun u hu => ?_
  by_cases e : u = t
  · rw [if_pos e, if_pos (by omega), e, show t - i = j by omega]
  · rw [if_neg e]
    by_cases h2 : i ≤ u ∧ u < i + j
    · rw [if_pos h2, if_pos (by omega)]
    · rw [if_neg h2, if_neg (by omega)]
theorem subV_end {g : List Int} {r0 : Nat → Int} {N i k : Nat} (h : i + g.length + k = N) : subV (divS g r0 N k) g (divC g r0 N k) N i g.length = tabL N (divS g r0 N (k + 1)) := by
  unfold subV
  refine tabL_ext fun t ht => ?_
  show _ = divS g r0 N k t - (if N - g.length - k ≤ t then divC g r0 N k * g.getD (t - (N - g.length - k)) 0 else 0)
  rw [show N - g.length - k = i by omega]
  by_cases h2 : i ≤ t ∧ t < i + g.length
  · rw [if_pos h2, if_pos h2.1]
  · rw [if_neg h2]
    by_cases h3 : i ≤ t
    · rw [if_pos h3, getD_out (l := g) (by omega), Int.mul_zero, Int.sub_zero]
    · rw [if_neg h3, Int.sub_zero]
def qS (f g : List Int) (q k : Nat) : List Int := tabL q fun j => if f.length < j + g.length + k then quoC g (fnL f) f.length j else 0
theorem qS_zero {f g : List Int} {q : Nat} (h : q + g.length = f.length + 1) : qS f g q 0 = tabL q fun _ => 0 := tabL_ext fun j hj => by rw [if_neg (by omega)]
theorem qS_length (f g : List Int) (q k : Nat) : (qS f g q k).length = q := tabL_length _ _
theorem qS_step {f g : List Int} {q k i : Nat} (h : q + g.length = f.length + 1) (hi : i + g.length + k = f.length) : (qS f g q k).set i (divC g (fnL f) f.length k) = qS f g q (k + 1) := by
  unfold qS
  rw [tab_set _ (by omega)]
  refine tabL_ext fun t ht => ?_
  by_cases e : t = i
  · rw [if_pos e, if_pos (by omega), e]; unfold quoC; rw [show f.length - g.length - i = k by omega]
  · rw [if_neg e]
    by_cases h2 : f.length < t + g.length + k
    · rw [if_pos h2, if_pos (by omega)]
    · rw [if_neg h2, if_neg (by omega)]
theorem qS_end {f g : List Int} {q : Nat} (h : q + g.length = f.length + 1) : qS f g q q = tabL (f.length + 1 - g.length) (quoC g (fnL f) f.length) := by
  unfold qS
  rw [show f.length + 1 - g.length = q by omega]
  exact tabL_ext fun t ht => by rw [if_pos (by omega)]
theorem res_of_trim {l m : List Int} (h : trimL l = trimL m) : resL l = resL m ∧ resC l = resC m := res_same h
/-- what the two results come to -/
theorem dm_fin {f g ql rl : List Int} (hp : polyB f = true) (hq : polyB g = true) (hm : monB g = true) (hv : ∀ m, m < 10 - g.length → cofB (divC g (fnL f) 9 m) = true)
    (h1 : trimL ql = trimL (dmQl f g)) (h2 : trimL rl = trimL (dmR f g)) :
    resC ql = 0 ∧ ((dmC f g = 0 ∧ resC rl = 0 ∧ dmQ f g = resL ql ∧ dmS f g = resL rl) ∨ (dmC f g = 3 ∧ resC rl = 3)) := by
  have hQ := quo_valid (f := f) (g := g) hv
  have hO := dmOk_yes (f := f) (g := g) hv
  have hC := dmC_val hp hq hm
  refine ⟨by simp [resC, h1, hQ], ?_⟩
  cases hr : polyB (trimL (dmR f g))
  · rw [hr] at hO
    exact .inr ⟨by rw [hC, hO]; rfl, by simp [resC, h2, hr]⟩
  · rw [hr] at hO
    have h0 : dmC f g = 0 := by rw [hC, hO]; rfl
    obtain ⟨e1, e2⟩ := dm_some h0
    exact .inl ⟨h0, by simp [resC, h2, hr], by rw [e1]; simp [resL, h1, hQ], by rw [e2]; simp [resL, h2, hr]⟩
set_option maxHeartbeats 8000000 in
theorem specDM_any {o o' : Option Addr} {n n' c c' : Nat} {f g : List Int} {w : World} (h : Seen w o n c f) (h' : Seen w o' n' c' g) :
    Calls Try.prog 23 #[.slice o n c, .slice o' n' c'] w (Int2Post (dmQ f g) (dmS f g) (dmC f g) w) := by
  have HS := Lib.hid h
  have HS' := Lib.hid h'
  cases hp : polyB f
  · have HC := Lib.hid (show dmC f g = 1 by simp [dmC, hp])
    obtain ⟨e1, e2⟩ := dm_none (f := f) (g := g) (by rw [HC.out]; omega)
    rw [e1, e2, HC.out]
    clear h h' e1 e2
    go_enter Try.func23, Try.ntmps23
    go_wp2_with fail
    refine (specIsPoly_any HS.out).mono ?_
    rw [hp]
    rintro e w2 ⟨rfl, rfl⟩
    go_wp2_with fail
    go_ret3
    exact ⟨_, _, rfl, intRow_nil _ _, intRow_nil _ _, Below.refl _ _, .inl rfl⟩
  · cases hq : polyB g
    · have HC := Lib.hid (show dmC f g = 1 by simp [dmC, hp, hq])
      obtain ⟨e1, e2⟩ := dm_none (f := f) (g := g) (by rw [HC.out]; omega)
      rw [e1, e2, HC.out]
      clear h h' e1 e2
      go_enter Try.func23, Try.ntmps23
      go_wp2_with fail
      refine (specIsPoly_any HS.out).mono ?_
      rw [hp]
      rintro e w2 ⟨rfl, rfl⟩
      go_wp2_with fail
      refine (specIsPoly_any HS'.out).mono ?_
      rw [hq]
      rintro e w2 ⟨rfl, rfl⟩
      go_wp2_with fail
      go_ret3
      exact ⟨_, _, rfl, intRow_nil _ _, intRow_nil _ _, Below.refl _ _, .inl rfl⟩
    · by_cases hn0 : n' = 0
      · have HC := Lib.hid (show dmC f g = 5 by have := h'.1; simp [dmC, hp, hq, monB, ← this, hn0])
        obtain ⟨e1, e2⟩ := dm_none (f := f) (g := g) (by rw [HC.out]; omega)
        rw [e1, e2, HC.out]
        clear h h' e1 e2
        subst hn0
        go_enter Try.func23, Try.ntmps23
        go_wp2_with fail
        refine (specIsPoly_any HS.out).mono ?_
        rw [hp]
        rintro e w2 ⟨rfl, rfl⟩
        go_wp2_with fail
        refine (specIsPoly_any HS'.out).mono ?_
        rw [hq]
        rintro e w2 ⟨rfl, rfl⟩
        go_wp2_with fail
        go_ret3
        exact ⟨_, _, rfl, intRow_nil _ _, intRow_nil _ _, Below.refl _ _, .inl rfl⟩
      · obtain ⟨hl', hn', hno', hnc', a', h1', h2'⟩ := h'
        obtain ⟨rfl, hag'⟩ := h1' (by omega)
        have b1 := h2' (n' - 1) (by omega)
        have hn1 : (n' : Int) - 1 = ((n' - 1 : Nat) : Int) := by omega
        have h0' : ((n' : Int) == 0) = false := by simp; omega
        have HC' := Lib.hid h2'
        have HL' := Lib.hid hl'
        have HM := Lib.hid (show monB g = (g.getD (n' - 1) 0 == 1) by simp [monB, ← hl', hn0])
        cases hm : monB g
        · have HC := Lib.hid (show dmC f g = 5 by simp [dmC, hp, hq, hm])
          obtain ⟨e1, e2⟩ := dm_none (f := f) (g := g) (by rw [HC.out]; omega)
          rw [e1, e2, HC.out]
          have hx : g.getD (n' - 1) 0 ≠ 1 := by have := HM.out; rw [hm] at this; simpa using this.symm
          generalize g.getD (n' - 1) 0 = x at *
          have hx' : (x == 1) = false := by simpa using hx
          clear HM
          clear h h1' h2' hl' hno' hnc' e1 e2
          go_enter Try.func23, Try.ntmps23
          go_wp2_with fail
          refine (specIsPoly_any HS.out).mono ?_
          rw [hp]
          rintro e w2 ⟨rfl, rfl⟩
          go_wp2_with fail
          refine (specIsPoly_any HS'.out).mono ?_
          rw [hq]
          rintro e w2 ⟨rfl, rfl⟩
          go_wp2_with fail
          go_ret3
          exact ⟨_, _, rfl, intRow_nil _ _, intRow_nil _ _, Below.refl _ _, .inl rfl⟩
        · have hx : g.getD (n' - 1) 0 = 1 := by have := HM.out; rw [hm] at this; simpa using this.symm
          rw [hx] at b1
          obtain ⟨i0, hi, hz0, hz1, hz2⟩ := info_parts Try.infoInt64
          have HI := Lib.hid hi
          have HZ0 := Lib.hid hz0
          have HZ1 := Lib.hid hz1
          have HZ2 := Lib.hid hz2
          have HL := Lib.hid h.1
          have HF := Lib.hid (polyB_of hp).2.1
          have HG := Lib.hid (polyB_of hq).2.1
          have HX := Lib.hid (And.intro hp (And.intro hq hm))
          have HF9 := Lib.hid (polyB_of hp).1
          have hn9 : n ≤ 9 := by rw [h.1]; exact (polyB_of hp).1
          have hn9' : n' ≤ 9 := by rw [hl']; exact (polyB_of hq).1
          clear h h1' h2' hl' hn' hno' hnc' hx hi hz0 hz1 hz2
          go_enter Try.func23, Try.ntmps23
          go_wp2_with fail
          refine (specIsPoly_any HS.out).mono ?_
          rw [hp]
          rintro e w2 ⟨rfl, rfl⟩
          go_wp2_with fail
          refine (specIsPoly_any HS'.out).mono ?_
          rw [hq]
          rintro e w2 ⟨rfl, rfl⟩
          go_wp2_with fail
          refine (specOwn_any HS.out).mono ?_
          rintro e W1 ⟨v, rfl, hr1, hb1⟩
          have HR1 := Lib.hid hr1
          have HB1 := Lib.hid hb1
          have hbs := hb1.size
          clear b1
          by_cases hle : n' ≤ n
          · -- the quotient has places
            obtain ⟨q, hqq⟩ : ∃ q, n + 1 - n' = q := ⟨_, rfl⟩
            have hsum : (n : Int) - (n' : Int) + 1 = (q : Int) := by omega
            have hq0 : max (0 : Int) (q : Int) = (q : Int) := by omega
            have hq9 : q ≤ 9 := by omega
            have hqn : q + g.length = f.length + 1 := by have := HL.out; have := HL'.out; omega
            have HQN := Lib.hid hqn
            have hr1' : W1.ownsRow w.heap.size 2 1 v n (f.map (Value.int .i64)) := by rw [HL.out]; exact hr1
            rcases row_shape hr1' with ⟨hz, _⟩ | ⟨_, G, cap, rfl, hbg, hgw⟩
            · omega
            clear hr1 hr1' hb1 hqn hqq
            have hm0 : max (0 : Int) ((n : Int) - (n' : Int) + 1) = (q : Int) := by omega
            go_upto_region 6 with fail
            go_wp2_with (at_make; refine wpList_make_full _ rfl (.tmp 44) (.tmp 44) 37 rfl W1.heap.size 2 i0 (.int .i64 0) 1 Try.underlying37 HI.out HZ0.out HZ1.out .i64 .i64 _ _ q rfl rfl rfl rfl (by rw [HZ2.out]; omega) (by unfold maxLen; omega) (Nat.le_refl _) ?_; intro w2 hown hgrow)
            have HB2 := Lib.hid (HB1.out.grown hgrow hbs (fun k h => by cases h))
            have HR2 := Lib.hid (show IntRow w.heap.size w2 (.slice (some ⟨G, 0, none⟩) n cap) f from World.ownsRow.kept HR1.out hgrow (.inr (by intro e; cases e)))
            have HQ2 := Lib.hid (int_made hown)
            have hGQ : G ≠ W1.heap.size := by omega
            generalize W1.heap.size = Q at *
            clear hown hgrow HR1 HB1 hm0 hsum hq0
            go_wp2_with fail
            go_loopw [9] (fun s wr => ∃ (k : Nat) (y : Int), k + n' ≤ n + 1 ∧ s = .int .i64 y ∧ y = (n : Int) - (n' : Int) - (k : Int) ∧ IntRow w.heap.size wr (.slice (some ⟨G, 0, none⟩) n cap) (tabL n (divS g (fnL f) n k)) ∧ IntRow Q wr (.slice (some ⟨Q, 0, none⟩) q q) (qS f g q k) ∧ (∀ m, m < k → cofB (divC g (fnL f) n m) = true) ∧ Below w.heap.size w wr) (fun s _ => (intOf s + 1).toNat)
            case atStart =>
              refine ⟨0, (q : Int) - 1, by omega, by first | rfl | go_num, by have := HQN.out; have := HL.out; have := HL'.out; omega, ?_, ?_, fun m h => by omega, HB2.out⟩
              · have : f = tabL n (divS g (fnL f) n 0) := by
                  refine ext_getD (by rw [tabL_length]; exact HL.out.symm) fun i hi => ?_
                  rw [tabL_getD (by have := HL.out; omega)]; rfl
                rw [← this]; exact HR2.out
              · rw [qS_zero HQN.out]; exact HQ2.out
            case round =>
              obtain ⟨k, y, hk, rfl, hy, hr, hqr, hv, hb⟩ := hrel
              have HR := Lib.hid hr
              have HQ := Lib.hid hqr
              have HB := Lib.hid hb
              have HV := Lib.hid hv
              have HY := Lib.hid hy
              clear hr hqr hb hv HR2 HQ2 HB2
              by_cases hlt : 0 ≤ y
              · obtain ⟨i, hi⟩ : ∃ i : Nat, y = i := ⟨y.toNat, by omega⟩
                subst hi
                have hik : i + g.length + k = f.length := by have := HL.out; have := HL'.out; omega
                have HIK := Lib.hid hik
                obtain ⟨s, hs⟩ : ∃ s, i + n' = s := ⟨_, rfl⟩
                have his : (i : Int) + (n' : Int) = (s : Int) := by omega
                have hs0 : s ≤ 9 := by omega
                obtain ⟨m, hm2⟩ : ∃ m, m + 1 = s := ⟨s - 1, by omega⟩
                have hsm : (s : Int) - 1 = (m : Int) := by omega
                have hmn : m < n := by omega
                have hiq : i < q := by have := HQN.out; have := HL.out; have := HL'.out; omega
                have ws : IntKind.i64.wrap (s : Int) = (s : Int) := IntWalk.i64_in _ (by omega)
                have wm : IntKind.i64.wrap (m : Int) = (m : Int) := IntWalk.i64_in _ (by omega)
                have c1 := int_at HR.out (tabL_length _ _) hmn
                rw [tabL_getD hmn] at c1
                have hce : divC g (fnL f) n k = divS g (fnL f) n k m := by unfold divC; rw [show n - 1 - k = m by have := HIK.out; have := HL.out; have := HL'.out; omega]
                rw [← hce] at c1
                have HCE := Lib.hid (show divC g (fnL f) f.length k = divC g (fnL f) n k by rw [← HL.out])
                have HVN := Lib.hid (fun (h : cofB (divC g (fnL f) n k) = true) m (hm : m < k + 1) => show cofB (divC g (fnL f) n m) = true from if e : m = k then by rw [e]; exact h else HV.out m (by omega))
                have HSUB := Lib.hid (subV_end (g := g) (r0 := fnL f) (show i + g.length + k = n by rw [HL.out]; exact hik))
                have HQS := Lib.hid (qS_step (f := f) (g := g) HQN.out hik)
                rw [HCE.out] at HQS
                have HBD := Lib.hid (divS_bd (f := f) (g := g) (N := n) HF.out HG.out k HV.out)
                have HBAD := Lib.hid (fun h : cofB (divC g (fnL f) n k) = false => own_bad (f := f) (g := g) (k := k) HF9.out (by have := HL'.out; omega) (by omega) (by rw [HCE.out]; exact h))
                obtain ⟨x, hx⟩ : ∃ x, divC g (fnL f) n k = x := ⟨_, rfl⟩
                rw [hx] at c1 HVN HSUB HQS HBAD
                clear hce hx hs hm2 hik HCE hy
                cases hcx : cofB x
                · have HC3 := Lib.hid (show dmC f g = 3 by rw [dmC_val HX.out.1 HX.out.2.1 HX.out.2.2, HBAD.out hcx]; rfl)
                  obtain ⟨e6, e7⟩ := dm_none (f := f) (g := g) (by rw [HC3.out]; omega)
                  have HQ6 := Lib.hid (show IntRow w.heap.size wr (.slice none 0 0) (dmQ f g) by rw [e6]; exact intRow_nil _ _)
                  have HR6 := Lib.hid (show IntRow w.heap.size wr (.slice none 0 0) (dmS f g) by rw [e7]; exact intRow_nil _ _)
                  clear e6 e7
                  go_wp2_with fail
                  refine (in_any x (-1000000) 1000000 _).mono ?_
                  rw [show inB x (-1000000) 1000000 = false from hcx]
                  rintro e w2 ⟨rfl, rfl⟩
                  go_wp2_with fail
                  go_ret3
                  exact ⟨_, _, congrArg (fun c => Ending.returned (.tuple #[.slice none 0 0, .slice none 0 0, .int .i64 c])) HC3.out.symm, HQ6.out, HR6.out, HB.out, .inl rfl⟩
                · have HVN2 := Lib.hid (HVN.out hcx)
                  have f2 := int_frozen HQ.out (qS_length f g q k) i
                  have c2 := int_at HQ.out (qS_length f g q k) hiq
                  obtain ⟨y2, hy2⟩ : ∃ y2, (qS f g q k).getD i 0 = y2 := ⟨_, rfl⟩
                  rw [hy2] at c2
                  have HQ1 := Lib.hid (int_stored HQ.out (qS_length f g q k) i x)
                  rw [HQS.out] at HQ1
                  have HR1 := Lib.hid (row_other HR.out (a := ⟨Q, i, none⟩) (own_ne hGQ) (.int .i64 x))
                  have HB1 := Lib.hid (HB.out.setCell (p := ⟨Q, i, none⟩) hbs (.int .i64 x))
                  clear HQ hy2 HVN HBAD HQS
                  go_wp2_with fail
                  refine (in_any x (-1000000) 1000000 _).mono ?_
                  rw [show inB x (-1000000) 1000000 = true from hcx]
                  rintro e w2 ⟨rfl, rfl⟩
                  go_upto_region 14 with fail
                  generalize wr.setCell ⟨Q, i, none⟩ (.int .i64 x) = W3 at *
                  clear c1 c2 f2 HR HB
                  go_wp2_with fail
                  go_loopw [11] (fun s wr => ∃ j : Nat, j ≤ n' ∧ s = .int .i64 j ∧ IntRow w.heap.size wr (.slice (some ⟨G, 0, none⟩) n cap) (subV (divS g (fnL f) n k) g x n i j) ∧ IntRow Q wr (.slice (some ⟨Q, 0, none⟩) q q) (qS f g q (k + 1)) ∧ Below w.heap.size w wr) (fun s _ => n' - (intOf s).toNat)
                  case atStart => exact ⟨0, Nat.zero_le _, rfl, by rw [subV_zero]; exact HR1.out, HQ1.out, HB1.out⟩
                  case round =>
                    obtain ⟨j, hj, rfl, hr, hqr, hb⟩ := hrel
                    have HR := Lib.hid hr
                    have HQ := Lib.hid hqr
                    have HB := Lib.hid hb
                    clear hr hqr hb HR1 HQ1 HB1
                    by_cases hltj : j < n'
                    · obtain ⟨t, ht⟩ : ∃ t, i + j = t := ⟨_, rfl⟩
                      have hijt : (i : Int) + (j : Int) = (t : Int) := by omega
                      have htn : t < n := by have := HIK.out; have := HL.out; have := HL'.out; omega
                      have wt : IntKind.i64.wrap (t : Int) = (t : Int) := IntWalk.i64_in _ (by omega)
                      have b2 := HC'.out j hltj
                      rw [← HB.out.cell (p := ⟨a', j, none⟩) hag'] at b2
                      have c4 := int_at HR.out (subV_length _ _ _ _ _ _) htn
                      rw [subV_at ht htn] at c4
                      have f4 := int_frozen HR.out (subV_length _ _ _ _ _ _) t
                      have HE := Lib.hid (subV_step (r := divS g (fnL f) n k) (g := g) (c := x) ht htn)
                      have hbd := HBD.out t
                      have hmd := mul_bd (cofB_of hcx) (HG.out j)
                      have hk9 : (k : Int) ≤ 9 := by omega
                      obtain ⟨z, hzz⟩ : ∃ x, g.getD j 0 = x := ⟨_, rfl⟩
                      obtain ⟨r, hrr⟩ : ∃ x, divS g (fnL f) n k t = x := ⟨_, rfl⟩
                      rw [hzz] at b2 HE hmd
                      rw [hrr] at c4 HE hbd
                      have w1 : IntKind.i64.wrap (x * z) = x * z := IntWalk.i64_in _ (by omega)
                      have w2 : IntKind.i64.wrap (r - x * z) = r - x * z := IntWalk.i64_in _ (by omega)
                      clear hzz hrr ht hbd hmd
                      go_upto_region 17 with fail
                      refine wp_region_still_tail 18 (by kernel_rfl) (by kernel_rfl) ?_
                      simp only [List.take_succ_cons, List.take_zero, List.drop_succ_cons, List.drop_zero]
                      repeat still_step
                      refine wpStill_nil ?_
                      change wpList _ _ _ _ _ wr.drew
                      have HR1 := Lib.hid (World.ownsRow.drew HR.out)
                      have HQ1 := Lib.hid (World.ownsRow.drew HQ.out)
                      have HB1 := Lib.hid (below_drewN HB.out 1)
                      replace f4 : wr.drew.frozen? ⟨G, t, none⟩ = false := f4
                      replace c4 : wr.drew.cell? ⟨G, t, none⟩ = _ := c4
                      replace HR1 : Hid (IntRow w.heap.size wr.drew (.slice (some ⟨G, 0, none⟩) n cap) (subV (divS g (fnL f) n k) g x n i j)) := HR1
                      replace HQ1 : Hid (IntRow Q wr.drew (.slice (some ⟨Q, 0, none⟩) q q) (qS f g q (k + 1))) := HQ1
                      replace HB1 : Hid (Below w.heap.size w wr.drew) := HB1
                      clear HR HQ HB b2
                      generalize wr.drew = W4 at *
                      have HR3 := Lib.hid (int_stored HR1.out (subV_length _ _ _ _ _ _) t (r - x * z))
                      rw [HE.out] at HR3
                      have HQ3 := Lib.hid (row_other HQ1.out (a := ⟨G, t, none⟩) (own_ne (Ne.symm hGQ)) (.int .i64 (r - x * z)))
                      have HB3 := Lib.hid (HB1.out.setCell (p := ⟨G, t, none⟩) hbg (.int .i64 (r - x * z)))
                      clear HR1 HQ1 HB1
                      go_wp2_with fail
                      exact ⟨⟨j + 1, by omega, by go_num, HR3.out, HQ3.out, HB3.out⟩, by simp only [intOf]; omega⟩
                    · have hjn : j = g.length := by have := HL'.out; omega
                      have HR2 := Lib.hid (show IntRow w.heap.size wr (.slice (some ⟨G, 0, none⟩) n cap) (tabL n (divS g (fnL f) n (k + 1))) by rw [← HSUB.out, ← hjn]; exact HR.out)
                      clear HR
                      go_wp2_with fail
                      exact ⟨⟨k + 1, (i : Int) - 1, by have := HIK.out; have := HL.out; have := HL'.out; omega, by go_num, by have := HY.out; omega, HR2.out, HQ.out, HVN2.out, HB.out⟩, by simp only [intOf]; omega⟩
              · have hkq : k = q := by have := HQN.out; have := HL.out; have := HL'.out; omega
                subst hkq
                have hl1 : 1 ≤ g.length := by have := HL'.out; omega
                have hlen : n = f.length := HL.out
                have hgf : g.length ≤ f.length := by have := HL'.out; omega
                have hqe : k = f.length + 1 - g.length := by have := HQN.out; omega
                have t1 : trimL (qS f g k k) = trimL (dmQl f g) := by rw [qS_end HQN.out]; exact own_quo HF9.out hl1 hgf
                have t2 : trimL (tabL n (divS g (fnL f) n k)) = trimL (dmR f g) := by rw [hlen, hqe]; exact own_rest HF9.out hl1 (monB_of HX.out.2.2).2 hgf
                have hfin := dm_fin HX.out.1 HX.out.2.1 HX.out.2.2 (own_valid HF9.out hl1 (fun j hj => by rw [← hlen]; exact HV.out j (by omega))) t1 t2
                have HFIN := Lib.hid hfin
                have lq : (qS f g k k).length = k := qS_length _ _ _ _
                have lr : (tabL n (divS g (fnL f) n k)).length = n := tabL_length _ _
                have SQ := Lib.hid (show Seen wr (some ⟨Q, 0, none⟩) k k (qS f g k k) by
                  have h := row_seen (o := some ⟨Q, 0, none⟩) (n := (qS f g k k).length) (c := k) (by rw [lq]; exact HQ.out) (by rw [lq]; omega)
                  rw [lq] at h; exact h)
                have hbs2 := HB.out.size
                generalize qS f g k k = ql at *
                generalize tabL n (divS g (fnL f) n k) = rl at *
                clear t1 t2 hfin hl1 hlen hgf hqe HQ hy
                go_wp2_with fail
                refine (specResult_any SQ.out).mono ?_
                rintro e W5 ⟨v5, rfl, hr5, hb5⟩
                have HR5 := Lib.hid (row_below HR.out hb5 (Nat.le_refl _))
                have HB5 := Lib.hid (HB.out.trans (hb5.mono HB.out.size))
                have HQ5 := Lib.hid hr5
                have SR := Lib.hid (show Seen W5 (some ⟨G, 0, none⟩) n cap rl by
                  have h := row_seen (o := some ⟨G, 0, none⟩) (n := rl.length) (c := cap) (w := W5) (l := rl) (by rw [lr]; exact HR5.out) (by rw [lr]; omega)
                  rw [lr] at h; exact h)
                have hbs5 := HB5.out.size
                clear hr5 hb5
                rw [HFIN.out.1]
                go_wp2_with fail
                refine (specResult_any SR.out).mono ?_
                rintro e W6 ⟨v6, rfl, hr6, hb6⟩
                have HQ6 := Lib.hid (row_below HQ5.out hb6 (Nat.le_refl _))
                have HR6 := Lib.hid hr6
                have HAP := Lib.hid (apart_of HQ5.out HR6.out)
                have HB6 := Lib.hid (HB5.out.trans (hb6.mono HB5.out.size))
                clear hr6 hb6
                rcases HFIN.out.2 with ⟨e1, e2, e3, e4⟩ | ⟨e1, e2⟩
                · have HC0 := Lib.hid e1
                  have HQ7 := Lib.hid (show IntRow w.heap.size W6 v5 (dmQ f g) by rw [e3]; exact intRow_lower HQ6.out hbs2)
                  have HR7 := Lib.hid (show IntRow w.heap.size W6 v6 (dmS f g) by rw [e4]; exact intRow_lower HR6.out hbs5)
                  rw [e2]
                  clear e1 e2 e3 e4 HQ5 HQ6 HR5 HR6
                  go_wp2_with fail
                  go_ret3
                  exact ⟨v5, v6, congrArg (fun c => Ending.returned (.tuple #[v5, v6, .int .i64 c])) HC0.out.symm, HQ7.out, HR7.out, HB6.out, HAP.out⟩
                · have HC3 := Lib.hid e1
                  obtain ⟨e6, e7⟩ := dm_none (f := f) (g := g) (by rw [e1]; omega)
                  have HQ7 := Lib.hid (show IntRow w.heap.size W6 (.slice none 0 0) (dmQ f g) by rw [e6]; exact intRow_nil _ _)
                  have HR7 := Lib.hid (show IntRow w.heap.size W6 (.slice none 0 0) (dmS f g) by rw [e7]; exact intRow_nil _ _)
                  rw [e2]
                  clear e1 e2 e6 e7
                  go_wp2_with fail
                  go_ret3
                  exact ⟨_, _, congrArg (fun c => Ending.returned (.tuple #[.slice none 0 0, .slice none 0 0, .int .i64 c])) HC3.out.symm, HQ7.out, HR7.out, HB6.out, .inl rfl⟩
          · have hsum : (n : Int) - (n' : Int) + 1 ≤ 0 := by omega
            have hm0 : max (0 : Int) ((n : Int) - (n' : Int) + 1) = ((0 : Nat) : Int) := by omega
            have hl1 : 1 ≤ g.length := by have := HL'.out; omega
            have hgf : f.length < g.length := by have := HL.out; have := HL'.out; omega
            obtain ⟨t1, t2⟩ := own_few HF9.out hgf
            have hfin := dm_fin HX.out.1 HX.out.2.1 HX.out.2.2 (own_valid HF9.out hl1 (fun j hj => by omega)) t1 t2
            have HFIN := Lib.hid hfin
            obtain ⟨o1, c1, rfl⟩ := row_slice hr1
            clear t1 t2 hfin hl1 hgf hr1 hb1
            go_upto_region 6 with fail
            go_wp2_with (at_make; refine wpList_make_full _ rfl (.tmp 44) (.tmp 44) 37 rfl W1.heap.size 2 i0 (.int .i64 0) 1 Try.underlying37 HI.out HZ0.out HZ1.out .i64 .i64 _ _ 0 rfl rfl rfl rfl (by rw [HZ2.out]; omega) (by unfold maxLen; omega) (Nat.le_refl _) ?_; intro w2 hown hgrow)
            have HB2 := Lib.hid (HB1.out.grown hgrow hbs (fun k h => by cases h))
            have HR2 := Lib.hid (show IntRow w.heap.size w2 (.slice o1 f.length c1) f from World.ownsRow.kept HR1.out hgrow (by cases hv : (Value.slice o1 f.length c1).ownBlock with | none => exact .inl rfl | some k => exact .inr (by simp)))
            have HQ2 := Lib.hid (show Seen w2 (some ⟨W1.heap.size, 0, none⟩) 0 0 [] from row_seen (w := w2) (l := []) (int_made hown) (by simp))
            have SR2 := Lib.hid (row_seen HR2.out (by have := HF9.out; omega))
            generalize W1.heap.size = Q at *
            have hbs2 := HB2.out.size
            clear hown hgrow HR1 HB1 hm0 hsum
            go_wp2_with fail
            refine wp_loop_rounds 1 ?_
            rw [rounds_succ]
            go_wp2_with fail
            refine (specResult_any HQ2.out).mono ?_
            rintro e W5 ⟨v5, rfl, hr5, hb5⟩
            have HB5 := Lib.hid (HB2.out.trans (hb5.mono HB2.out.size))
            have HQ5 := Lib.hid hr5
            have SR := Lib.hid (seen_below SR2.out hb5)
            have hbs5 := HB5.out.size
            clear hr5 hb5
            rw [HFIN.out.1]
            go_wp2_with fail
            refine (specResult_any SR.out).mono ?_
            rintro e W6 ⟨v6, rfl, hr6, hb6⟩
            have HQ6 := Lib.hid (row_below HQ5.out hb6 (Nat.le_refl _))
            have HR6 := Lib.hid hr6
            have HAP := Lib.hid (apart_of HQ5.out HR6.out)
            have HB6 := Lib.hid (HB5.out.trans (hb6.mono HB5.out.size))
            clear hr6 hb6
            rcases HFIN.out.2 with ⟨e1, e2, e3, e4⟩ | ⟨e1, e2⟩
            · have HC0 := Lib.hid e1
              have HQ7 := Lib.hid (show IntRow w.heap.size W6 v5 (dmQ f g) by rw [e3]; exact intRow_lower HQ6.out hbs2)
              have HR7 := Lib.hid (show IntRow w.heap.size W6 v6 (dmS f g) by rw [e4]; exact intRow_lower HR6.out hbs5)
              rw [e2]
              clear e1 e2 e3 e4 HQ5 HQ6 HR6
              go_wp2_with fail
              go_ret3
              exact ⟨v5, v6, congrArg (fun c => Ending.returned (.tuple #[v5, v6, .int .i64 c])) HC0.out.symm, HQ7.out, HR7.out, HB6.out, HAP.out⟩
            · have HC3 := Lib.hid e1
              obtain ⟨e6, e7⟩ := dm_none (f := f) (g := g) (by rw [e1]; omega)
              have HQ7 := Lib.hid (show IntRow w.heap.size W6 (.slice none 0 0) (dmQ f g) by rw [e6]; exact intRow_nil _ _)
              have HR7 := Lib.hid (show IntRow w.heap.size W6 (.slice none 0 0) (dmS f g) by rw [e7]; exact intRow_nil _ _)
              rw [e2]
              clear e1 e2 e6 e7
              go_wp2_with fail
              go_ret3
              exact ⟨_, _, congrArg (fun c => Ending.returned (.tuple #[.slice none 0 0, .slice none 0 0, .int .i64 c])) HC3.out.symm, HQ7.out, HR7.out, HB6.out, .inl rfl⟩
end Go.Proofs.Ytbolmmgkmgmfeaa
