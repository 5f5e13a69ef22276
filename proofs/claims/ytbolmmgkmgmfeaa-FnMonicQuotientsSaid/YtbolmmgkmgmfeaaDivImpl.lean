/- Contracts of the walk: chapter 7 in impl: division by a monic polynomial. -/
import Derived.Test.YtbolmmgkmgmfeaaDivM
import Derived.Test.YtbolmmgkmgmfeaaPolyImpl3
import Derived.OwnWalk
namespace Go.Proofs.Ytbolmmgkmgmfeaa
open Go.RowKit
set_option linter.unusedVariables false
set_option linter.unusedSimpArgs false
set_option maxRecDepth 20000
theorem isMonic_any {o : Option Addr} {n c : Nat} {l : List Int} {w : World} (h : Seen w o n c l) :
    Calls Try.prog 58 #[.slice o n c] w fun e w' => e = .returned (.bool (monB l)) ∧ w = w' := by
  obtain ⟨hl, hn, hno, hnc, g, h1, h2⟩ := h
  clear hno hnc
  by_cases h0 : n = 0
  · have HP := Lib.hid (show monB l = false by simp [monB, ← hl, h0])
    clear h1 h2 hl
    subst h0
    go_enter Try.func58, Try.ntmps58
    go_wp2_with fail
    go_ret
    rw [HP.out]; exact ⟨rfl, rfl⟩
  · obtain ⟨rfl, _⟩ := h1 (by omega)
    have a2 := h2 (n - 1) (by omega)
    have HP := Lib.hid (show monB l = (l.getD (n - 1) 0 == 1) by simp [monB, ← hl, h0])
    generalize l.getD (n - 1) 0 = x at *
    have h0' : 0 < n := by omega
    have hn1 : (n : Int) - 1 = ((n - 1 : Nat) : Int) := by omega
    clear h1 h2 hl
    go_enter Try.func58, Try.ntmps58
    go_wp2_with fail
    go_ret
    rw [HP.out]; exact ⟨rfl, rfl⟩
set_option maxHeartbeats 2000000 in
theorem implDivM_any {o : Option Addr} {n c0 : Nat} {f g : List Int} {B : Nat} {w0 W : World} (hf : polyB f = true) (hg : polyB g = true) (hm : monB g = true)
    (hN : Nine W B (padL f)) (hS : Seen w0 o n c0 g) (hB : w0.heap.size ≤ B) (hb : Below w0.heap.size w0 W) :
    Calls Try.prog 60 #[.pointer (some ⟨B, 0, none⟩), .slice o n c0] W fun e W' =>
      Below w0.heap.size w0 W' ∧ ∃ rl ql, e = .returned (.agg (arrV ql)) ∧ Nine W' B rl ∧ DSt f g (10 - g.length) rl ql := by
  obtain ⟨hl, hn, hno, hnc, a, h1, h2⟩ := hS
  obtain ⟨hl1, _⟩ := monB_of hm
  obtain ⟨rfl, hag⟩ := h1 (by omega)
  have hg9 : n ≤ 9 := by rw [hl]; exact (polyB_of hg).1
  have HG := Lib.hid (polyB_of hg).2.1
  have HF := Lib.hid (polyB_of hf).2.1
  have HL := Lib.hid hl
  have HC := Lib.hid h2
  have hbs := hb.size
  have hBW := hN.1
  obtain ⟨d, hd⟩ : ∃ d : Nat, d + 1 = n := ⟨n - 1, by omega⟩
  have hdn : (n : Int) - 1 = (d : Int) := by omega
  have hd8 : (d : Int) ≤ 8 := by omega
  have HD := Lib.hid hd
  have HD0 := Lib.hid (dst_start (g := g) (polyB_of hf).1)
  -- the two new blocks
  have hN1 := zero_new W
  have hB1 : Below w0.heap.size w0 (W.alloc (.cells #[.int .i64 0, .int .i64 0, .int .i64 0, .int .i64 0, .int .i64 0, .int .i64 0, .int .i64 0, .int .i64 0, .int .i64 0] 69)) := hb.alloc hbs _
  have hR1 : Nine (W.alloc (.cells #[.int .i64 0, .int .i64 0, .int .i64 0, .int .i64 0, .int .i64 0, .int .i64 0, .int .i64 0, .int .i64 0, .int .i64 0] 69)) B (padL f) := nine_next hN ((Below.refl _ _).alloc (Nat.le_refl _) _)
  have hs1 : (W.alloc (.cells #[.int .i64 0, .int .i64 0, .int .i64 0, .int .i64 0, .int .i64 0, .int .i64 0, .int .i64 0, .int .i64 0, .int .i64 0] 69)).heap.size = W.heap.size + 1 := by simp
  clear hno hnc h1 h2 hl hn hb hN hd
  go_enter Try.func60, Try.ntmps60
  go_upto_region 2 with fail
  generalize W.alloc (.cells #[.int .i64 0, .int .i64 0, .int .i64 0, .int .i64 0, .int .i64 0, .int .i64 0, .int .i64 0, .int .i64 0, .int .i64 0] 69) = W1 at *
  have hN2 := zero_new W1
  have hB2 : Below w0.heap.size w0 (W1.alloc (.cells #[.int .i64 0, .int .i64 0, .int .i64 0, .int .i64 0, .int .i64 0, .int .i64 0, .int .i64 0, .int .i64 0, .int .i64 0] 69)) := hB1.alloc hB1.size _
  have hR2 := nine_next hR1 ((Below.refl W1.heap.size W1).alloc (Nat.le_refl _) (.cells #[.int .i64 0, .int .i64 0, .int .i64 0, .int .i64 0, .int .i64 0, .int .i64 0, .int .i64 0, .int .i64 0, .int .i64 0] 69))
  have hN3 := nine_next hN1 ((Below.refl W1.heap.size W1).alloc (Nat.le_refl _) (.cells #[.int .i64 0, .int .i64 0, .int .i64 0, .int .i64 0, .int .i64 0, .int .i64 0, .int .i64 0, .int .i64 0, .int .i64 0] 69))
  generalize W1.alloc (.cells #[.int .i64 0, .int .i64 0, .int .i64 0, .int .i64 0, .int .i64 0, .int .i64 0, .int .i64 0, .int .i64 0, .int .i64 0] 69) = W2 at *
  rw [hs1] at hN2
  obtain ⟨RB, hRB⟩ : ∃ x, W.heap.size = x := ⟨_, rfl⟩
  rw [hRB] at hN2 hN3 hBW hbs ⊢
  have hBQ : B ≠ RB + 1 := by omega
  have hBR : B ≠ RB := by omega
  have hQB0 : w0.heap.size ≤ RB + 1 := by omega
  obtain ⟨QB, hQB⟩ : ∃ x, RB + 1 = x := ⟨_, rfl⟩
  have hRQ : RB ≠ QB := by omega
  rw [hQB] at hN2 hBQ hQB0 ⊢
  have HR0 := Lib.hid hR2
  have HQ0 := Lib.hid hN2
  have HZ0 := Lib.hid hN3
  have HB0 := Lib.hid hB2
  clear hN1 hB1 hR1 hs1 hN2 hB2 hR2 hN3 hRB hQB
  go_wp2_with fail
  go_loopw [7] (fun s wr => ∃ (k : Nat) (y : Int) (rl ql : List Int), k + n ≤ 10 ∧ s = .int .i64 y ∧ y = 9 - (n : Int) - (k : Int) ∧ Nine wr B rl ∧ Nine wr QB ql ∧ Nine wr RB (tabL 9 fun _ => 0) ∧ DSt f g k rl ql ∧ Below w0.heap.size w0 wr) (fun s _ => (intOf s + 1).toNat)
  case atStart => exact ⟨0, 8 - (d : Int), padL f, tabL 9 fun _ => 0, by omega, by first | rfl | go_num, by have := HD.out; omega, HR0.out, HQ0.out, HZ0.out, HD0.out, HB0.out⟩
  case round =>
    obtain ⟨k, y, rl, ql, hk, rfl, hy, hr, hq, hz, hst, hb⟩ := hrel
    have HR := Lib.hid hr
    have HQ := Lib.hid hq
    have HZ := Lib.hid hz
    have HB := Lib.hid hb
    have HT := Lib.hid hst
    clear hr hq hz hb hst HR0 HQ0 HZ0 HB0 HD0
    by_cases hlt : 0 ≤ y
    · obtain ⟨i, hi⟩ : ∃ i : Nat, y = i := ⟨y.toNat, by omega⟩
      subst hi
      have hik : i + g.length + k = 9 := by have := HL.out; omega
      have HIK := Lib.hid hik
      obtain ⟨m, hm⟩ : ∃ m, i + d = m := ⟨_, rfl⟩
      have him : (i : Int) + (d : Int) = (m : Int) := by omega
      have hm9 : m < 9 := by have := HL.out; have := HD.out; omega
      have hi9 : i < 9 := by omega
      have wm : IntKind.i64.wrap (m : Int) = (m : Int) := IntWalk.i64_in _ (by omega)
      have him9 : (m : Int) < 9 := by omega
      have hii9 : (i : Int) < 9 := by omega
      have c1 := nine_at HR.out hm9
      have c2 := nine_at HQ.out hi9
      have f2 := nine_frozen HQ.out hi9
      obtain ⟨c, hc⟩ : ∃ c, rl.getD m 0 = c := ⟨_, rfl⟩
      rw [hc] at c1
      have HSTEP := Lib.hid (dst_step (c := c) HF.out HG.out (by omega) hik HT.out (by rw [← hc, ← hm, show g.length - 1 = d by have := HL.out; have := HD.out; omega]))
      have hr9 := HT.out.1
      have hq9 := HT.out.2.1
      have HQ1 := Lib.hid (nine_set HQ.out hi9 c)
      have HR1 := Lib.hid (nine_other (k := i) HR.out (Ne.symm hBQ) (.int .i64 c))
      have HZ1 := Lib.hid (nine_other (k := i) HZ.out (Ne.symm hRQ) (.int .i64 c))
      have HB1 := Lib.hid (HB.out.setCell (p := ⟨QB, i, none⟩) hQB0 (.int .i64 c))
      have HQG := Lib.hid (show (ql.set i c).getD i 0 = c by simp [List.getD, show i < ql.length by omega])
      have HS0 := Lib.hid (subW_zero (g := g) (c := c) (i := i) hr9)
      have HY := Lib.hid hy
      clear hc hm hik hr9 hq9 hy HR HQ HZ HB HT
      go_upto_region 7 with fail
      generalize wr.setCell ⟨QB, i, none⟩ (.int .i64 c) = W3 at *
      clear c1 c2 f2
      go_wp2_with fail
      go_loopw [30] (fun s wr => ∃ j : Nat, j ≤ n ∧ s = .int .i64 j ∧ Nine wr B (subW rl g c i j) ∧ Nine wr QB (ql.set i c) ∧ Nine wr RB (tabL 9 fun _ => 0) ∧ Below w0.heap.size w0 wr) (fun s _ => n - (intOf s).toNat)
      case atStart => exact ⟨0, Nat.zero_le _, rfl, by rw [HS0.out]; exact HR1.out, HQ1.out, HZ1.out, HB1.out⟩
      case round =>
        obtain ⟨j, hj, rfl, hr, hq, hz, hb⟩ := hrel
        have HR := Lib.hid hr
        have HQ := Lib.hid hq
        have HZ := Lib.hid hz
        have HB := Lib.hid hb
        clear hr hq hz hb HR1 HQ1 HZ1 HB1 HS0
        by_cases hltj : j < n
        · obtain ⟨t, ht⟩ : ∃ t, i + j = t := ⟨_, rfl⟩
          have hijt : (i : Int) + (j : Int) = (t : Int) := by omega
          have ht9 : t < 9 := by have := HIK.out; have := HL.out; omega
          have wt : IntKind.i64.wrap (t : Int) = (t : Int) := IntWalk.i64_in _ (by omega)
          have ht9' : (t : Int) < 9 := by omega
          have b2 := HC.out j hltj
          rw [← HB.out.cell (p := ⟨a, j, none⟩) hag] at b2
          have c4 := nine_at HR.out ht9
          rw [subW_at ht ht9] at c4
          have f4 := nine_frozen HR.out ht9
          have c5 := nine_at HQ.out hi9
          rw [HQG.out] at c5
          have HE := Lib.hid (subW_step (r := rl) (g := g) (c := c) ht ht9)
          obtain ⟨z, hzz⟩ : ∃ x, g.getD j 0 = x := ⟨_, rfl⟩
          obtain ⟨x, hx⟩ : ∃ x, rl.getD t 0 = x := ⟨_, rfl⟩
          rw [hzz] at b2 HE
          rw [hx] at c4 HE
          obtain ⟨p, hp⟩ : ∃ p, IntKind.i64.wrap (c * z) = p := ⟨_, rfl⟩
          rw [hp] at HE
          obtain ⟨q, hq⟩ : ∃ q, IntKind.i64.wrap (x - p) = q := ⟨_, rfl⟩
          rw [hq] at HE
          clear hzz hx ht
          go_upto_region 10 with fail
          refine wp_region_still_tail 15 (by kernel_rfl) (by kernel_rfl) ?_
          simp only [List.take_succ_cons, List.take_zero, List.drop_succ_cons, List.drop_zero]
          repeat still_step
          refine wpStill_nil ?_
          change wpList _ _ _ _ _ wr.drew
          have HR1 := Lib.hid (nine_drew HR.out)
          have HQ1 := Lib.hid (nine_drew HQ.out)
          have HZ1 := Lib.hid (nine_drew HZ.out)
          have HB1 := Lib.hid (below_drewN HB.out 1)
          replace f4 : wr.drew.frozen? ⟨B, t, none⟩ = false := f4
          replace c4 : wr.drew.cell? ⟨B, t, none⟩ = _ := c4
          replace HB1 : Hid (Below w0.heap.size w0 wr.drew) := HB1
          clear HR HQ HZ HB b2 c5
          generalize wr.drew = W4 at *
          have HR3 := Lib.hid (by have hs := nine_set HR1.out ht9 q; rw [HE.out] at hs; exact hs)
          have HQ3 := Lib.hid (nine_other (k := t) HQ1.out hBQ (.int .i64 q))
          have HZ3 := Lib.hid (nine_other (k := t) HZ1.out hBR (.int .i64 q))
          have HB3 := Lib.hid (HB1.out.setCell (p := ⟨B, t, none⟩) hB (.int .i64 q))
          clear HR1 HQ1 HZ1 HB1
          go_wp2_with fail
          exact ⟨⟨j + 1, by omega, by go_num, HR3.out, HQ3.out, HZ3.out, HB3.out⟩, by simp only [intOf]; omega⟩
        · have hjn : j = g.length := by have := HL.out; omega
          have HR2 := Lib.hid (show Nine wr B (subW rl g c i g.length) by rw [← hjn]; exact HR.out)
          clear HR
          go_wp2_with fail
          exact ⟨⟨k + 1, (i : Int) - 1, _, _, by have := HIK.out; have := HL.out; omega, by go_num, by have := HY.out; omega, HR2.out, HQ.out, HZ.out, HSTEP.out, HB.out⟩, by simp only [intOf]; omega⟩
    · have hkn : k = 10 - g.length := by have := HL.out; omega
      have HT2 := Lib.hid (show DSt f g (10 - g.length) rl ql by rw [← hkn]; exact HT.out)
      have hql := HT.out.2.1
      have HQL := Lib.hid hql
      clear HT hkn hql hy
      go_upto_region 12 with fail
      refine wp_region_lit ?_
      refine wpList_load_nine rfl (.tmp 5) rfl QB rfl HQ.out ?_
      refine wpList_store_nine rfl (.tmp 4) (.tmp 51) rfl RB rfl rfl HQL.out HZ.out ?_
      have N4 := Lib.hid (nine_full HZ.out HQL.out)
      have R4 := Lib.hid (nine_apart HR.out (Ne.symm hBR) (ql.map (Value.int .i64)) 0 HR.out)
      have B4 := Lib.hid (below_setCells (w := w0) (w1 := w0) (b := RB) (by omega) (ql.map (Value.int .i64)) 0 HB.out)
      generalize wr.setCells RB 0 (ql.map (Value.int .i64)) = W4 at *
      clear HR HQ HZ HB
      go_wp2
      exact bodyPost_ret (results_cell_mid (p := 4) (ty := 69) rfl _ _ RB _ _ rfl (nine_range N4.out) Try.underlying69 rfl (by rw [map_nine HQL.out]; exact Try.infoCo)) rfl ⟨B4.out, rl, ql, rfl, R4.out, HT2.out⟩
theorem monic_two {f g : List Int} : dmC f g = 1 ∨ (polyB f = true ∧ polyB g = true ∧ (dmC f g = 5 ∨ monB g = true)) := by
  unfold dmC
  cases hf : polyB f <;> cases hg : polyB g <;> cases hm : monB g <;> simp
theorem dmC_val {f g : List Int} (hf : polyB f = true) (hg : polyB g = true) (hm : monB g = true) : dmC f g = if dmOk f g then 0 else 3 := by simp [dmC, hf, hg, hm]
def Int2Post (l m : List Int) (c : Int) (w : World) (e : Ending) (w' : World) : Prop :=
  ∃ v u, e = .returned (.tuple #[v, u, .int .i64 c]) ∧ IntRow w.heap.size w' v l ∧ IntRow w.heap.size w' u m ∧ Below w.heap.size w w' ∧ (v.ownBlock = none ∨ v.ownBlock ≠ u.ownBlock)
theorem apart_of {w1 w2 : World} {b : Nat} {v u : Value} {l m : List Int} (h : IntRow b w1 v l) (h2 : IntRow w1.heap.size w2 u m) : v.ownBlock = none ∨ v.ownBlock ≠ u.ownBlock := by
  cases hv : v.ownBlock with
  | none => exact .inl rfl
  | some k =>
    right
    intro e
    have a1 := World.ownsRow.lt h k hv
    have a2 := World.ownsRow.lt h2 k e.symm
    omega
theorem dm_none {f g : List Int} (h : dmC f g ≠ 0) : dmQ f g = [] ∧ dmS f g = [] := by simp [dmQ, dmS, h]
theorem dm_some {f g : List Int} (h : dmC f g = 0) : dmQ f g = trimL (dmQl f g) ∧ dmS f g = trimL (dmR f g) := by simp [dmQ, dmS, h]
set_option maxHeartbeats 2000000 in
theorem implDM_any {o o' : Option Addr} {n n' c c' : Nat} {f g : List Int} {w : World} (h : Seen w o n c f) (h' : Seen w o' n' c' g) :
    Calls Try.prog 22 #[.slice o n c, .slice o' n' c'] w (Int2Post (dmQ f g) (dmS f g) (dmC f g) w) := by
  have HS := Lib.hid h
  have HS' := Lib.hid h'
  cases hp : polyB f
  · have HC := Lib.hid (show dmC f g = 1 by simp [dmC, hp])
    obtain ⟨e1, e2⟩ := dm_none (f := f) (g := g) (by rw [HC.out]; omega)
    rw [e1, e2, HC.out]
    clear h h' e1 e2
    go_enter Try.func22, Try.ntmps22
    go_wp2_with fail
    refine (implIsPoly_any HS.out).mono ?_
    rw [hp]
    rintro e w2 ⟨rfl, rfl⟩
    go_wp2_with fail
    go_ret3
    exact ⟨_, _, rfl, intRow_nil _ _, intRow_nil _ _, Below.refl _ _, .inl rfl⟩
  · cases hq : polyB g
    · have HC := Lib.hid (show dmC f g = 1 by simp [dmC, hp, hq])
      obtain ⟨e1, e2⟩ := dm_none (f := f) (g := g) (by rw [HC.out]; omega)
      rw [e1, e2, HC.out]
      clear h h' e1 e2
      go_enter Try.func22, Try.ntmps22
      go_wp2_with fail
      refine (implIsPoly_any HS.out).mono ?_
      rw [hp]
      rintro e w2 ⟨rfl, rfl⟩
      go_wp2_with fail
      refine (implIsPoly_any HS'.out).mono ?_
      rw [hq]
      rintro e w2 ⟨rfl, rfl⟩
      go_wp2_with fail
      go_ret3
      exact ⟨_, _, rfl, intRow_nil _ _, intRow_nil _ _, Below.refl _ _, .inl rfl⟩
    · cases hm : monB g
      · have HC := Lib.hid (show dmC f g = 5 by simp [dmC, hp, hq, hm])
        obtain ⟨e1, e2⟩ := dm_none (f := f) (g := g) (by rw [HC.out]; omega)
        rw [e1, e2, HC.out]
        clear h h' e1 e2
        go_enter Try.func22, Try.ntmps22
        go_wp2_with fail
        refine (implIsPoly_any HS.out).mono ?_
        rw [hp]
        rintro e w2 ⟨rfl, rfl⟩
        go_wp2_with fail
        refine (implIsPoly_any HS'.out).mono ?_
        rw [hq]
        rintro e w2 ⟨rfl, rfl⟩
        go_wp2_with fail
        refine (isMonic_any HS'.out).mono ?_
        rw [hm]
        rintro e w2 ⟨rfl, rfl⟩
        go_wp2_with fail
        go_ret3
        exact ⟨_, _, rfl, intRow_nil _ _, intRow_nil _ _, Below.refl _ _, .inl rfl⟩
      · have HC := Lib.hid (dmC_val hp hq hm)
        have HX := Lib.hid (And.intro hp (And.intro hq hm))
        have hn9 : n ≤ 9 := by rw [h.1]; exact (polyB_of hp).1
        have HL9 := Lib.hid (And.intro (monB_of hm).1 (polyB_of hq).1)
        clear h h'
        go_enter Try.func22, Try.ntmps22
        go_wp2_with fail
        refine (implIsPoly_any HS.out).mono ?_
        rw [hp]
        rintro e w2 ⟨rfl, rfl⟩
        go_wp2_with fail
        refine (implIsPoly_any HS'.out).mono ?_
        rw [hq]
        rintro e w2 ⟨rfl, rfl⟩
        go_wp2_with fail
        refine (isMonic_any HS'.out).mono ?_
        rw [hm]
        rintro e w2 ⟨rfl, rfl⟩
        go_wp2_with fail
        refine (coefOf_any HS.out hn9).mono ?_
        rintro e W1 ⟨rfl, hb1⟩
        have hst := store_new W1 (padL_length f)
        go_upto_region 6 with fail
        have hN := nine_new W1 (padL f) 69 (padL_length f)
        have hB : Below w.heap.size w (W1.alloc (.cells (arrV (padL f)) 69)) := hb1.alloc hb1.size _
        have hsz := hb1.size
        generalize W1.alloc (.cells (arrV (padL f)) 69) = W2 at hN hB ⊢
        generalize W1.heap.size = B at hN hsz ⊢
        have HN := Lib.hid hN
        have HB := Lib.hid hB
        clear hst hN hB hb1
        go_wp2_with fail
        refine (implDivM_any HX.out.1 HX.out.2.1 HX.out.2.2 HN.out HS'.out hsz HB.out).mono ?_
        rintro e W3 ⟨hb3, rl, ql, rfl, hr3, hst3⟩
        have HQL := Lib.hid hst3.2.1
        have HRL := Lib.hid hst3.1
        have HE := Lib.hid (dst_end HL9.out.1 HL9.out.2 hst3)
        have HB3 := Lib.hid hb3
        have HR3 := Lib.hid hr3
        clear hb3 hr3 hst3 HN HB
        go_wp2_with fail
        refine (asResult_any HQL.out _).mono ?_
        rintro e W4 ⟨v4, rfl, hr4, hb4⟩
        have HR4 := Lib.hid (nine_next HR3.out hb4)
        have HQ4 := Lib.hid hr4
        have HB4 := Lib.hid (HB3.out.trans (hb4.mono HB3.out.size))
        clear hr4 hb4
        go_upto_region 7 with fail
        refine wp_region_lit ?_
        refine wpList_load_nine rfl (.tmp 7) rfl B rfl HR4.out ?_
        go_wp2_with fail
        refine (asResult_any HRL.out _).mono ?_
        rintro e W5 ⟨v5, rfl, hr5, hb5⟩
        have HQ5 := Lib.hid (row_below HQ4.out hb5 (Nat.le_refl _))
        have HR5 := Lib.hid hr5
        have HB5 := Lib.hid (HB4.out.trans (hb5.mono HB4.out.size))
        have HAP := Lib.hid (apart_of HQ4.out HR5.out)
        have hs3 := HB3.out.size
        have hs4 := HB4.out.size
        clear hr5 hb5
        rcases HE.out with ⟨e1, e2, e3, e4, e5⟩ | ⟨e1, e2⟩ | ⟨e1, e2, e3⟩
        · have HC0 := Lib.hid (show dmC f g = 0 by rw [HC.out, e3]; rfl)
          obtain ⟨e6, e7⟩ := dm_some HC0.out
          have HQ6 := Lib.hid (show IntRow w.heap.size W5 v4 (dmQ f g) by rw [e6, ← e4]; exact intRow_lower HQ5.out hs3)
          have HR6 := Lib.hid (show IntRow w.heap.size W5 v5 (dmS f g) by rw [e7, ← e5]; exact intRow_lower HR5.out hs4)
          rw [e1, e2]
          clear e1 e2 e3 e4 e5 e6 e7 HQ4 HQ5 HR5 HR4
          go_wp2_with fail
          go_ret3
          exact ⟨v4, v5, congrArg (fun c => Ending.returned (.tuple #[v4, v5, .int .i64 c])) HC0.out.symm, HQ6.out, HR6.out, HB5.out, HAP.out⟩
        · have HC3 := Lib.hid (show dmC f g = 3 by rw [HC.out, e2]; rfl)
          obtain ⟨e6, e7⟩ := dm_none (f := f) (g := g) (by rw [HC3.out]; omega)
          have HQ6 := Lib.hid (show IntRow w.heap.size W5 (.slice none 0 0) (dmQ f g) by rw [e6]; exact intRow_nil _ _)
          have HR6 := Lib.hid (show IntRow w.heap.size W5 (.slice none 0 0) (dmS f g) by rw [e7]; exact intRow_nil _ _)
          obtain ⟨x, hx⟩ : ∃ x, resC ql = x := ⟨_, rfl⟩
          rw [hx] at e1 ⊢
          clear hx e2 e6 e7 HE
          have e1' : (x != 0) = true := by simpa using e1
          go_wp2_with fail
          go_ret3
          exact ⟨_, _, congrArg (fun c => Ending.returned (.tuple #[.slice none 0 0, .slice none 0 0, .int .i64 c])) HC3.out.symm, HQ6.out, HR6.out, HB5.out, .inl rfl⟩
        · have HC3 := Lib.hid (show dmC f g = 3 by rw [HC.out, e3]; rfl)
          obtain ⟨e6, e7⟩ := dm_none (f := f) (g := g) (by rw [HC3.out]; omega)
          have HQ6 := Lib.hid (show IntRow w.heap.size W5 (.slice none 0 0) (dmQ f g) by rw [e6]; exact intRow_nil _ _)
          have HR6 := Lib.hid (show IntRow w.heap.size W5 (.slice none 0 0) (dmS f g) by rw [e7]; exact intRow_nil _ _)
          rw [e1]
          obtain ⟨x, hx⟩ : ∃ x, resC rl = x := ⟨_, rfl⟩
          rw [hx] at e2 ⊢
          clear hx e1 e3 e6 e7 HE
          have e2' : (x != 0) = true := by simpa using e2
          go_wp2_with fail
          go_ret3
          exact ⟨_, _, congrArg (fun c => Ending.returned (.tuple #[.slice none 0 0, .slice none 0 0, .int .i64 c])) HC3.out.symm, HQ6.out, HR6.out, HB5.out, .inl rfl⟩
end Go.Proofs.Ytbolmmgkmgmfeaa
