/- Contracts of the walk: chapter 8 in spec: division by a prime. -/
import Derived.Test.YtidcpmhbkldpeaaModSpec
import Derived.Test.YtidcpmhbkldpeaaPolyLaw0
import Derived.OneCell
namespace Go.Proofs.Ytidcpmhbkldpeaa
open Go.RowKit
set_option linter.unusedVariables false
set_option linter.unusedSimpArgs false
set_option maxRecDepth 20000
theorem row_other8 {b : Nat} {w : World} {v : Value} {l : List Int} (h : IntRow b w v l) {a : Addr} (ha : v.ownBlock ≠ some a.block) (u : Value) : IntRow b (w.setCell a u) v l := ownsRow_setCell_other h ha u
theorem own_ne8 {G Q n c : Nat} (h : G ≠ Q) : (Value.slice (some ⟨G, 0, none⟩) n c).ownBlock ≠ some Q := by
  show some G ≠ some Q
  exact fun e => h (by injection e)
theorem apart8 {w1 w2 : World} {b : Nat} {v u : Value} {l m : List Int} (h : IntRow b w1 v l) (h2 : IntRow w1.heap.size w2 u m) : v.ownBlock = none ∨ v.ownBlock ≠ u.ownBlock := by
  cases hv : v.ownBlock with
  | none => exact .inl rfl
  | some k =>
    right
    intro e
    have a1 := World.ownsRow.lt h k hv
    have a2 := World.ownsRow.lt h2 k e.symm
    omega
/-- two lists as results -/
def Own2Post (l m : List Int) (w : World) (e : Ending) (w' : World) : Prop :=
  ∃ v u, e = .returned (.tuple #[v, u]) ∧ IntRow w.heap.size w' v l ∧ IntRow w.heap.size w' u m ∧ Below w.heap.size w w' ∧ (v.ownBlock = none ∨ v.ownBlock ≠ u.ownBlock)
/-- what the division's numbers are like -/
theorem mdS_lt {p inv : Int} {f g : List Int} {N : Nat} (hf : ModP p f) (k j : Nat) : 0 ≤ mdS p inv g (fun j => f.getD j 0) N k j ∧ mdS p inv g (fun j => f.getD j 0) N k j < p :=
  mdS_rng (by have := hf.rng 0; omega) hf.rng k j
theorem invP_lt {p : Int} {g : List Int} (p2 : 2 ≤ p) : 0 ≤ invP p g ∧ invP p g < p := ⟨Int.emod_nonneg _ (by omega), Int.emod_lt_of_pos _ (by omega)⟩
theorem prod_small {p x y : Int} (p97 : p ≤ 97) (hx : 0 ≤ x ∧ x < p) (hy : 0 ≤ y ∧ y < p) : 0 ≤ x * y ∧ x * y ≤ 9409 := by
  have h1 := Int.mul_nonneg hx.1 hy.1
  have h2 := Int.mul_le_mul (show x ≤ 97 by omega) (show y ≤ 97 by omega) hy.1 (by omega)
  omega
set_option maxHeartbeats 8000000 in
theorem l08Div_any (p : Int) (hs : smallB p = true) {o o' : Option Addr} {n n' c c' : Nat} {f g : List Int} {w : World} (h : Seen w o n c f) (h' : Seen w o' n' c' g) (hf : ModP p f) (hg : ModP p g) (h0 : g.length ≠ 0) (hn20 : n ≤ 20) (hn9' : n' ≤ 20) :
    Calls Try.prog 78 #[.int .i64 p, .slice o n c, .slice o' n' c'] w (Own2Post (quoP p f g) (remP p f g) w) := by
  obtain ⟨p2, p97, pp⟩ := small_prime hs
  have HS := Lib.hid h
  obtain ⟨hl', hn', hno', hnc', a', h1', h2'⟩ := h'
  obtain ⟨rfl, hag'⟩ := h1' (by omega)
  have b1 := h2' (n' - 1) (by omega)
  have hn1 : (n' : Int) - 1 = ((n' - 1 : Nat) : Int) := by omega
  have HC' := Lib.hid h2'
  have HL' := Lib.hid hl'
  have HL := Lib.hid h.1
  obtain ⟨i0, hi, hz0, hz1, hz2⟩ := info_parts Try.infoInt64
  have HI := Lib.hid hi
  have HZ0 := Lib.hid hz0
  have HZ1 := Lib.hid hz1
  have HZ2 := Lib.hid hz2
  have HF := Lib.hid hf
  have HG := Lib.hid hg
  have hpz : (p == 0) = false := by simp; omega
  have hle1 : 1 ≤ n' := by omega
  have hn1' : n' - 1 < n' := by omega
  have hlast := hg.rng (n' - 1)
  have HV := Lib.hid (show invP p g = bezX (g.getD (n' - 1) 0) p % p by unfold invP; rw [← hl'])
  generalize hla : g.getD (n' - 1) 0 = la at *
  obtain ⟨iv, hiv⟩ : ∃ x, invP p g = x := ⟨_, rfl⟩
  have hivb := invP_lt (p := p) (g := g) p2
  rw [hiv] at HV hivb
  have HIV := Lib.hid hiv
  obtain ⟨la0, la1⟩ := hlast
  obtain ⟨iv0, iv1⟩ := hivb
  clear h h1' h2' hl' hn' hno' hnc' hi hz0 hz1 hz2 hf hg h0 hla hiv
  go_enter Try.func78, Try.ntmps78
  go_wp2_with fail
  refine (specOwn_any HS.out).mono ?_
  rintro e W1 ⟨v, rfl, hr1, hb1⟩
  have HR1 := Lib.hid hr1
  have HB1 := Lib.hid hb1
  have hbs := hb1.size
  have b1' : W1.cell? ⟨a', n' - 1, none⟩ = some (.int .i64 la) := by rw [hb1.cell (p := ⟨a', n' - 1, none⟩) hag']; exact b1
  clear b1
  by_cases hle : n' ≤ n
  · obtain ⟨q, hqq⟩ : ∃ q, n + 1 - n' = q := ⟨_, rfl⟩
    have hsum : (n : Int) - (n' : Int) + 1 = (q : Int) := by omega
    have hq0 : max (0 : Int) (q : Int) = (q : Int) := by omega
    have hq9 : q ≤ 20 := by omega
    have hqn : q + g.length = f.length + 1 := by have := HL.out; have := HL'.out; omega
    have HQN := Lib.hid hqn
    have hr1' : W1.ownsRow w.heap.size 2 1 v n (f.map (Value.int .i64)) := by rw [HL.out]; exact hr1
    rcases row_shape hr1' with ⟨hz, _⟩ | ⟨_, G, cap, rfl, hbg, hgw⟩
    · omega
    clear hr1 hr1' hb1 hqn hqq
    have hm0 : max (0 : Int) ((n : Int) - (n' : Int) + 1) = (q : Int) := by omega
    go_upto_region 2 with fail
    go_wp2_with (at_make; refine wpList_make_full _ rfl (.tmp 22) (.tmp 22) 22 rfl W1.heap.size 2 i0 (.int .i64 0) 1 Try.underlying22 HI.out HZ0.out HZ1.out .i64 .i64 _ _ q rfl rfl rfl rfl (by rw [HZ2.out]; omega) (by unfold maxLen; omega) (Nat.le_refl _) ?_; intro w2 hown hgrow; have b2 : w2.cell? ⟨a', n' - 1, none⟩ = some (.int .i64 la) := (by rw [(HB1.out.grown hgrow hbs (fun k h => by cases h)).cell (p := ⟨a', n' - 1, none⟩) hag', ← HB1.out.cell (p := ⟨a', n' - 1, none⟩) hag']; exact b1'))
    have HB2 := Lib.hid (HB1.out.grown hgrow hbs (fun k h => by cases h))
    have HR2 := Lib.hid (show IntRow w.heap.size w2 (.slice (some ⟨G, 0, none⟩) n cap) f from World.ownsRow.kept HR1.out hgrow (.inr (by intro e; cases e)))
    have HQ2 := Lib.hid (int_made hown)
    have hGQ : G ≠ W1.heap.size := by omega
    generalize W1.heap.size = Q at *
    clear hown hgrow HR1 HB1 hm0 hsum hq0 b1'
    go_wp2_with fail
    refine (l02Inv8_any la p w2 la0 la1 p2 (by omega)).mono ?_
    rw [← HV.out]
    rintro e w3 ⟨rfl, rfl⟩
    clear b2
    go_wp2_with fail
    go_loopw [11] (fun s wr => ∃ (k : Nat) (y : Int), k + n' ≤ n + 1 ∧ s = .int .i64 y ∧ y = (n : Int) - (n' : Int) - (k : Int) ∧ IntRow w.heap.size wr (.slice (some ⟨G, 0, none⟩) n cap) (tabL n (mdS p iv g (fun j => f.getD j 0) n k)) ∧ IntRow Q wr (.slice (some ⟨Q, 0, none⟩) q q) (qX p iv f g q k) ∧ Below w.heap.size w wr) (fun s _ => (intOf s + 1).toNat)
    case atStart =>
      refine ⟨0, (q : Int) - 1, by omega, by first | rfl | go_num, by have := HQN.out; have := HL.out; have := HL'.out; omega, ?_, ?_, HB2.out⟩
      · have : f = tabL n (mdS p iv g (fun j => f.getD j 0) n 0) := by
          refine ext_getD (by rw [tabL_length]; exact HL.out.symm) fun i hi => ?_
          rw [tabL_getD (by have := HL.out; omega)]; rfl
        rw [← this]; exact HR2.out
      · rw [qX_zero HQN.out]; exact HQ2.out
    case round =>
      obtain ⟨k, y, hk, rfl, hy, hr, hqr, hb⟩ := hrel
      have HR := Lib.hid hr
      have HQ := Lib.hid hqr
      have HB := Lib.hid hb
      have HY := Lib.hid hy
      clear hr hqr hb HR2 HQ2 HB2
      by_cases hlt : 0 ≤ y
      · obtain ⟨i, hi⟩ : ∃ i : Nat, y = i := ⟨y.toNat, by omega⟩
        subst hi
        have hik : i + g.length + k = f.length := by have := HL.out; have := HL'.out; omega
        have HIK := Lib.hid hik
        obtain ⟨s, hs⟩ : ∃ s, i + n' = s := ⟨_, rfl⟩
        have his : (i : Int) + (n' : Int) = (s : Int) := by omega
        have hs0 : s ≤ 20 := by omega
        obtain ⟨m, hm2⟩ : ∃ m, m + 1 = s := ⟨s - 1, by omega⟩
        have hsm : (s : Int) - 1 = (m : Int) := by omega
        have hmn : m < n := by omega
        have hiq : i < q := by have := HQN.out; have := HL.out; have := HL'.out; omega
        have ws : IntKind.i64.wrap (s : Int) = (s : Int) := IntWalk.i64_in _ (by omega)
        have wm : IntKind.i64.wrap (m : Int) = (m : Int) := IntWalk.i64_in _ (by omega)
        have c1 := int_at HR.out (tabL_length _ _) hmn
        rw [tabL_getD hmn] at c1
        have hce : mdC p iv g (fun j => f.getD j 0) n k = mdS p iv g (fun j => f.getD j 0) n k m * iv % p := by unfold mdC; rw [show n - 1 - k = m by have := HIK.out; have := HL.out; have := HL'.out; omega]
        have HCE := Lib.hid (show mdC p iv g (fun j => f.getD j 0) f.length k = mdC p iv g (fun j => f.getD j 0) n k by rw [← HL.out])
        have HSUB := Lib.hid (subX_end (p := p) (inv := iv) (g := g) (r0 := fun j => f.getD j 0) (show i + g.length + k = n by rw [HL.out]; exact hik))
        have HQS := Lib.hid (qX_step (p := p) (inv := iv) (f := f) (g := g) HQN.out hik)
        rw [HCE.out] at HQS
        obtain ⟨y0, y1⟩ := mdS_lt (inv := iv) (g := g) (N := n) HF.out k m
        have hpb := prod_small p97 ⟨y0, y1⟩ ⟨iv0, iv1⟩
        have HBD := Lib.hid (fun j => mdS_lt (inv := iv) (g := g) (N := n) HF.out k j)
        obtain ⟨z, hz⟩ : ∃ z, mdS p iv g (fun j => f.getD j 0) n k m = z := ⟨_, rfl⟩
        rw [hz] at c1 hce hpb y0 y1
        obtain ⟨x, hx⟩ : ∃ x, mdC p iv g (fun j => f.getD j 0) n k = x := ⟨_, rfl⟩
        rw [hx] at hce HSUB HQS
        have wz : IntKind.i64.wrap (z * iv) = z * iv := IntWalk.i64_in _ (by omega)
        have tz : (z * iv).tmod p = x := by rw [tmod_nonneg hpb.1, hce]
        have hx0 : 0 ≤ x ∧ x < p := by rw [hce]; exact ⟨Int.emod_nonneg _ (by omega), Int.emod_lt_of_pos _ (by omega)⟩
        have wx : IntKind.i64.wrap x = x := IntWalk.i64_in _ (by omega)
        have HX0 := Lib.hid hx0
        have f2 := int_frozen HQ.out (qX_length p iv f g q k) i
        have c2 := int_at HQ.out (qX_length p iv f g q k) hiq
        obtain ⟨y2, hy2⟩ : ∃ y2, (qX p iv f g q k).getD i 0 = y2 := ⟨_, rfl⟩
        rw [hy2] at c2
        have HQ1 := Lib.hid (int_stored HQ.out (qX_length p iv f g q k) i x)
        rw [HQS.out] at HQ1
        have HR1 := Lib.hid (row_other8 HR.out (a := ⟨Q, i, none⟩) (own_ne8 hGQ) (.int .i64 x))
        have HB1 := Lib.hid (HB.out.setCell (p := ⟨Q, i, none⟩) hbs (.int .i64 x))
        have hiq' : (i : Int) < (q : Int) := by omega
        have hmn' : (m : Int) < (n : Int) := by omega
        clear HQ hy2 HQS hce hx hz hs hm2 hik HCE hy hx0 hpb y0 y1
        go_upto_region 9 with fail
        generalize wr.setCell ⟨Q, i, none⟩ (.int .i64 x) = W3 at *
        clear c1 c2 f2 HR HB wz tz
        go_wp2_with fail
        go_loopw [13] (fun s wr => ∃ j : Nat, j ≤ n' ∧ s = .int .i64 j ∧ IntRow w.heap.size wr (.slice (some ⟨G, 0, none⟩) n cap) (subX p (mdS p iv g (fun j => f.getD j 0) n k) g x n i j) ∧ IntRow Q wr (.slice (some ⟨Q, 0, none⟩) q q) (qX p iv f g q (k + 1)) ∧ Below w.heap.size w wr) (fun s _ => n' - (intOf s).toNat)
        case atStart => exact ⟨0, Nat.zero_le _, rfl, by rw [subX_zero]; exact HR1.out, HQ1.out, HB1.out⟩
        case round =>
          obtain ⟨j, hj, rfl, hr, hqr, hb⟩ := hrel
          have HR := Lib.hid hr
          have HQ := Lib.hid hqr
          have HB := Lib.hid hb
          clear hr hqr hb HR1 HQ1 HB1
          by_cases hltj : j < n'
          · obtain ⟨t, ht⟩ : ∃ t, i + j = t := ⟨_, rfl⟩
            have hijt : (i : Int) + (j : Int) = (t : Int) := by omega
            have htn : t < n := by have := HIK.out; have := HL.out; have := HL'.out; omega
            have wt : IntKind.i64.wrap (t : Int) = (t : Int) := IntWalk.i64_in _ (by omega)
            have b2 := HC'.out j hltj
            rw [← HB.out.cell (p := ⟨a', j, none⟩) hag'] at b2
            have c4 := int_at HR.out (subX_length _ _ _ _ _ _ _) htn
            rw [subX_at ht htn] at c4
            have f4 := int_frozen HR.out (subX_length _ _ _ _ _ _ _) t
            have HE := Lib.hid (subX_step (p := p) (r := mdS p iv g (fun j => f.getD j 0) n k) (g := g) (c := x) ht htn)
            have hbd := HBD.out t
            have hmd := prod_small p97 HX0.out (HG.out.rng j)
            obtain ⟨z, hzz⟩ : ∃ x, g.getD j 0 = x := ⟨_, rfl⟩
            obtain ⟨r, hrr⟩ : ∃ x, mdS p iv g (fun j => f.getD j 0) n k t = x := ⟨_, rfl⟩
            rw [hzz] at b2 HE hmd
            rw [hrr] at c4 HE hbd
            have w1 : IntKind.i64.wrap (x * z) = x * z := IntWalk.i64_in _ (by omega)
            have w2 : IntKind.i64.wrap (r - x * z) = r - x * z := IntWalk.i64_in _ (by omega)
            have htn' : (t : Int) < (n : Int) := by omega
            have hltj' : (j : Int) < (n' : Int) := by omega
            clear hzz hrr ht hbd hmd
            go_upto_region 12 with fail
            refine wp_region_still_tail 20 (by kernel_rfl) (by kernel_rfl) ?_
            simp only [List.take_succ_cons, List.take_zero, List.drop_succ_cons, List.drop_zero]
            iterate 18 still_step
            still_call ((mod8_any (r - x * z) p _ p2 (by omega)).mono fun e w h => ⟨h.1, h.2.symm⟩)
            repeat still_step
            refine wpStill_nil ?_
            change wpList _ _ _ _ _ wr.drew
            have HR1 := Lib.hid (World.ownsRow.drew HR.out)
            have HQ1 := Lib.hid (World.ownsRow.drew HQ.out)
            have HB1 := Lib.hid (below_drewN HB.out 1)
            replace f4 : wr.drew.frozen? ⟨G, t, none⟩ = false := f4
            replace c4 : wr.drew.cell? ⟨G, t, none⟩ = _ := c4
            replace HR1 : Hid (IntRow w.heap.size wr.drew (.slice (some ⟨G, 0, none⟩) n cap) (subX p (mdS p iv g (fun j => f.getD j 0) n k) g x n i j)) := HR1
            replace HQ1 : Hid (IntRow Q wr.drew (.slice (some ⟨Q, 0, none⟩) q q) (qX p iv f g q (k + 1))) := HQ1
            replace HB1 : Hid (Below w.heap.size w wr.drew) := HB1
            clear HR HQ HB b2
            generalize wr.drew = W4 at *
            have HR3 := Lib.hid (int_stored HR1.out (subX_length _ _ _ _ _ _ _) t ((r - x * z) % p))
            rw [HE.out] at HR3
            have HQ3 := Lib.hid (row_other8 HQ1.out (a := ⟨G, t, none⟩) (own_ne8 (Ne.symm hGQ)) (.int .i64 ((r - x * z) % p)))
            have HB3 := Lib.hid (HB1.out.setCell (p := ⟨G, t, none⟩) hbg (.int .i64 ((r - x * z) % p)))
            clear HR1 HQ1 HB1
            go_wp2_with fail
            exact ⟨⟨j + 1, by omega, by go_num, HR3.out, HQ3.out, HB3.out⟩, by simp only [intOf]; omega⟩
          · have hjn : j = g.length := by have := HL'.out; omega
            have HR2 := Lib.hid (show IntRow w.heap.size wr (.slice (some ⟨G, 0, none⟩) n cap) (tabL n (mdS p iv g (fun j => f.getD j 0) n (k + 1))) by rw [← HSUB.out, ← hjn]; exact HR.out)
            clear HR
            go_wp2_with fail
            exact ⟨⟨k + 1, (i : Int) - 1, by have := HIK.out; have := HL.out; have := HL'.out; omega, by go_num, by have := HY.out; omega, HR2.out, HQ.out, HB.out⟩, by simp only [intOf]; omega⟩
      · have hkq : k = q := by have := HQN.out; have := HL.out; have := HL'.out; omega
        subst hkq
        have t1 : trimL (qX p iv f g k k) = quoP p f g := by rw [← HIV.out]; exact qX_end HQN.out
        have t2 : trimL (tabL n (mdS p iv g (fun j => f.getD j 0) n k)) = remP p f g := by rw [← HIV.out]; exact rX_end HL.out (by have := HQN.out; omega)
        have T1 := Lib.hid t1
        have T2 := Lib.hid t2
        have lq : (qX p iv f g k k).length = k := qX_length _ _ _ _ _ _
        have lr : (tabL n (mdS p iv g (fun j => f.getD j 0) n k)).length = n := tabL_length _ _
        have SQ := Lib.hid (show Seen wr (some ⟨Q, 0, none⟩) k k (qX p iv f g k k) by
          have h := row_seen (o := some ⟨Q, 0, none⟩) (n := (qX p iv f g k k).length) (c := k) (by rw [lq]; exact HQ.out) (by rw [lq]; omega)
          rw [lq] at h; exact h)
        have hbs2 := HB.out.size
        generalize qX p iv f g k k = ql at *
        generalize tabL n (mdS p iv g (fun j => f.getD j 0) n k) = rl at *
        clear t1 t2 HQ hy
        go_wp2_with fail
        refine (specTrim_any SQ.out).mono ?_
        rw [T1.out]
        rintro e W5 ⟨v5, rfl, hr5, hb5⟩
        have HR5 := Lib.hid (row_below HR.out hb5 (Nat.le_refl _))
        have HB5 := Lib.hid (HB.out.trans (hb5.mono HB.out.size))
        have HQ5 := Lib.hid hr5
        have SR := Lib.hid (show Seen W5 (some ⟨G, 0, none⟩) n cap rl by
          have h := row_seen (o := some ⟨G, 0, none⟩) (n := rl.length) (c := cap) (w := W5) (l := rl) (by rw [lr]; exact HR5.out) (by rw [lr]; omega)
          rw [lr] at h; exact h)
        have hbs5 := HB5.out.size
        clear hr5 hb5
        go_wp2_with fail
        refine (specTrim_any SR.out).mono ?_
        rw [T2.out]
        rintro e W6 ⟨v6, rfl, hr6, hb6⟩
        have HQ6 := Lib.hid (row_below HQ5.out hb6 (Nat.le_refl _))
        have HR6 := Lib.hid hr6
        have HAP := Lib.hid (apart8 HQ5.out HR6.out)
        have HB6 := Lib.hid (HB5.out.trans (hb6.mono HB5.out.size))
        have HQ7 := Lib.hid (intRow_lower HQ6.out hbs2)
        have HR7 := Lib.hid (intRow_lower HR6.out hbs5)
        clear hr6 hb6 HQ5 HQ6 HR5 HR6
        go_wp2_with fail
        go_ret2
        exact ⟨v5, v6, rfl, HQ7.out, HR7.out, HB6.out, HAP.out⟩
  · have hsum : (n : Int) - (n' : Int) + 1 ≤ 0 := by omega
    have hm0 : max (0 : Int) ((n : Int) - (n' : Int) + 1) = ((0 : Nat) : Int) := by omega
    have hgf : f.length < g.length := by have := HL.out; have := HL'.out; omega
    have T1 := Lib.hid (few_quo (p := p) hgf)
    have T2 := Lib.hid (few_rem (p := p) hgf)
    obtain ⟨o1, c1, rfl⟩ := row_slice hr1
    clear hgf hr1 hb1
    go_upto_region 2 with fail
    go_wp2_with (at_make; refine wpList_make_full _ rfl (.tmp 22) (.tmp 22) 22 rfl W1.heap.size 2 i0 (.int .i64 0) 1 Try.underlying22 HI.out HZ0.out HZ1.out .i64 .i64 _ _ 0 rfl rfl rfl rfl (by rw [HZ2.out]; omega) (by unfold maxLen; omega) (Nat.le_refl _) ?_; intro w2 hown hgrow; have b2 : w2.cell? ⟨a', n' - 1, none⟩ = some (.int .i64 la) := (by rw [(HB1.out.grown hgrow hbs (fun k h => by cases h)).cell (p := ⟨a', n' - 1, none⟩) hag', ← HB1.out.cell (p := ⟨a', n' - 1, none⟩) hag']; exact b1'))
    have HB2 := Lib.hid (HB1.out.grown hgrow hbs (fun k h => by cases h))
    have HR2 := Lib.hid (show IntRow w.heap.size w2 (.slice o1 f.length c1) f from World.ownsRow.kept HR1.out hgrow (by cases hv : (Value.slice o1 f.length c1).ownBlock with | none => exact .inl rfl | some k => exact .inr (by simp)))
    have HQ2 := Lib.hid (show Seen w2 (some ⟨W1.heap.size, 0, none⟩) 0 0 [] from row_seen (w := w2) (l := []) (int_made hown) (by simp))
    have SR2 := Lib.hid (row_seen HR2.out (by have := HL.out; omega))
    generalize W1.heap.size = Q at *
    have hbs2 := HB2.out.size
    clear hown hgrow HR1 HB1 hm0 hsum b1'
    go_wp2_with fail
    refine (l02Inv8_any la p w2 la0 la1 p2 (by omega)).mono ?_
    rw [← HV.out]
    rintro e w3 ⟨rfl, rfl⟩
    clear b2
    go_wp2_with fail
    refine wp_loop_rounds 1 ?_
    rw [rounds_succ]
    go_wp2_with fail
    refine (specTrim_any HQ2.out).mono ?_
    rintro e W5 ⟨v5, rfl, hr5, hb5⟩
    have HB5 := Lib.hid (HB2.out.trans (hb5.mono HB2.out.size))
    have HQ5 := Lib.hid hr5
    have SR := Lib.hid (seen_below SR2.out hb5)
    have hbs5 := HB5.out.size
    clear hr5 hb5
    go_wp2_with fail
    refine (specTrim_any SR.out).mono ?_
    rw [T2.out]
    rintro e W6 ⟨v6, rfl, hr6, hb6⟩
    have HQ6 := Lib.hid (row_below HQ5.out hb6 (Nat.le_refl _))
    have HR6 := Lib.hid hr6
    have HAP := Lib.hid (apart8 HQ5.out HR6.out)
    have HB6 := Lib.hid (HB5.out.trans (hb6.mono HB5.out.size))
    have HQ7 := Lib.hid (show IntRow w.heap.size W6 v5 (quoP p f g) by rw [T1.out]; exact intRow_lower HQ6.out hbs2)
    have HR7 := Lib.hid (intRow_lower HR6.out hbs5)
    clear hr6 hb6 HQ5 HQ6 HR6
    go_wp2_with fail
    go_ret2
    exact ⟨v5, v6, rfl, HQ7.out, HR7.out, HB6.out, HAP.out⟩
end Go.Proofs.Ytidcpmhbkldpeaa
