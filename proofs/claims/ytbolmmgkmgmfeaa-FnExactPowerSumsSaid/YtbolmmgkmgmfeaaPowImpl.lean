/- Contracts of the walk: chapter 7 in impl: sums of powers. -/
import Derived.Test.YtbolmmgkmgmfeaaSevArr
import Derived.Test.YtbolmmgkmgmfeaaDivImpl
namespace Go.Proofs.Ytbolmmgkmgmfeaa
open Go.RowKit
set_option linter.unusedVariables false
set_option linter.unusedSimpArgs false
set_option maxRecDepth 20000
/-- number k on its way, j terms -/
def psU (f : List Int) (k : Nat) : Nat → Int
  | 0 => 0
  | j + 1 => psU f k j + f.getD (f.length - 1 - (j + 1)) 0 * (if k = j + 1 then (k : Int) else (psL f 6).getD (k - (j + 1) - 1) 0)
theorem psU_T (f : List Int) {k : Nat} (hk : k ≤ 7) : ∀ j, j ≤ k - 1 → psU f k j = psT f (psL f (k - 1)) k j
  | 0, _ => rfl
  | j + 1, h => by
    simp only [psU, psT]
    rw [psU_T f hk j (by omega), if_neg (by omega), psL_keep f (k := k - 1) (m := 6) (by omega) (by omega)]
theorem psU_end (f : List Int) {k : Nat} (h1 : 1 ≤ k) (hk : k ≤ 6) : psN f (psL f (k - 1)) k = -(psU f k (min k (f.length - 1))) := by
  unfold psN
  congr 1
  by_cases h : k ≤ f.length - 1
  · rw [if_pos h, show min (k - 1) (f.length - 1) = k - 1 by omega, show min k (f.length - 1) = (k - 1) + 1 by omega]
    simp only [psU]
    rw [psU_T f (by omega) (k - 1) (Nat.le_refl _), if_pos (by omega), show k - 1 + 1 = k by omega, Int.mul_comm]
  · rw [if_neg h, show min (k - 1) (f.length - 1) = f.length - 1 by omega, show min k (f.length - 1) = f.length - 1 by omega, psU_T f (by omega) _ (by omega), Int.add_zero]
theorem psU_bd {f : List Int} (hf : ∀ i, -60 ≤ f.getD i 0 ∧ f.getD i 0 ≤ 60) {k j : Nat} (hk : k ≤ 6) (hj : j ≤ k) : -1000000001000 ≤ psU f k j ∧ psU f k j ≤ 1000000001000 := by
  by_cases h : j ≤ k - 1
  · rw [psU_T f (by omega) j h]
    have := psT_small hf h hk; omega
  · obtain ⟨i, rfl⟩ : ∃ i, j = i + 1 := ⟨j - 1, by omega⟩
    have h1 := psT_small hf (j := i) (k := k) (by omega) hk
    simp only [psU]
    rw [psU_T f (by omega) i (by omega), if_pos (by omega)]
    have h2 := mul60 (B := 6) (hf (f.length - 1 - (i + 1))) (y := (k : Int)) (by omega)
    omega
def sevS (f : List Int) (k : Nat) (x y : Int) : List Int := tabL 7 fun t => if t = 0 then x else if t < k then (psL f 6).getD (t - 1) 0 else if t = k then y else 0
theorem sevS_length (f : List Int) (k : Nat) (x y : Int) : (sevS f k x y).length = 7 := tabL_length _ _
theorem sevS_start (f : List Int) : sevS f 1 0 0 = tabL 7 fun _ => 0 := tabL_ext fun t ht => by
  split
  · rfl
  · rw [if_neg (by omega)]; split <;> rfl
theorem sevS_head (f : List Int) (k : Nat) (x y z : Int) (hk : 1 ≤ k) : (sevS f k x y).set 0 z = sevS f k z y := by
  unfold sevS
  rw [tab_set _ (by omega)]
  refine tabL_ext fun t ht => ?_
  by_cases e : t = 0
  · rw [if_pos e, if_pos e]
  · rw [if_neg e, if_neg e, if_neg e]
theorem sevS_set (f : List Int) {k : Nat} (x y z : Int) (h1 : 1 ≤ k) (hk : k < 7) : (sevS f k x y).set k z = sevS f k x z := by
  unfold sevS
  rw [tab_set _ hk]
  refine tabL_ext fun t ht => ?_
  by_cases e : t = k
  · rw [if_pos e, if_neg (by omega), if_neg (by omega), if_pos e]
  · rw [if_neg e]
    by_cases h0 : t = 0
    · rw [if_pos h0, if_pos h0]
    · rw [if_neg h0, if_neg h0]
      by_cases h2 : t < k
      · rw [if_pos h2, if_pos h2]
      · rw [if_neg h2, if_neg h2, if_neg e, if_neg e]
theorem sevS_at (f : List Int) {k : Nat} (x y : Int) (h1 : 1 ≤ k) (hk : k < 7) : (sevS f k x y).getD k 0 = y := by
  rw [sevS, tabL_getD hk, if_neg (by omega), if_neg (by omega), if_pos rfl]
theorem sevS_low (f : List Int) {k t : Nat} (x y : Int) (ht : t < k) (hk : k < 7) : (sevS f k x y).getD t 0 = if t = 0 then x else (psL f 6).getD (t - 1) 0 := by
  rw [sevS, tabL_getD (by omega)]
  by_cases h : t = 0
  · rw [if_pos h, if_pos h]
  · rw [if_neg h, if_neg h, if_pos ht]
theorem sevS_next (f : List Int) {k : Nat} (x : Int) (h1 : 1 ≤ k) (hk : k ≤ 6) : sevS f k x (-(psU f k (min k (f.length - 1)))) = sevS f (k + 1) x 0 := by
  unfold sevS
  refine tabL_ext fun t ht => ?_
  by_cases h0 : t = 0
  · rw [if_pos h0, if_pos h0]
  · rw [if_neg h0, if_neg h0]
    by_cases h2 : t < k
    · rw [if_pos h2, if_pos (by omega)]
    · rw [if_neg h2]
      by_cases e : t = k
      · rw [if_pos e, if_pos (by omega), ← psU_end f h1 hk, e]
        obtain ⟨m, rfl⟩ : ∃ m, k = m + 1 := ⟨k - 1, by omega⟩
        rw [psL_keep f (k := m + 1) (m := 6) (show m + 1 - 1 < m + 1 by omega) (by omega), show m + 1 - 1 = m by omega, psL_new]
      · rw [if_neg e, if_neg (by omega)]
        split <;> rfl
set_option maxHeartbeats 2000000 in
theorem implPowS_any {o : Option Addr} {n c0 : Nat} {f : List Int} {w : World} (hs : smlB f = true) (hS : Seen w o n c0 f) :
    Calls Try.prog 71 #[.slice o n c0] w fun e w' => Below w.heap.size w w' ∧ ∃ x, e = .returned (.agg (arrV (sevS f 7 x 0))) := by
  obtain ⟨_, hl2, hl5, hbf⟩ := smlB_of hs
  obtain ⟨hl, hn, hno, hnc, a, h1, h2⟩ := hS
  obtain ⟨rfl, hag⟩ := h1 (by omega)
  have HF := Lib.hid hbf
  have HL := Lib.hid hl
  have HC := Lib.hid h2
  have hn5 : n ≤ 5 := by omega
  have hn2 : 2 ≤ n := by omega
  obtain ⟨d, hd⟩ : ∃ d : Nat, d + 1 = n := ⟨n - 1, by omega⟩
  have hdn : (n : Int) - 1 = (d : Int) := by omega
  have HD := Lib.hid hd
  have hN1 := zero_newS w
  have hB1 : Below w.heap.size w (w.alloc (.cells #[.int .i64 0, .int .i64 0, .int .i64 0, .int .i64 0, .int .i64 0, .int .i64 0, .int .i64 0] 76)) := (Below.refl _ _).alloc (Nat.le_refl _) _
  have hs1 : (w.alloc (.cells #[.int .i64 0, .int .i64 0, .int .i64 0, .int .i64 0, .int .i64 0, .int .i64 0, .int .i64 0] 76)).heap.size = w.heap.size + 1 := by simp
  clear hno hnc h1 h2 hl hn hl2 hl5 hbf
  go_enter Try.func71, Try.ntmps71
  go_upto_region 2 with fail
  generalize w.alloc (.cells #[.int .i64 0, .int .i64 0, .int .i64 0, .int .i64 0, .int .i64 0, .int .i64 0, .int .i64 0] 76) = W1 at *
  have hN2 := zero_newS W1
  have hB2 : Below w.heap.size w (W1.alloc (.cells #[.int .i64 0, .int .i64 0, .int .i64 0, .int .i64 0, .int .i64 0, .int .i64 0, .int .i64 0] 76)) := hB1.alloc hB1.size _
  have hN3 := sev_next hN1 ((Below.refl W1.heap.size W1).alloc (Nat.le_refl _) (.cells #[.int .i64 0, .int .i64 0, .int .i64 0, .int .i64 0, .int .i64 0, .int .i64 0, .int .i64 0] 76))
  generalize W1.alloc (.cells #[.int .i64 0, .int .i64 0, .int .i64 0, .int .i64 0, .int .i64 0, .int .i64 0, .int .i64 0] 76) = W2 at *
  rw [hs1] at hN2
  obtain ⟨RB, hRB⟩ : ∃ x, w.heap.size = x := ⟨_, rfl⟩
  have hw0 : w.heap.size ≤ RB := by omega
  rw [hRB] at hN2 hN3 hag ⊢
  have hQB0 : w.heap.size ≤ RB + 1 := by omega
  obtain ⟨QB, hQB⟩ : ∃ x, RB + 1 = x := ⟨_, rfl⟩
  have hRQ : RB ≠ QB := by omega
  rw [hQB] at hN2 hQB0 ⊢
  rw [← hRB] at hag
  have HQ0 := Lib.hid hN2
  have HZ0 := Lib.hid hN3
  have HB0 := Lib.hid hB2
  clear hN1 hB1 hs1 hN2 hB2 hN3 hRB hQB
  go_wp2_with fail
  go_loopw [5] (fun s wr => ∃ (k : Nat) (x : Int), 1 ≤ k ∧ k ≤ 7 ∧ s = .int .i64 k ∧ Sev wr QB (sevS f k x 0) ∧ Sev wr RB (tabL 7 fun _ => 0) ∧ Below w.heap.size w wr) (fun s _ => 7 - (intOf s).toNat)
  case atStart => exact ⟨1, 0, by omega, by omega, rfl, by rw [sevS_start]; exact HQ0.out, HZ0.out, HB0.out⟩
  case round =>
    obtain ⟨k, x0, hk1, hk7, rfl, hq, hz, hb⟩ := hrel
    have HQ := Lib.hid hq
    have HZ := Lib.hid hz
    have HB := Lib.hid hb
    clear hq hz hb HQ0 HZ0 HB0
    by_cases hlt : k ≤ 6
    · have hk7' : (k : Int) < 7 := by omega
      have hk6 : (k : Int) ≤ 6 := by omega
      have c0 := sev_at HQ.out (k := 0) (by omega)
      have f0 := sev_frozen HQ.out (k := 0) (by omega)
      obtain ⟨y0, hy0⟩ : ∃ y0, (sevS f k x0 0).getD 0 0 = y0 := ⟨_, rfl⟩
      rw [hy0] at c0
      have HQ1 := Lib.hid (by have h := sev_set HQ.out (k := 0) (by omega) (k : Int); rw [sevS_head f k x0 0 k hk1] at h; exact h)
      have HZ1 := Lib.hid (sev_other (k := 0) HZ.out (Ne.symm hRQ) (.int .i64 k))
      have HB1 := Lib.hid (HB.out.setCell (p := ⟨QB, 0, none⟩) hQB0 (.int .i64 k))
      obtain ⟨mm, hmm⟩ : ∃ mm, min k d = mm := ⟨_, rfl⟩
      have hmin : min (k : Int) (d : Int) = (mm : Int) := by omega
      have hmk : mm ≤ k := by omega
      have hmd : mm ≤ d := by omega
      have HM := Lib.hid (show min k (f.length - 1) = mm by rw [← hmm]; have := HL.out; have := HD.out; omega)
      clear HQ HZ HB hy0 hmm
      go_upto_region 7 with fail
      generalize wr.setCell ⟨QB, 0, none⟩ (.int .i64 k) = W3 at *
      clear c0 f0
      go_wp2_with fail
      go_loopw [6] (fun s wr => ∃ i : Nat, 1 ≤ i ∧ i ≤ mm + 1 ∧ s = .int .i64 i ∧ Sev wr QB (sevS f k k (-(psU f k (i - 1)))) ∧ Sev wr RB (tabL 7 fun _ => 0) ∧ Below w.heap.size w wr) (fun s _ => mm + 1 - (intOf s).toNat)
      case atStart => exact ⟨1, by omega, by omega, rfl, HQ1.out, HZ1.out, HB1.out⟩
      case round =>
        obtain ⟨i, hi1, him, rfl, hq, hz, hb⟩ := hrel
        have HQ := Lib.hid hq
        have HZ := Lib.hid hz
        have HB := Lib.hid hb
        clear hq hz hb HQ1 HZ1 HB1
        by_cases hlti : i ≤ mm
        · obtain ⟨j, hj⟩ : ∃ j, j + 1 = i := ⟨i - 1, by omega⟩
          obtain ⟨e, he⟩ : ∃ e, e + i = k := ⟨k - i, by omega⟩
          obtain ⟨p, hp⟩ : ∃ p, p + i = d := ⟨d - i, by omega⟩
          have hke : (k : Int) - (i : Int) = (e : Int) := by omega
          have hdp : (d : Int) - (i : Int) = (p : Int) := by omega
          have hpn : p < n := by have := HD.out; omega
          have he7 : (e : Int) < 7 := by omega
          have we : IntKind.i64.wrap (e : Int) = (e : Int) := IntWalk.i64_in _ (by omega)
          have wp : IntKind.i64.wrap (p : Int) = (p : Int) := IntWalk.i64_in _ (by omega)
          have b2 := HC.out p hpn
          rw [← HB.out.cell (p := ⟨a, p, none⟩) hag] at b2
          have c4 := sev_at HQ.out (k := k) (by omega)
          rw [sevS_at f _ _ hk1 (by omega)] at c4
          have f4 := sev_frozen HQ.out (k := k) (by omega)
          have c5 := sev_at HQ.out (k := e) (by omega)
          rw [sevS_low f _ _ (by omega) (by omega)] at c5
          have hstep : psU f k (j + 1) = psU f k j + f.getD p 0 * (if e = 0 then (k : Int) else (psL f 6).getD (e - 1) 0) := by
            simp only [psU]
            rw [show f.length - 1 - (j + 1) = p by have := HL.out; have := HD.out; omega]
            by_cases e0 : e = 0
            · rw [if_pos (by omega), if_pos e0]
            · rw [if_neg (by omega), if_neg e0, show k - (j + 1) - 1 = e - 1 by omega]
          have hbd1 := psU_bd HF.out (k := k) (j := j) hlt (by omega)
          have hbd2 := psU_bd HF.out (k := k) (j := j + 1) hlt (by omega)
          rw [hstep] at hbd2
          have HE := Lib.hid (show -(psU f k (i + 1 - 1)) = -(psU f k j) - f.getD p 0 * (if e = 0 then (k : Int) else (psL f 6).getD (e - 1) 0) by rw [show i + 1 - 1 = j + 1 by omega, hstep]; omega)
          rw [show i - 1 = j by omega] at c4
          obtain ⟨z, hzz⟩ : ∃ z, f.getD p 0 = z := ⟨_, rfl⟩
          obtain ⟨v, hv⟩ : ∃ v, (if e = 0 then (k : Int) else (psL f 6).getD (e - 1) 0) = v := ⟨_, rfl⟩
          obtain ⟨y, hy⟩ : ∃ y, -(psU f k j) = y := ⟨_, rfl⟩
          rw [hzz] at b2 HE hbd2
          rw [hv] at c5 HE hbd2
          rw [hy] at c4 HE
          have w1 : IntKind.i64.wrap (z * v) = z * v := IntWalk.i64_in _ (by omega)
          have w2 : IntKind.i64.wrap (y - z * v) = y - z * v := IntWalk.i64_in _ (by omega)
          clear hzz hv hy hstep hbd1 hbd2 hj he hp
          go_upto_region 10 with fail
          refine wp_region_still_tail 17 (by kernel_rfl) (by kernel_rfl) ?_
          simp only [List.take_succ_cons, List.take_zero, List.drop_succ_cons, List.drop_zero]
          repeat still_step
          refine wpStill_nil ?_
          change wpList _ _ _ _ _ wr.drew
          have HQ1 := Lib.hid (sev_drew HQ.out)
          have HZ1 := Lib.hid (sev_drew HZ.out)
          have HB1 := Lib.hid (below_drewN HB.out 1)
          replace f4 : wr.drew.frozen? ⟨QB, k, none⟩ = false := f4
          replace c4 : wr.drew.cell? ⟨QB, k, none⟩ = _ := c4
          replace HB1 : Hid (Below w.heap.size w wr.drew) := HB1
          clear HQ HZ HB b2 c5
          generalize wr.drew = W4 at *
          have HQ3 := Lib.hid (show Sev (W4.setCell ⟨QB, k, none⟩ (.int .i64 (y - z * v))) QB (sevS f k k (-(psU f k (i + 1 - 1)))) by have h := sev_set HQ1.out (k := k) (by omega) (y - z * v); rw [sevS_set f _ _ _ hk1 (by omega)] at h; rw [HE.out]; exact h)
          have HZ3 := Lib.hid (sev_other (k := k) HZ1.out (Ne.symm hRQ) (.int .i64 (y - z * v)))
          have HB3 := Lib.hid (HB1.out.setCell (p := ⟨QB, k, none⟩) hQB0 (.int .i64 (y - z * v)))
          clear HQ1 HZ1 HB1
          go_wp2_with fail
          exact ⟨⟨i + 1, by omega, by omega, by go_num, HQ3.out, HZ3.out, HB3.out⟩, by simp only [intOf]; omega⟩
        · have him2 : i - 1 = min k (f.length - 1) := by have := HM.out; omega
          have HQ2 := Lib.hid (show Sev wr QB (sevS f (k + 1) k 0) by rw [← sevS_next f (k : Int) hk1 hlt, ← him2]; exact HQ.out)
          clear HQ him2
          go_wp2_with fail
          exact ⟨⟨k + 1, k, by omega, by omega, by go_num, HQ2.out, HZ.out, HB.out⟩, by simp only [intOf]; omega⟩
    · have hk : k = 7 := by omega
      subst hk
      go_upto_region 11 with fail
      refine wp_region_lit ?_
      refine wpList_load_sev rfl (.tmp 3) rfl QB rfl HQ.out ?_
      refine wpList_store_sev rfl (.tmp 2) (.tmp 40) rfl RB rfl rfl (sevS_length _ _ _ _) HZ.out ?_
      have N4 := Lib.hid (sev_full HZ.out (sevS_length f 7 x0 0))
      have B4 := Lib.hid (below_setCells (w := w) (w1 := w) (b := RB) hw0 ((sevS f 7 x0 0).map (Value.int .i64)) 0 HB.out)
      generalize wr.setCells RB 0 ((sevS f 7 x0 0).map (Value.int .i64)) = W4 at *
      clear HQ HZ HB
      go_wp2
      exact bodyPost_ret (results_cell_mid (p := 2) (ty := 76) rfl _ _ RB _ _ rfl (sev_range N4.out) Try.underlying76 rfl (by rw [List.length_map, sevS_length]; exact Try.infoSv)) rfl ⟨B4.out, x0, rfl⟩
theorem ps_none {f : List Int} {x : Int} (h : psC f x ≠ 0) : psQ f x = [] := if_neg h
theorem sevS_last (f : List Int) {m k : Nat} (x : Int) (hm : m ≤ 6) (hk : k < m) : (sevS f 7 x 0).getD (1 + k) 0 = (psL f m).getD k 0 := by
  rw [sevS, tabL_getD (by omega), if_neg (by omega), if_pos (by omega), show 1 + k - 1 = k by omega, psL_keep f hk hm]
theorem mono_seen {w : World} {o : Option Addr} {n c : Nat} {l : List Int} (h : Seen w o n c l) (ob : Obj) : Seen (w.alloc ob) o n c l := seen_below h ((Below.refl _ _).alloc (Nat.le_refl _) _)
theorem new_cell (w : World) (v : Value) (T : TypeId) : (w.alloc (.cells #[v] T)).cell? ⟨w.heap.size, 0, none⟩ = some v := by rw [World.cell?_alloc_new]; rfl
set_option maxHeartbeats 1000000 in
theorem implPS_any (x : Int) {o : Option Addr} {n c : Nat} {f : List Int} {w : World} (h : Seen w o n c f) :
    Calls Try.prog 39 #[.slice o n c, .int .i64 x] w (IntPost (psQ f x) (psC f x) w) := by
  have HK := Lib.hid (checkSmall1 (mono_seen h (.cells #[.slice o n c] 37)) (new_cell w (.slice o n c) 37))
  have HB1 := Lib.hid ((Below.refl w.heap.size w).alloc (Nat.le_refl _) (.cells #[.slice o n c] 37))
  have HS1 := Lib.hid (mono_seen h (.cells #[.slice o n c] 37))
  clear h
  by_cases hc : codS f = 0
  · rw [hc] at HK
    by_cases hx : 1 ≤ x ∧ x ≤ 6
    · obtain ⟨hx1, hx6⟩ := hx
      have hx1' : ¬ x < 1 := by omega
      have hx6' : ¬ 6 < x := by omega
      cases hm : monB f
      · have HC := Lib.hid (show psC f x = 5 by simp [psC, hc, inB, hx1, hx6, hm])
        have e1 := ps_none (f := f) (x := x) (by rw [HC.out]; omega)
        rw [e1, HC.out]
        clear e1
        go_enter Try.func39, Try.ntmps39
        go_wp2_with fail
        refine HK.out.mono ?_
        rintro e w2 ⟨rfl, rfl⟩
        go_wp2_with fail
        refine (isMonic_any HS1.out).mono ?_
        rw [hm]
        rintro e w2 ⟨rfl, rfl⟩
        go_wp2_with fail
        go_ret2
        exact ⟨_, rfl, intRow_nil _ _, HB1.out⟩
      · have HC := Lib.hid (show psC f x = 0 by simp [psC, hc, inB, hx1, hx6, hm])
        have hsm := (psC_cases HC.out).1
        have HQ := Lib.hid (show psQ f x = psL f x.toNat by simp [psQ, HC.out])
        have HSM := Lib.hid hsm
        clear hsm
        go_enter Try.func39, Try.ntmps39
        go_wp2_with fail
        refine HK.out.mono ?_
        rintro e w2 ⟨rfl, rfl⟩
        go_wp2_with fail
        refine (isMonic_any HS1.out).mono ?_
        rw [hm]
        rintro e w2 ⟨rfl, rfl⟩
        go_wp2_with fail
        refine (implPowS_any HSM.out HS1.out).mono ?_
        rintro e W2 ⟨hb2, x0, rfl⟩
        have hst := store_newS W2 (sevS_length f 7 x0 0)
        have HB2 := Lib.hid (HB1.out.trans (hb2.mono HB1.out.size))
        clear hb2
        go_upto_region 9 with fail
        have hN := sev_new W2 (sevS f 7 x0 0) 76 (sevS_length f 7 x0 0)
        have hB3 := HB2.out.alloc HB2.out.size (.cells (arrV (sevS f 7 x0 0)) 76)
        generalize W2.alloc (.cells (arrV (sevS f 7 x0 0)) 76) = W3 at hN hB3 ⊢
        generalize W2.heap.size = B at hN ⊢
        have HN := Lib.hid hN
        have HB3 := Lib.hid hB3
        clear hst hN hB3
        obtain ⟨m, rfl⟩ : ∃ m : Nat, x = m := ⟨x.toNat, by omega⟩
        have hm6 : m ≤ 6 := by omega
        have hm1 : 1 ≤ m := by omega
        obtain ⟨s, hs⟩ : ∃ s, m + 1 = s := ⟨_, rfl⟩
        have hms : (m : Int) + 1 = (s : Int) := by omega
        have hw : IntKind.i64.wrap (s : Int) = (s : Int) := IntWalk.i64_in _ (by omega)
        have hs1 : (1 : Int) ≤ (s : Int) := by omega
        have hs7 : (s : Int) ≤ 7 := by omega
        have hsn : s - 1 = m := by omega
        have HCL := Lib.hid (clone_at (g := B) (d := 1) (n := s - 1) (c := 6) (l := psL f m) (w := W3) (by rw [psL_length]; exact hsn) (by omega) (by omega) HN.out.1 (fun k hk => by rw [sev_at HN.out (by omega), sevS_last f x0 hm6 (by omega)]))
        clear hs hsn
        go_wp2_with fail
        refine HCL.out.mono ?_
        rintro e W4 ⟨v, rfl, hr, hb⟩
        have hc0 := HC.out
        have HR := Lib.hid (show IntRow w.heap.size W4 v (psQ f m) by rw [HQ.out, Int.toNat_natCast]; exact intRow_lower hr HB3.out.size)
        have HB4 := Lib.hid (HB3.out.trans (hb.mono HB3.out.size))
        clear hr hb
        go_wp2_with fail
        go_ret2
        exact ⟨v, congrArg (fun c => Ending.returned (.tuple #[v, .int .i64 c])) hc0.symm, HR.out, HB4.out⟩
    · have HC := Lib.hid (show psC f x = 2 by
        have hi : inB x 1 6 = false := inB_f (by omega)
        simp [psC, hc, hi])
      have e1 := ps_none (f := f) (x := x) (by rw [HC.out]; omega)
      rw [e1, HC.out]
      clear e1
      by_cases hx1 : x < 1
      · go_enter Try.func39, Try.ntmps39
        go_wp2_with fail
        refine HK.out.mono ?_
        rintro e w2 ⟨rfl, rfl⟩
        go_wp2_with fail
        go_ret2
        exact ⟨_, rfl, intRow_nil _ _, HB1.out⟩
      · have hx6 : 6 < x := by omega
        go_enter Try.func39, Try.ntmps39
        go_wp2_with fail
        refine HK.out.mono ?_
        rintro e w2 ⟨rfl, rfl⟩
        go_wp2_with fail
        go_ret2
        exact ⟨_, rfl, intRow_nil _ _, HB1.out⟩
  · have HC := Lib.hid (show psC f x = codS f by simp [psC, hc])
    have e1 := ps_none (f := f) (x := x) (by rw [HC.out]; exact hc)
    rw [e1, HC.out]
    generalize codS f = y at *
    have hc' : (y != 0) = true := by simpa using hc
    clear e1
    go_enter Try.func39, Try.ntmps39
    go_wp2_with fail
    refine HK.out.mono ?_
    rintro e w2 ⟨rfl, rfl⟩
    go_wp2_with fail
    go_ret2
    exact ⟨_, rfl, intRow_nil _ _, HB1.out⟩
end Go.Proofs.Ytbolmmgkmgmfeaa
