/- Contracts of the walk: chapter 4 in spec: shifts, whole parts and fractions. -/
import Derived.Test.YtejgcamogjgdkaaDigImpl
import Derived.Test.YtejgcamogjgdkaaDigFrom2
import Derived.Test.YtejgcamogjgdkaaPadSpec3
import Derived.Test.YtejgcamogjgdkaaGcd
namespace Go.Proofs.Ytejgcamogjgdkaa
open Go.RowKit
set_option linter.unusedVariables false
set_option linter.unusedSimpArgs false
def lowN (p v u : Int) : Int := if 0 ≤ v then 0 else u % pw p (-v)
def lowM (p v : Int) : Int := if 0 ≤ v then 1 else pw p (-v)
theorem low_any (p v u n : Int) (w : World) (h : POk p v u n) (he : 0 ≤ v + n) :
    Calls Try.prog 55 #[.agg (P4 p v u n)] w fun e w' => e = .returned (.tuple #[.int .i64 (lowN p v u), .int .i64 (lowM p v)]) ∧ Below w.heap.size w w' := by
  by_cases hv : 0 ≤ v
  · rw [show lowN p v u = 0 by simp [lowN, hv], show lowM p v = 1 by simp [lowM, hv]]
    clear h
    go_enter Try.func55, Try.ntmps55
    go_wp2
    go_ret2
    exact ⟨rfl, below_a1 w _⟩
  · rw [show lowN p v u = u % pw p (-v) by simp [lowN, hv], show lowM p v = pw p (-v) by simp [lowM, hv]]
    obtain ⟨f1, f2, _, _, _, f6, f7, f8, hn1'⟩ := part_facts h he hv
    obtain ⟨hp2, hp97, hn0, hn1, _, _, hu0, _, hu2⟩ := pok_bd h
    have hv0 := h.2.1
    have HP := l02Pow_any p (-v)
    have hwn : IntKind.i64.wrap (-v) = -v := IntWalk.i64_in _ (by omega)
    have hn' : (n == 0) = false := by simp; omega
    generalize pw p (-v) = m at *
    replace HP := Lib.hid fun w => HP w hp2 hp97 (by omega) f2
    have hz : (m == 0) = false := by simp; omega
    have hz2 : ¬ m = 0 := by omega
    have hwd : IntKind.i64.wrap (u % m) = u % m := IntWalk.i64_in _ (by omega)
    clear h
    go_enter Try.func55, Try.ntmps55
    go_wp2_with (go_at_call 51; refine (HP.out _).mono ?_; rintro e wn ⟨rfl, rfl⟩)
    go_ret2
    exact ⟨rfl, below_a1 w _⟩
theorem specShift_any (p v u n k : Int) (w : World) :
    Calls Try.prog 19 #[.agg (P4 p v u n), .int .i64 k] w fun e w' => e = .returned (.tuple #[.agg (A4 (shiftQ p v u n k)), .int .i64 (shiftC p v u n k)]) ∧ Below w.heap.size w w' := by
  cases hx : padB p v u n
  · rw [show shiftQ p v u n k = (0, 0, 0, 0) by simp [shiftQ, hx], show shiftC p v u n k = 1 by simp [shiftC, hx]]
    go_enter Try.func19, Try.ntmps19
    go_wp2_with (first | (go_at_call 39; refine (specIsPadic_any _ _ _ _ _).mono ?_; rintro e wn ⟨rfl, hb⟩; (first | have K := k2_first hb | have K := k2_next K hb); obtain ⟨c0, c1, c2, c3⟩ := lies_four K.2.1; obtain ⟨cf0, cf1, cf2, cf3⟩ := lies_ice K.2.1; obtain ⟨d0, d1, d2, d3⟩ := lies_four K.2.2; obtain ⟨df0, df1, df2, df3⟩ := lies_ice K.2.2))
    refine bodyPost_ret (v := .tuple #[.agg (P4 0 0 0 0), .int .i64 1]) (by simp [results, Try.results19, go_sem, d0, d1, d2, d3]) rfl ?_
    exact ⟨rfl, below_set4 K.1 (by omega)⟩
  · cases hk : inB k (-60) 60
    · rw [show shiftQ p v u n k = (0, 0, 0, 0) by simp [shiftQ, hk], show shiftC p v u n k = 2 by simp [shiftC, hx, hk]]
      go_enter Try.func19, Try.ntmps19
      go_wp2_with (first | (go_at_call 39; refine (specIsPadic_any _ _ _ _ _).mono ?_; rintro e wn ⟨rfl, hb⟩; (first | have K := k2_first hb | have K := k2_next K hb); obtain ⟨c0, c1, c2, c3⟩ := lies_four K.2.1; obtain ⟨cf0, cf1, cf2, cf3⟩ := lies_ice K.2.1; obtain ⟨d0, d1, d2, d3⟩ := lies_four K.2.2; obtain ⟨df0, df1, df2, df3⟩ := lies_ice K.2.2) | (go_at_call 50; refine (in_any _ _ _ _).mono ?_; rw [hk]; rintro e wn ⟨rfl, rfl⟩))
      refine bodyPost_ret (v := .tuple #[.agg (P4 0 0 0 0), .int .i64 2]) (by simp [results, Try.results19, go_sem, d0, d1, d2, d3]) rfl ?_
      exact ⟨rfl, below_set4 K.1 (by omega)⟩
    · rw [show shiftQ p v u n k = resQ p (v + k) u n by simp [shiftQ, hx, hk], show shiftC p v u n k = limC p (v + k) u n by simp [shiftC, hx, hk]]
      have hk2 : -60 ≤ k ∧ k ≤ 60 := by simpa [inB] using hk
      obtain ⟨hk0, hk1⟩ := hk2
      have hh := padB_ok hx
      have hv0 := hh.2.1
      have hv1 := hh.2.2.1
      have hw : IntKind.i64.wrap (v + k) = v + k := IntWalk.i64_in _ (by omega)
      clear hh
      go_enter Try.func19, Try.ntmps19
      go_wp2_with (first | (go_at_call 39; refine (specIsPadic_any _ _ _ _ _).mono ?_; rintro e wn ⟨rfl, hb⟩; (first | have K := k2_first hb | have K := k2_next K hb); obtain ⟨c0, c1, c2, c3⟩ := lies_four K.2.1; obtain ⟨cf0, cf1, cf2, cf3⟩ := lies_ice K.2.1; obtain ⟨d0, d1, d2, d3⟩ := lies_four K.2.2; obtain ⟨df0, df1, df2, df3⟩ := lies_ice K.2.2) | (go_at_call 50; refine (in_any _ _ _ _).mono ?_; rw [hk]; rintro e wn ⟨rfl, rfl⟩) | (go_at_call 52; refine (l03Result_any _ _ _ _ _).mono ?_; rintro e wn ⟨rfl, hb⟩; (first | have K := k2_first hb | have K := k2_next K hb); obtain ⟨d0, d1, d2, d3⟩ := lies_four K.2.2; obtain ⟨df0, df1, df2, df3⟩ := lies_ice K.2.2))
      refine bodyPost_ret (v := .tuple #[.agg (A4 (resQ p (v + k) u n)), .int .i64 (limC p (v + k) u n)]) (by simp [results, Try.results19, go_sem, d0, d1, d2, d3]) rfl ?_
      exact ⟨rfl, below_set4 K.1 (by omega)⟩
/-- what is left of a number above its lowest digits is small -/
theorem high_lt {p v u n : Int} (h : POk p v u n) (he : 0 ≤ v + n) (hv : ¬ 0 ≤ v) : u / pw p (-v) < pw p (v + n) ∧ pw p (v + n) ≤ 1000000000 := by
  obtain ⟨hp2, hp97, hn0, hn1, hm0, hm1, hu0, hu1, hu2⟩ := pok_bd h
  have e := pw_add (p := p) (a := v + n) (b := -v) he (by omega)
  rw [show v + n + -v = n by omega] at e
  have g := pw_ge1 (p := p) (a := -v) hp2
  have hpart := pw_part (p := p) (n := n) (e := v + n) hp2 hm1 (by omega)
  exact ⟨Int.ediv_lt_of_lt_mul (by omega) (by rw [← e]; exact hu1), hpart.2⟩
theorem specWhole_any (p v u n : Int) (w : World) :
    Calls Try.prog 31 #[.agg (P4 p v u n)] w fun e w' => e = .returned (.tuple #[.agg (A4 (wholeQ p v u n)), .int .i64 (splitC p v u n)]) ∧ Below w.heap.size w w' := by
  cases hx : padB p v u n
  · have hc : splitC p v u n = 1 := by simp [splitC, hx]
    rw [show wholeQ p v u n = (0, 0, 0, 0) by simp [wholeQ, hc], hc]
    clear hc
    go_enter Try.func31, Try.ntmps31
    go_wp2_with (first | (go_at_call 39; refine (specIsPadic_any _ _ _ _ _).mono ?_; rintro e wn ⟨rfl, hb⟩; (first | have K := k2_first hb | have K := k2_next K hb); obtain ⟨c0, c1, c2, c3⟩ := lies_four K.2.1; obtain ⟨cf0, cf1, cf2, cf3⟩ := lies_ice K.2.1; obtain ⟨d0, d1, d2, d3⟩ := lies_four K.2.2; obtain ⟨df0, df1, df2, df3⟩ := lies_ice K.2.2))
    refine bodyPost_ret (v := .tuple #[.agg (P4 0 0 0 0), .int .i64 1]) (by simp [results, Try.results31, go_sem, d0, d1, d2, d3]) rfl ?_
    exact ⟨rfl, below_set4 K.1 (by omega)⟩
  · have hk := padB_ok hx
    obtain ⟨hp2, hp97, hn0, hn1, _, _, hu0, _, hu2⟩ := pok_bd hk
    have hv0 := hk.2.1
    have hv1 := hk.2.2.1
    have hwe : IntKind.i64.wrap (v + n) = v + n := IntWalk.i64_in _ (by omega)
    by_cases hneg : v + n < 0
    · have hc : splitC p v u n = 4 := by simp [splitC, hx, hneg]
      rw [show wholeQ p v u n = (0, 0, 0, 0) by simp [wholeQ, hc], hc]
      clear hc hk
      go_enter Try.func31, Try.ntmps31
      go_wp2_with (first | (go_at_call 39; refine (specIsPadic_any _ _ _ _ _).mono ?_; rintro e wn ⟨rfl, hb⟩; (first | have K := k2_first hb | have K := k2_next K hb); obtain ⟨c0, c1, c2, c3⟩ := lies_four K.2.1; obtain ⟨cf0, cf1, cf2, cf3⟩ := lies_ice K.2.1; obtain ⟨d0, d1, d2, d3⟩ := lies_four K.2.2; obtain ⟨df0, df1, df2, df3⟩ := lies_ice K.2.2))
      refine bodyPost_ret (v := .tuple #[.agg (P4 0 0 0 0), .int .i64 4]) (by simp [results, Try.results31, go_sem, d0, d1, d2, d3]) rfl ?_
      exact ⟨rfl, below_set4 K.1 (by omega)⟩
    · have hc : splitC p v u n = 0 := by simp [splitC, hx, hneg]
      by_cases hv : 0 ≤ v
      · rw [show wholeQ p v u n = (p, v, u, n) by simp [wholeQ, hc, hv], hc]
        clear hc hk
        go_enter Try.func31, Try.ntmps31
        go_wp2_with (first | (go_at_call 39; refine (specIsPadic_any _ _ _ _ _).mono ?_; rintro e wn ⟨rfl, hb⟩; (first | have K := k2_first hb | have K := k2_next K hb); obtain ⟨c0, c1, c2, c3⟩ := lies_four K.2.1; obtain ⟨cf0, cf1, cf2, cf3⟩ := lies_ice K.2.1; obtain ⟨d0, d1, d2, d3⟩ := lies_four K.2.2; obtain ⟨df0, df1, df2, df3⟩ := lies_ice K.2.2))
        refine bodyPost_ret (v := .tuple #[.agg (P4 p v u n), .int .i64 0]) (by simp [results, Try.results31, go_sem, d0, d1, d2, d3]) rfl ?_
        exact ⟨rfl, below_set4 K.1 (by omega)⟩
      · rw [show wholeQ p v u n = (p, numT p 0 (u / pw p (-v)) (v + n)) by simp [wholeQ, hc, hv], hc]
        obtain ⟨f1, f2, f3, f4, f5, _, _, _, hn1'⟩ := part_facts hk (by omega) hv
        obtain ⟨g1, g2⟩ := high_lt hk (by omega) hv
        have H := Lib.hid hk
        have HEE := Lib.hid (show 0 ≤ v + n by omega)
        have hlm : lowM p v = pw p (-v) := by simp [lowM, hv]
        have HN := fun w => l03Make_any p 0 (u / pw p (-v)) (v + n) w hp2 hp97 (by omega) (by omega) (by omega) (by rw [Int.sub_zero]; exact g2) f3
        rw [make_num f3 (by rw [Int.sub_zero]; exact g1)] at HN
        generalize numT p 0 (u / pw p (-v)) (v + n) = z at *
        generalize pw p (-v) = m at *
        replace HN := Lib.hid HN
        have hz : (m == 0) = false := by simp; omega
        have hz2 : ¬ m = 0 := by omega
        have hwd : IntKind.i64.wrap (u / m) = u / m := IntWalk.i64_in _ (by omega)
        clear hk hc g1 g2
        go_enter Try.func31, Try.ntmps31
        go_wp2_with (first | (go_at_call 39; refine (specIsPadic_any _ _ _ _ _).mono ?_; rintro e wn ⟨rfl, hb⟩; (first | have K := k2_first hb | have K := k2_next K hb); obtain ⟨c0, c1, c2, c3⟩ := lies_four K.2.1; obtain ⟨cf0, cf1, cf2, cf3⟩ := lies_ice K.2.1; obtain ⟨d0, d1, d2, d3⟩ := lies_four K.2.2; obtain ⟨df0, df1, df2, df3⟩ := lies_ice K.2.2) | (go_at_call 55; refine (low_any _ _ _ _ _ H.out HEE.out).mono ?_; rw [hlm]; rintro e wn ⟨rfl, hb⟩; (first | have K := k2_first hb | have K := k2_next K hb); obtain ⟨c0, c1, c2, c3⟩ := lies_four K.2.1; obtain ⟨cf0, cf1, cf2, cf3⟩ := lies_ice K.2.1; obtain ⟨d0, d1, d2, d3⟩ := lies_four K.2.2; obtain ⟨df0, df1, df2, df3⟩ := lies_ice K.2.2))
        have KK := k2_drew K
        have HL := KK.2.2
        clear K hb c0 c1 c2 c3 d0 d1 d2 d3 cf0 cf1 cf2 cf3 df0 df1 df2 df3
        refine wp_region_held_drew (S := SZ w p v u n) (by kernel_rfl) (sz_of ⟨KK.1, KK.2.1⟩) (fun hHeld => ?_)
        clear KK
        generalize World.drew _ = w1 at hHeld HL ⊢
        refine take_at (i := 0) (d := 28) (v := .pointer (some ⟨w.heap.size, 0, none⟩)) rfl rfl (by kernel_rfl) (by kernel_rfl) (by kernel_rfl) (fun _ _ _ h => h) (Or.inl ⟨by rfl, ?_⟩) hHeld ?_
        · intro w' hS; go_simp
        try simp only [Act.put, List.setIfInBounds_toArray, List.set_cons_zero, List.set_cons_succ]
        refine take_at (i := 1) (d := 29) (v := .int .i64 p) rfl rfl (by kernel_rfl) (by kernel_rfl) (by kernel_rfl) (fun _ _ _ h => h) (Or.inl ⟨by rfl, ?_⟩) hHeld ?_
        · intro w' hS
          obtain ⟨_, k0, k1, k2, k3⟩ := hS
          go_simp
        try simp only [Act.put, List.setIfInBounds_toArray, List.set_cons_zero, List.set_cons_succ]
        refine take_at (i := 2) (d := 30) (v := .pointer (some ⟨w.heap.size, 2, none⟩)) rfl rfl (by kernel_rfl) (by kernel_rfl) (by kernel_rfl) (fun _ _ _ h => h) (Or.inl ⟨by rfl, ?_⟩) hHeld ?_
        · intro w' hS; go_simp
        try simp only [Act.put, List.setIfInBounds_toArray, List.set_cons_zero, List.set_cons_succ]
        refine take_at (i := 3) (d := 31) (v := .int .i64 u) rfl rfl (by kernel_rfl) (by kernel_rfl) (by kernel_rfl) (fun _ _ _ h => h) (Or.inl ⟨by rfl, ?_⟩) hHeld ?_
        · intro w' hS
          obtain ⟨_, k0, k1, k2, k3⟩ := hS
          go_simp
        try simp only [Act.put, List.setIfInBounds_toArray, List.set_cons_zero, List.set_cons_succ]
        refine take_at (i := 4) (d := 32) (v := .int .i64 m) rfl rfl (by kernel_rfl) (by kernel_rfl) (by kernel_rfl) (fun _ _ _ h => h) (Or.inl ⟨by rfl, ?_⟩) hHeld ?_
        · intro w' hS; go_simp
        try simp only [Act.put, List.setIfInBounds_toArray, List.set_cons_zero, List.set_cons_succ]
        refine take_at (i := 6) (d := 34) (v := .int .i64 (v + n)) rfl rfl (by kernel_rfl) (by kernel_rfl) (by kernel_rfl) (fun _ _ _ h => h) (Or.inl ⟨by rfl, ?_⟩) hHeld ?_
        · intro w' hS; go_simp
        try simp only [Act.put, List.setIfInBounds_toArray, List.set_cons_zero, List.set_cons_succ]
        refine wpAnyH_ready (rs := [5]) (by kernel_rfl) (by simp) ?_
        refine AllReadyH.cons rfl (fun K hK => ?_) AllReadyH.nil
        go_simp
        refine hK.out _ _ hHeld (fun hHeld => ?_)
        clear hK K
        try simp only [Act.put, List.setIfInBounds_toArray, List.set_cons_zero, List.set_cons_succ]
        refine wpAnyH_ready (rs := [7]) (by kernel_rfl) (by simp) ?_
        refine AllReadyH.cons rfl (fun K hK => ?_) AllReadyH.nil
        go_simp
        go_at_call 53; refine (HN.out _).mono ?_; rintro e1 w3 ⟨rfl, hb⟩
        go_simp
        refine hK.out _ _ (sz_next hHeld hb) (fun hHeld => ?_)
        clear hK K
        try simp only [Act.put, List.setIfInBounds_toArray, List.set_cons_zero, List.set_cons_succ]
        replace HL := lies_next HL hb
        clear hb
        obtain ⟨g0, g1, g2, g3⟩ := lies_four HL
        obtain ⟨gf0, gf1, gf2, gf3⟩ := lies_ice HL
        refine wpAnyH_ready (rs := [8]) (by kernel_rfl) (by simp) ?_
        refine AllReadyH.cons rfl (fun K hK => ?_) AllReadyH.nil
        go_simp
        refine hK.out _ _ (sz_set hHeld _ _ _ _) (fun hHeld => ?_)
        clear hK K
        try simp only [Act.put, List.setIfInBounds_toArray, List.set_cons_zero, List.set_cons_succ]
        refine take_at (i := 9) (d := 3) (v := .int .i64 0) rfl rfl (by kernel_rfl) (by kernel_rfl) (by kernel_rfl) (fun _ _ _ h => h) (Or.inl ⟨by rfl, ?_⟩) hHeld ?_
        · intro w' hS; go_simp
        try simp only [Act.put, List.setIfInBounds_toArray, List.set_cons_zero, List.set_cons_succ]
        refine wpAnyH_done (by kernel_rfl) ?_ _
        obtain ⟨d0, d1, d2, d3⟩ := lies_four (lies_set4 (x0 := .int .i64 p) (x1 := .int .i64 z.1) (x2 := .int .i64 z.2.1) (x3 := .int .i64 z.2.2) HL)
        go_wp2
        refine bodyPost_ret (v := .tuple #[.agg (P4 p z.1 z.2.1 z.2.2), .int .i64 0]) (by simp [results, Try.results31, go_sem, d0, d1, d2, d3]) rfl ?_
        exact ⟨rfl, hHeld.1.1⟩
theorem specFraction_any (p v u n : Int) (w : World) :
    Calls Try.prog 33 #[.agg (P4 p v u n)] w fun e w' => e = .returned (.tuple #[.int .i64 (fracN p v u n), .int .i64 (fracD p v u n), .int .i64 (splitC p v u n)]) ∧ Below w.heap.size w w' := by
  cases hx : padB p v u n
  · have hc : splitC p v u n = 1 := by simp [splitC, hx]
    rw [show fracN p v u n = 0 by simp [fracN, hc], show fracD p v u n = 0 by simp [fracD, hc], hc]
    clear hc
    go_enter Try.func33, Try.ntmps33
    go_wp2_with (first | (go_at_call 39; refine (specIsPadic_any _ _ _ _ _).mono ?_; rintro e wn ⟨rfl, hb⟩; (first | have K := k1_first hb | have K := k1_next K hb); obtain ⟨c0, c1, c2, c3⟩ := lies_four K.2))
    refine bodyPost_ret (v := .tuple #[.int .i64 (0), .int .i64 (0), .int .i64 (1)]) (by simp [results, Try.results33, go_sem]) rfl ?_
    exact ⟨rfl, K.1⟩
  · have hk := padB_ok hx
    obtain ⟨hp2, hp97, hn0, hn1, _, _, hu0, _, hu2⟩ := pok_bd hk
    have hv0 := hk.2.1
    have hv1 := hk.2.2.1
    have hwe : IntKind.i64.wrap (v + n) = v + n := IntWalk.i64_in _ (by omega)
    by_cases hneg : v + n < 0
    · have hc : splitC p v u n = 4 := by simp [splitC, hx, hneg]
      rw [show fracN p v u n = 0 by simp [fracN, hc], show fracD p v u n = 0 by simp [fracD, hc], hc]
      clear hc hk
      go_enter Try.func33, Try.ntmps33
      go_wp2_with (first | (go_at_call 39; refine (specIsPadic_any _ _ _ _ _).mono ?_; rintro e wn ⟨rfl, hb⟩; (first | have K := k1_first hb | have K := k1_next K hb); obtain ⟨c0, c1, c2, c3⟩ := lies_four K.2))
      refine bodyPost_ret (v := .tuple #[.int .i64 (0), .int .i64 (0), .int .i64 (4)]) (by simp [results, Try.results33, go_sem]) rfl ?_
      exact ⟨rfl, K.1⟩
    · have hc : splitC p v u n = 0 := by simp [splitC, hx, hneg]
      have H := Lib.hid hk
      have HEE := Lib.hid (show 0 ≤ v + n by omega)
      have HG : Hid (∀ w : World, Calls Try.prog 60 #[.int .i64 (lowN p v u), .int .i64 (lowM p v)] w fun e w' => e = .returned (.int .i64 1) ∧ ∃ n, w' = w.drewN n) := by
        refine Lib.hid fun w => ?_
        by_cases hv : 0 ≤ v
        · rw [show lowN p v u = 0 by simp [lowN, hv], show lowM p v = 1 by simp [lowM, hv]]
          exact (l01Gcd_any 0 1 w (by omega) (by omega) (by omega) (by omega)).mono fun e w' h => ⟨by rw [h.1]; rfl, h.2⟩
        · rw [show lowN p v u = u % pw p (-v) by simp [lowN, hv], show lowM p v = pw p (-v) by simp [lowM, hv]]
          obtain ⟨f1, f2, _, _, _, f6, f7, f8, hn1'⟩ := part_facts hk (by omega) hv
          obtain ⟨g1, _⟩ := frac_coprime hk (show n ≠ 0 by omega) (show 1 ≤ -v by omega) (by omega)
          exact (l01Gcd_any _ _ w (by omega) (by omega) (by omega) (by omega)).mono fun e w' h => ⟨by rw [h.1, g1]; rfl, h.2⟩
      have hl : fracN p v u n = lowN p v u ∧ fracD p v u n = lowM p v ∧ 0 ≤ lowN p v u ∧ lowN p v u ≤ 1000000000 ∧ 1 ≤ lowM p v ∧ lowM p v ≤ 1000000000 := by
        by_cases hv : 0 ≤ v
        · simp [fracN, fracD, lowN, lowM, hc, hv]
        · obtain ⟨f1, f2, _, _, _, f6, f7, f8, hn1'⟩ := part_facts hk (by omega) hv
          simp [fracN, fracD, lowN, lowM, hc, hv, f1, f2, f7, f8]
      obtain ⟨e1, e2, a0, a1, b0, b1⟩ := hl
      rw [e1, e2, hc]
      have LW := fun w => low_any p v u n w H.out HEE.out
      generalize lowN p v u = a at *
      generalize lowM p v = b at *
      replace LW := Lib.hid LW
      have t1 : a.tdiv 1 = a := Int.tdiv_one a
      have t2 : b.tdiv 1 = b := Int.tdiv_one b
      have w1 : IntKind.i64.wrap a = a := IntWalk.i64_in _ (by omega)
      have w2 : IntKind.i64.wrap b = b := IntWalk.i64_in _ (by omega)
      clear hk hc e1 e2 H HEE
      go_enter Try.func33, Try.ntmps33
      go_wp2_with (first | (go_at_call 39; refine (specIsPadic_any _ _ _ _ _).mono ?_; rintro e wn ⟨rfl, hb⟩; (first | have K := k1_first hb | have K := k1_next K hb); obtain ⟨c0, c1, c2, c3⟩ := lies_four K.2) | (go_at_call 55; refine (LW.out _).mono ?_; rintro e wn ⟨rfl, hb⟩; (first | have K := k1_first hb | have K := k1_next K hb); obtain ⟨c0, c1, c2, c3⟩ := lies_four K.2) | (go_at_call 60; refine (HG.out _).mono ?_; rintro e wn ⟨rfl, nd, rfl⟩))
      go_quiet (fail)
      go_wp2
      refine bodyPost_ret (v := .tuple #[.int .i64 (a), .int .i64 (b), .int .i64 (0)]) (by simp [results, Try.results33, go_sem]) rfl ?_
      exact ⟨rfl, by first | exact below_drewN K.1 _ | exact below_drewN (below_drewN K.1 _) _⟩
end Go.Proofs.Ytejgcamogjgdkaa
