/- Contracts of the walk: chapter 4 in impl: the code of a number that is to be divided, shifts, whole parts and fractions. -/
import Derived.Test.YtgckamlibbjgcaaDigMath
import Derived.StillTailTactics
namespace Go.Proofs.Ytgckamlibbjgcaa
open Go.RowKit
set_option linter.unusedVariables false
set_option maxRecDepth 20000
set_option linter.unusedSimpArgs false
def splitC (p v u n : Int) : Int := if padB p v u n then (if v + n < 0 then 4 else 0) else 1
theorem split_zero {p v u n : Int} (h : splitC p v u n = 0) : POk p v u n ∧ 0 ≤ v + n := by
  unfold splitC at h
  split at h
  · rename_i hb
    split at h
    · omega
    · exact ⟨padB_ok hb, by omega⟩
  · omega
def wholeQ (p v u n : Int) : Q4 := if splitC p v u n = 0 then (if 0 ≤ v then (p, v, u, n) else (p, numT p 0 (u / pw p (-v)) (v + n))) else (0, 0, 0, 0)
def fracN (p v u n : Int) : Int := if splitC p v u n = 0 then (if 0 ≤ v then 0 else u % pw p (-v)) else 0
def fracD (p v u n : Int) : Int := if splitC p v u n = 0 then (if 0 ≤ v then 1 else pw p (-v)) else 0
/-- the power that divides a number into its parts -/
theorem part_facts {p v u n : Int} (h : POk p v u n) (he : 0 ≤ v + n) (hv : ¬ 0 ≤ v) :
    1 ≤ pw p (-v) ∧ pw p (-v) ≤ 1000000000 ∧ 0 ≤ u / pw p (-v) ∧ u / pw p (-v) ≤ 1000000000 ∧ u.tdiv (pw p (-v)) = u / pw p (-v) ∧ u.tmod (pw p (-v)) = u % pw p (-v) ∧ 0 ≤ u % pw p (-v) ∧ u % pw p (-v) ≤ 1000000000 ∧ 1 ≤ n := by
  obtain ⟨hp2, hp97, hn0, hn1, hm0, hm1, hu0, hu1, hu2⟩ := pok_bd h
  have hpart := pw_part (p := p) (n := n) (e := -v) hp2 hm1 (by omega)
  have a0 := Int.ediv_nonneg hu0 (show 0 ≤ pw p (-v) by omega)
  have a1 := Int.ediv_le_self (pw p (-v)) hu0
  have r0 := Int.emod_nonneg u (show pw p (-v) ≠ 0 by omega)
  have r1 := Int.emod_lt_of_pos u (show 0 < pw p (-v) by omega)
  exact ⟨hpart.1, hpart.2, a0, by omega, Int.tdiv_eq_ediv_of_nonneg hu0, tmod_nonneg hu0, r0, by omega, by omega⟩
theorem k2_drewN {w w1 : World} {a b : Array Value} (h : K2 w a b w1) (k : Nat) : K2 w a b (w1.drewN k) := ⟨below_drewN h.1 k, h.2⟩
/-- block 0 holds a number that is read -/
abbrev SZ (w : World) (p v u n : Int) (w1 : World) : Prop :=
  K1 w (P4 p v u n) w1 ∧ w1.cell? ⟨w.heap.size, 0, none⟩ = some (.int .i64 p) ∧ w1.cell? ⟨w.heap.size, 1, none⟩ = some (.int .i64 v) ∧ w1.cell? ⟨w.heap.size, 2, none⟩ = some (.int .i64 u) ∧ w1.cell? ⟨w.heap.size, 3, none⟩ = some (.int .i64 n)
theorem sz_of {w : World} {p v u n : Int} {w1 : World} (K : K1 w (P4 p v u n) w1) : SZ w p v u n w1 := by
  obtain ⟨c0, c1, c2, c3⟩ := lies_four K.2
  exact ⟨K, c0, c1, c2, c3⟩
theorem sz_next {w : World} {p v u n : Int} {w1 w2 : World} (h : SZ w p v u n w1) (hb : Below w1.heap.size w1 w2) : SZ w p v u n w2 := sz_of (k1_next h.1 hb)
theorem sz_set {w : World} {p v u n : Int} {w1 : World} (h : SZ w p v u n w1) (x0 x1 x2 x3 : Value) :
    SZ w p v u n ((((w1.setCell ⟨w.heap.size + 1, 0, none⟩ x0).setCell ⟨w.heap.size + 1, 1, none⟩ x1).setCell ⟨w.heap.size + 1, 2, none⟩ x2).setCell ⟨w.heap.size + 1, 3, none⟩ x3) :=
  sz_of ⟨below_set4 h.1.1 (by omega), lies_other4 h.1.2 (by omega)⟩
theorem k2_set1 {w w1 : World} {a b : Array Value} {i : Nat} {x : Value} (K : K2 w a b w1) (hi : i < a.size) : K2 w (a.setIfInBounds i x) b (w1.setCell ⟨w.heap.size, i, none⟩ x) :=
  ⟨K.1.setCell (Nat.le_refl _) _, lies_set K.2.1 hi, lies_other K.2.2 (by omega)⟩
theorem checkSplit_any (p v u n : Int) (w : World) :
    Calls Try.prog 90 #[.agg (P4 p v u n)] w fun e w' => e = .returned (.int .i64 (splitC p v u n)) ∧ Below w.heap.size w w' := by
  cases hx : padB p v u n
  · have HE := Lib.hid (show splitC p v u n = 1 by simp [splitC, hx])
    rw [HE.out]
    go_enter Try.func90, Try.ntmps90
    go_wp2_with (first | (go_at_call 80; refine (isValid_any _ _ _ _ _).mono ?_; rintro e wn ⟨rfl, hb⟩; (first | have K := k1_first hb | have K := k1_next K hb); obtain ⟨c0, c1, c2, c3⟩ := lies_four K.2))
    go_ret
    exact ⟨rfl, K.1⟩
  · have hk := padB_ok hx
    obtain ⟨_, _, hn0, hn1, _⟩ := pok_bd hk
    have hv0 := hk.2.1
    have hv1 := hk.2.2.1
    clear hk
    by_cases hneg : v + n < 0
    · have HE := Lib.hid (show splitC p v u n = 4 by simp [splitC, hx, hneg])
      rw [HE.out]
      go_enter Try.func90, Try.ntmps90
      go_wp2_with (first | (go_at_call 80; refine (isValid_any _ _ _ _ _).mono ?_; rintro e wn ⟨rfl, hb⟩; (first | have K := k1_first hb | have K := k1_next K hb); obtain ⟨c0, c1, c2, c3⟩ := lies_four K.2) | (go_at_call 89; refine (end_any _ _ _ _ _ (by omega) (by omega) (by omega) (by omega)).mono ?_; rintro e wn ⟨rfl, hb⟩; (first | have K := k1_first hb | have K := k1_next K hb); obtain ⟨c0, c1, c2, c3⟩ := lies_four K.2))
      go_ret
      exact ⟨rfl, K.1⟩
    · have HE := Lib.hid (show splitC p v u n = 0 by simp [splitC, hx, hneg])
      rw [HE.out]
      go_enter Try.func90, Try.ntmps90
      go_wp2_with (first | (go_at_call 80; refine (isValid_any _ _ _ _ _).mono ?_; rintro e wn ⟨rfl, hb⟩; (first | have K := k1_first hb | have K := k1_next K hb); obtain ⟨c0, c1, c2, c3⟩ := lies_four K.2) | (go_at_call 89; refine (end_any _ _ _ _ _ (by omega) (by omega) (by omega) (by omega)).mono ?_; rintro e wn ⟨rfl, hb⟩; (first | have K := k1_first hb | have K := k1_next K hb); obtain ⟨c0, c1, c2, c3⟩ := lies_four K.2))
      go_ret
      exact ⟨rfl, K.1⟩
theorem implWhole_any (p v u n : Int) (w : World) :
    Calls Try.prog 36 #[.agg (P4 p v u n)] w fun e w' => e = .returned (.tuple #[.agg (A4 (wholeQ p v u n)), .int .i64 (splitC p v u n)]) ∧ Below w.heap.size w w' := by
  by_cases hc : splitC p v u n = 0
  · obtain ⟨hk, he⟩ := split_zero hc
    obtain ⟨hp2, hp97, hn0, hn1, _, _, hu0, _, hu2⟩ := pok_bd hk
    have hv0 := hk.2.1
    have hv1 := hk.2.2.1
    have HC := Lib.hid hc
    by_cases hv : 0 ≤ v
    · rw [show wholeQ p v u n = (p, v, u, n) by simp [wholeQ, hc, hv], hc]
      clear hk hc
      go_enter Try.func36, Try.ntmps36
      go_wp2_with (first | (go_at_call 90; refine (checkSplit_any _ _ _ _ _).mono ?_; rw [HC.out]; rintro e wn ⟨rfl, hb⟩; (first | have K := k2_first hb | have K := k2_next K hb); obtain ⟨c0, c1, c2, c3⟩ := lies_four K.2.1; obtain ⟨cf0, cf1, cf2, cf3⟩ := lies_ice K.2.1; obtain ⟨d0, d1, d2, d3⟩ := lies_four K.2.2; obtain ⟨df0, df1, df2, df3⟩ := lies_ice K.2.2))
      refine bodyPost_ret (v := .tuple #[.agg (P4 p v u n), .int .i64 0]) (by simp [results, Try.results36, go_sem, d0, d1, d2, d3]) rfl ?_
      exact ⟨rfl, below_set4 K.1 (by omega)⟩
    · rw [show wholeQ p v u n = (p, numT p 0 (u / pw p (-v)) (v + n)) by simp [wholeQ, hc, hv], hc]
      obtain ⟨f1, f2, f3, f4, f5, _, _, _, hn1'⟩ := part_facts hk he hv
      have HP := primePower_any p (-v)
      have HN := Lib.hid fun w => numEnd_any p 0 (u / pw p (-v)) (v + n) w hp2 (by omega) (by omega) (by omega) (by omega) (by omega)
      have hwn : IntKind.i64.wrap (-v) = -v := IntWalk.i64_in _ (by omega)
      generalize numT p 0 (u / pw p (-v)) (v + n) = z at *
      generalize pw p (-v) = m at *
      replace HP := Lib.hid fun w => HP w hp2 hp97 (by omega) f2
      have hz : (m == 0) = false := by simp; omega
      have hz2 : ¬ m = 0 := by omega
      have hwd : IntKind.i64.wrap (u / m) = u / m := IntWalk.i64_in _ (by omega)
      clear hk hc
      go_enter Try.func36, Try.ntmps36
      go_wp2_with (first | (go_at_call 90; refine (checkSplit_any _ _ _ _ _).mono ?_; rw [HC.out]; rintro e wn ⟨rfl, hb⟩; (first | have K := k2_first hb | have K := k2_next K hb); obtain ⟨c0, c1, c2, c3⟩ := lies_four K.2.1; obtain ⟨cf0, cf1, cf2, cf3⟩ := lies_ice K.2.1; obtain ⟨d0, d1, d2, d3⟩ := lies_four K.2.2; obtain ⟨df0, df1, df2, df3⟩ := lies_ice K.2.2))
      go_quiet ((go_at_call 86; exact (HP.out _).mono fun e w' h => ⟨h.1, _, h.2.symm⟩))
      go_wp2_with fail
      have KK := k2_drew (k2_drewN K nq)
      have HL := KK.2.2
      clear K hb c0 c1 c2 c3 d0 d1 d2 d3 cf0 cf1 cf2 cf3 df0 df1 df2 df3
      refine wp_region_held_drew (S := SZ w p v u n) (by kernel_rfl) (sz_of ⟨KK.1, KK.2.1⟩) (fun hHeld => ?_)
      clear KK
      generalize World.drew _ = w1 at hHeld HL ⊢
      refine take_at (i := 0) (d := 25) (v := .pointer (some ⟨w.heap.size, 0, none⟩)) rfl rfl (by kernel_rfl) (by kernel_rfl) (by kernel_rfl) (fun _ _ _ h => h) (Or.inl ⟨by rfl, ?_⟩) hHeld ?_
      · intro w' hS; go_simp
      try simp only [Act.put, List.setIfInBounds_toArray, List.set_cons_zero, List.set_cons_succ]
      refine take_at (i := 1) (d := 26) (v := .int .i64 p) rfl rfl (by kernel_rfl) (by kernel_rfl) (by kernel_rfl) (fun _ _ _ h => h) (Or.inl ⟨by rfl, ?_⟩) hHeld ?_
      · intro w' hS
        obtain ⟨_, k0, k1, k2, k3⟩ := hS
        go_simp
      try simp only [Act.put, List.setIfInBounds_toArray, List.set_cons_zero, List.set_cons_succ]
      refine take_at (i := 2) (d := 27) (v := .int .i64 (u / m)) rfl rfl (by kernel_rfl) (by kernel_rfl) (by kernel_rfl) (fun _ _ _ h => h) (Or.inl ⟨by rfl, ?_⟩) hHeld ?_
      · intro w' hS; go_simp
      try simp only [Act.put, List.setIfInBounds_toArray, List.set_cons_zero, List.set_cons_succ]
      refine take_at (i := 3) (d := 28) (v := .agg (P4 p v u n)) rfl rfl (by kernel_rfl) (by kernel_rfl) (by kernel_rfl) (fun _ _ _ h => h) (Or.inl ⟨by rfl, ?_⟩) hHeld ?_
      · intro w' hS
        obtain ⟨_, k0, k1, k2, k3⟩ := hS
        go_simp
      try simp only [Act.put, List.setIfInBounds_toArray, List.set_cons_zero, List.set_cons_succ]
      refine wpAnyH_ready (rs := [4]) (by kernel_rfl) (by simp) ?_
      refine AllReadyH.cons rfl (fun K hK => ?_) AllReadyH.nil
      go_simp
      go_at_call 89; refine (end_any _ _ _ _ _ (by omega) (by omega) (by omega) (by omega)).mono ?_; rintro e1 w2 ⟨rfl, hb⟩
      go_simp
      refine hK.out _ _ (sz_next hHeld hb) (fun hHeld => ?_)
      clear hK K
      try simp only [Act.put, List.setIfInBounds_toArray, List.set_cons_zero, List.set_cons_succ]
      replace HL := lies_next HL hb
      clear hb
      refine wpAnyH_ready (rs := [5]) (by kernel_rfl) (by simp) ?_
      refine AllReadyH.cons rfl (fun K hK => ?_) AllReadyH.nil
      go_simp
      go_at_call 91; refine (HN.out _).mono ?_; rintro e1 w3 ⟨rfl, hb⟩
      go_simp
      refine hK.out _ _ (sz_next hHeld hb) (fun hHeld => ?_)
      clear hK K
      try simp only [Act.put, List.setIfInBounds_toArray, List.set_cons_zero, List.set_cons_succ]
      replace HL := lies_next HL hb
      clear hb
      obtain ⟨g0, g1, g2, g3⟩ := lies_four HL
      obtain ⟨gf0, gf1, gf2, gf3⟩ := lies_ice HL
      refine wpAnyH_ready (rs := [6]) (by kernel_rfl) (by simp) ?_
      refine AllReadyH.cons rfl (fun K hK => ?_) AllReadyH.nil
      go_simp
      refine hK.out _ _ (sz_set hHeld _ _ _ _) (fun hHeld => ?_)
      clear hK K
      try simp only [Act.put, List.setIfInBounds_toArray, List.set_cons_zero, List.set_cons_succ]
      refine take_at (i := 7) (d := 3) (v := .int .i64 0) rfl rfl (by kernel_rfl) (by kernel_rfl) (by kernel_rfl) (fun _ _ _ h => h) (Or.inl ⟨by rfl, ?_⟩) hHeld ?_
      · intro w' hS; go_simp
      try simp only [Act.put, List.setIfInBounds_toArray, List.set_cons_zero, List.set_cons_succ]
      refine wpAnyH_done (by kernel_rfl) ?_ _
      obtain ⟨d0, d1, d2, d3⟩ := lies_four (lies_set4 (x0 := .int .i64 p) (x1 := .int .i64 z.1) (x2 := .int .i64 z.2.1) (x3 := .int .i64 z.2.2) HL)
      go_wp2
      refine bodyPost_ret (v := .tuple #[.agg (P4 p z.1 z.2.1 z.2.2), .int .i64 0]) (by simp [results, Try.results36, go_sem, d0, d1, d2, d3]) rfl ?_
      exact ⟨rfl, hHeld.1.1⟩
  · have hc' : (splitC p v u n != 0) = true := by simpa using hc
    rw [show wholeQ p v u n = (0, 0, 0, 0) by simp [wholeQ, hc]]
    clear hc
    go_enter Try.func36, Try.ntmps36
    go_wp2_with (first | (go_at_call 90; refine (checkSplit_any _ _ _ _ _).mono ?_; rintro e wn ⟨rfl, hb⟩; (first | have K := k2_first hb | have K := k2_next K hb); obtain ⟨c0, c1, c2, c3⟩ := lies_four K.2.1; obtain ⟨cf0, cf1, cf2, cf3⟩ := lies_ice K.2.1; obtain ⟨d0, d1, d2, d3⟩ := lies_four K.2.2; obtain ⟨df0, df1, df2, df3⟩ := lies_ice K.2.2))
    refine bodyPost_ret (v := .tuple #[.agg (P4 0 0 0 0), .int .i64 (splitC p v u n)]) (by simp [results, Try.results36, go_sem, d0, d1, d2, d3]) rfl ?_
    exact ⟨rfl, below_set4 K.1 (by omega)⟩
theorem implFraction_any (p v u n : Int) (w : World) :
    Calls Try.prog 38 #[.agg (P4 p v u n)] w fun e w' => e = .returned (.tuple #[.int .i64 (fracN p v u n), .int .i64 (fracD p v u n), .int .i64 (splitC p v u n)]) ∧ Below w.heap.size w w' := by
  by_cases hc : splitC p v u n = 0
  · obtain ⟨hk, he⟩ := split_zero hc
    obtain ⟨hp2, hp97, hn0, hn1, _, _, hu0, _, hu2⟩ := pok_bd hk
    have hv0 := hk.2.1
    have hv1 := hk.2.2.1
    have HC := Lib.hid hc
    by_cases hv : 0 ≤ v
    · rw [show fracN p v u n = 0 by simp [fracN, hv], show fracD p v u n = 1 by simp [fracD, hc, hv], hc]
      clear hk hc
      go_enter Try.func38, Try.ntmps38
      go_wp2_with (first | (go_at_call 90; refine (checkSplit_any _ _ _ _ _).mono ?_; rw [HC.out]; rintro e wn ⟨rfl, hb⟩; (first | have K := k1_first hb | have K := k1_next K hb); obtain ⟨c0, c1, c2, c3⟩ := lies_four K.2))
      refine bodyPost_ret (v := .tuple #[.int .i64 (0), .int .i64 (1), .int .i64 (0)]) (by simp [results, Try.results38, go_sem]) rfl ?_
      exact ⟨rfl, K.1⟩
    · rw [show fracN p v u n = u % pw p (-v) by simp [fracN, hc, hv], show fracD p v u n = pw p (-v) by simp [fracD, hc, hv], hc]
      obtain ⟨f1, f2, _, _, _, f6, f7, f8, hn1'⟩ := part_facts hk he hv
      have HP := primePower_any p (-v)
      have hwn : IntKind.i64.wrap (-v) = -v := IntWalk.i64_in _ (by omega)
      generalize pw p (-v) = m at *
      replace HP := Lib.hid fun w => HP w hp2 hp97 (by omega) f2
      have hz : (m == 0) = false := by simp; omega
      have hz2 : ¬ m = 0 := by omega
      have hwd : IntKind.i64.wrap (u % m) = u % m := IntWalk.i64_in _ (by omega)
      clear hk hc
      go_enter Try.func38, Try.ntmps38
      go_wp2_with (first | (go_at_call 90; refine (checkSplit_any _ _ _ _ _).mono ?_; rw [HC.out]; rintro e wn ⟨rfl, hb⟩; (first | have K := k1_first hb | have K := k1_next K hb); obtain ⟨c0, c1, c2, c3⟩ := lies_four K.2) | (go_at_call 86; refine (HP.out _).mono ?_; rintro e wn ⟨rfl, rfl⟩))
      refine bodyPost_ret (v := .tuple #[.int .i64 (u % m), .int .i64 (m), .int .i64 (0)]) (by simp [results, Try.results38, go_sem]) rfl ?_
      exact ⟨rfl, K.1⟩
  · have hc' : (splitC p v u n != 0) = true := by simpa using hc
    rw [show fracN p v u n = 0 by simp [fracN, hc], show fracD p v u n = 0 by simp [fracD, hc]]
    clear hc
    go_enter Try.func38, Try.ntmps38
    go_wp2_with (first | (go_at_call 90; refine (checkSplit_any _ _ _ _ _).mono ?_; rintro e wn ⟨rfl, hb⟩; (first | have K := k1_first hb | have K := k1_next K hb); obtain ⟨c0, c1, c2, c3⟩ := lies_four K.2))
    refine bodyPost_ret (v := .tuple #[.int .i64 (0), .int .i64 (0), .int .i64 (splitC p v u n)]) (by simp [results, Try.results38, go_sem]) rfl ?_
    exact ⟨rfl, K.1⟩
end Go.Proofs.Ytgckamlibbjgcaa
