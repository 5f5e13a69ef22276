/- Contracts of the walk: chapter 5's search in impl: the bound, the closure over the modulus, multiples by powers of a prime, FindRational. -/
import Derived.Test.YtgckamlibbjgcaaRatPad
namespace Go.Proofs.Ytgckamlibbjgcaa
open Go.RowKit
set_option linter.unusedVariables false
set_option linter.unusedSimpArgs false
set_option maxRecDepth 20000
theorem bound_next {m b : Int} (h0 : 0 ≤ b) (h1 : 2 * (b * b) < m) (hm : m ≤ 1000000000) :
    b ≤ 22360 ∧ b < m ∧ 0 ≤ 2 * (b + 1) * (b + 1) ∧ 2 * (b + 1) * (b + 1) ≤ 2000000000 ∧ 2 * (b + 1) * (b + 1) = 2 * ((b + 1) * (b + 1)) := by
  have h2 := sq_ge h0
  have h3 : b ≤ 22360 := by
    refine Classical.byContradiction fun hc => ?_
    have : 22361 * 22361 ≤ b * b := Int.mul_le_mul (by omega) (by omega) (by omega) (by omega)
    omega
  have h4 : (b + 1) * (b + 1) ≤ 22361 * 22361 := Int.mul_le_mul (by omega) (by omega) (by omega) (by omega)
  have h5 : 0 ≤ (b + 1) * (b + 1) := Int.mul_nonneg (by omega) (by omega)
  have e : 2 * (b + 1) * (b + 1) = 2 * ((b + 1) * (b + 1)) := Int.mul_assoc _ _ _
  exact ⟨h3, by omega, by omega, by omega, e⟩
set_option maxHeartbeats 400000 in
theorem implBound_any (m : Int) (w : World) (h1 : 1 ≤ m) (h2 : m ≤ 1000000000) :
    Calls Try.prog 130 #[.int .i64 m] w fun e w' => e = .returned (.int .i64 (bndB m)) ∧ w = w' := by
  go_enter Try.func130, Try.ntmps130
  go_wp2
  go_loop [3, 4] (fun s t => ∃ b : Int, s = .int .i64 b ∧ t = .int .i64 (b + 1) ∧ 0 ≤ b ∧ 2 * (b * b) < m) (fun s _ => (m - intOf s).toNat)
  case atStart => exact ⟨0, rfl, rfl, by omega, by omega⟩
  case round =>
    obtain ⟨b, rfl, rfl, b0, b1⟩ := hrel
    obtain ⟨c1, c2, c3, c4, e⟩ := bound_next b0 b1 h2
    have HE := Lib.hid e
    clear e
    by_cases hlt : 2 * (b + 1) * (b + 1) < m
    · have hn : 2 * ((b + 1) * (b + 1)) < m := by rw [← HE.out]; exact hlt
      have HN := Lib.hid hn
      clear hn
      go_wp2
      exact ⟨⟨b + 1, rfl, rfl, by omega, HN.out⟩, by simp only [intOf]; omega⟩
    · have HB := Lib.hid (bnd_unique (bnd_is h1) ⟨b0, b1, by rw [← HE.out]; omega⟩)
      go_wp2
      go_ret
      exact ⟨ret_int HB.out.symm, rfl⟩
theorem specBound_any (m : Int) (w : World) (h1 : 1 ≤ m) (h2 : m ≤ 1000000000) :
    Calls Try.prog 101 #[.int .i64 m] w fun e w' => e = .returned (.int .i64 (bndB m)) ∧ w = w' := by
  go_enter Try.func101, Try.ntmps101
  go_wp2
  go_loop [3] (fun s => ∃ b : Int, s = .int .i64 b ∧ 0 ≤ b ∧ 2 * (b * b) < m) (fun s => (m - intOf s).toNat)
  case atStart => exact ⟨0, rfl, by omega, by omega⟩
  case round =>
    obtain ⟨b, rfl, b0, b1⟩ := hrel
    obtain ⟨c1, c2, c3, c4, e⟩ := bound_next b0 b1 h2
    have HE := Lib.hid e
    clear e
    by_cases hlt : 2 * (b + 1) * (b + 1) < m
    · have hn : 2 * ((b + 1) * (b + 1)) < m := by rw [← HE.out]; exact hlt
      have HN := Lib.hid hn
      clear hn
      go_wp2
      exact ⟨⟨b + 1, rfl, by omega, HN.out⟩, by simp only [intOf]; omega⟩
    · have HB := Lib.hid (bnd_unique (bnd_is h1) ⟨b0, b1, by rw [← HE.out]; omega⟩)
      go_wp2
      go_ret
      exact ⟨ret_int HB.out.symm, rfl⟩
/-- multiplied by a power, as long as it is a value -/
theorem multiplied_any (n p c : Int) (w : World) (hp : 2 ≤ p) (hq : p ≤ 97) (h0 : valueB n = true) (c0 : -1000 ≤ c) (c1 : c ≤ 1000) :
    Calls Try.prog 133 #[.int .i64 n, .int .i64 p, .int .i64 c] w fun e w' => e = .returned (.int .i64 (mF c.toNat n p)) ∧ w = w' := by
  have H0 := Lib.hid h0
  have b0 := valueB_bd h0
  obtain ⟨b1, b2⟩ := b0
  clear h0
  go_enter Try.func133, Try.ntmps133
  go_wp2
  go_loop [0, 7] (fun s t => ∃ (x : Int) (i : Nat), s = .int .i64 x ∧ t = .int .i64 i ∧ -97000000000000 ≤ x ∧ x ≤ 97000000000000 ∧ i ≤ 1000 ∧ (i : Int) ≤ max c 0 ∧ mF (c - i).toNat x p = mF c.toNat n p) (fun _ t => 1000 - (intOf t).toNat)
  case atStart => exact ⟨n, 0, rfl, rfl, by omega, by omega, by omega, by omega, by simp⟩
  case round =>
    obtain ⟨x, i, rfl, rfl, x0, x1, i0, i1, hm⟩ := hrel
    by_cases hlt : (i : Int) < c
    · cases hv : valueB x
      · have HM := Lib.hid (show x = mF c.toNat n p by rw [← hm, mF_no hv])
        clear hm
        go_wp2_with (go_at_call 127; refine (isValue_any _ _).mono ?_; rintro e w' ⟨rfl, rfl⟩)
        go_ret
        exact ⟨ret_int HM.out, rfl⟩
      · have HM := Lib.hid (show mF (c - (i + 1 : Nat)).toNat (x * p) p = mF c.toNat n p by
          rw [← hm, show (c - (i : Int)).toNat = (c - ((i + 1 : Nat) : Int)).toNat + 1 by omega, mF_step hv])
        obtain ⟨y0, y1⟩ := val97 hp hq hv
        clear hm
        go_wp2_with (go_at_call 127; refine (isValue_any _ _).mono ?_; rintro e w' ⟨rfl, rfl⟩)
        exact ⟨⟨_, i + 1, rfl, by go_num, y0, y1, by omega, by omega, HM.out⟩, by simp only [intOf]; omega⟩
    · have HM := Lib.hid (show x = mF c.toNat n p by rw [← hm, show (c - (i : Int)).toNat = 0 by omega]; rfl)
      clear hm
      go_wp2_with fail
      go_ret
      exact ⟨ret_int HM.out, rfl⟩
/-- what the search answers: the fraction that fits, or that there is none -/
def SPost (m u : Int) (w : World) (e : Ending) (w' : World) : Prop :=
  ∃ (a b : Int) (x : Bool), e = .returned (.tuple #[.agg (P2 a b), .bool x]) ∧ x = fitO m u ∧ Below w.heap.size w w' ∧ (fitO m u = true → a = fitN m u ∧ b = fitD m u)
theorem search_q {l r : Int} (h0 : 0 ≤ r) (h1 : 1 ≤ r) (h2 : r < l) : 0 ≤ l / r ∧ 0 ≤ l / r * r ∧ l / r * r ≤ l ∧ l / r ≤ l ∧ l - l / r * r < r := by
  have e := Int.mul_ediv_add_emod l r
  have m0 := Int.emod_nonneg l (show r ≠ 0 by omega)
  have m1 := Int.emod_lt_of_pos l (show 0 < r by omega)
  have q0 : 0 ≤ l / r := Int.ediv_nonneg (by omega) h0
  have q1 : l / r ≤ l := Int.ediv_le_self _ (by omega)
  have q2 := Int.mul_nonneg q0 h0
  rw [Int.mul_comm] at e
  omega
set_option maxHeartbeats 1000000 in
theorem search_any (u m : Int) (b0 b1 : Nat) (w : World) (hm1 : 2 ≤ m) (hm2 : m ≤ 1000000000) (hu0 : 0 ≤ u) (hu1 : u < m) (hc0 : w.cell? ⟨b0, 0, none⟩ = some (.int .i64 m)) (hc1 : w.cell? ⟨b1, 0, none⟩ = some (.int .i64 (bndB m)))
    (hb0 : b0 < w.heap.size) (hb1 : b1 < w.heap.size) :
    Calls Try.prog 131 #[.int .i64 u, .pointer (some ⟨b0, 0, none⟩), .pointer (some ⟨b1, 0, none⟩)] w (SPost m u w) := by
  have hB := bnd_is (m := m) (by omega)
  obtain ⟨B2, B3, B4⟩ := bnd_le hB hm2
  have B0 := hB.1
  have hbm : bndB m < m := by have := sq_ge B0; have := hB.2.1; omega
  have HS := Lib.hid (ei_start (m := m) (u := u) (B := bndB m) hu0 hu1 hbm)
  have HN : Hid (∀ l lf r f, EI m u (bndB m) l lf r f → r ≤ bndB m → (decide (-bndB m ≤ f) && (decide (f ≤ bndB m) && decide ((Int.gcd r f : Int) = 1))) = fitO m u ∧ (fitO m u = true → rlN r f = fitN m u ∧ rlD r f = fitD m u)) := Lib.hid fun l lf r f h hr => search_end hm1 h hr
  clear hB B3 B4
  generalize bndB m = B at *
  go_enter Try.func131, Try.ntmps131
  go_wp2
  have K := k1_new w (P2 0 0) 49
  have x0 : (w.alloc (.cells (P2 0 0) 49)).cell? ⟨b0, 0, none⟩ = some (.int .i64 m) := by rw [(below_a1 w _).cell (p := ⟨b0, 0, none⟩) hb0]; exact hc0
  have x1 : (w.alloc (.cells (P2 0 0) 49)).cell? ⟨b1, 0, none⟩ = some (.int .i64 B) := by rw [(below_a1 w _).cell (p := ⟨b1, 0, none⟩) hb1]; exact hc1
  clear hc0 hc1 hb0 hb1
  generalize w.alloc (.cells (P2 0 0) 49) = W1 at K x0 x1 ⊢
  go_loop [6, 7, 8, 9] (fun s6 s7 s8 s9 => ∃ l lf r f : Int, s6 = .int .i64 l ∧ s7 = .int .i64 lf ∧ s8 = .int .i64 r ∧ s9 = .int .i64 f ∧ EI m u B l lf r f) (fun _ _ s8 _ => (intOf s8).toNat)
  case atStart => exact ⟨m, 0, u, 1, rfl, rfl, rfl, rfl, HS.out⟩
  case round =>
    obtain ⟨l, lf, r, f, rfl, rfl, rfl, rfl, hr⟩ := hrel
    have HR := Lib.hid hr
    obtain ⟨r0, r1, r2, f0, f1, fz, hq⟩ := ei_bd B0 hr
    clear hr x0
    by_cases hlt : B < r
    · obtain ⟨y0, y1, y2, y3⟩ := hq (by omega)
      obtain ⟨q0, q1, q2, q3, q4⟩ := search_q r0 (by omega) r1
      have HE := Lib.hid (ei_step B0 HR.out hlt)
      clear hq HS fz
      go_wp2
      exact ⟨⟨_, _, _, _, rfl, rfl, rfl, rfl, HE.out⟩, by simp only [intOf]; omega⟩
    · obtain ⟨hf, hv⟩ := HN.out l lf r f HR.out (by omega)
      have HF := Lib.hid hv
      have H0 := Lib.hid fz
      clear hq fz hv HS HR
      by_cases g0 : -B ≤ f
      · by_cases g1 : f ≤ B
        · have HO := Lib.hid (show ((Int.gcd r f : Int) == 1) = fitO m u by
            rw [← hf, decide_eq_true g0, decide_eq_true g1]
            cases hg : ((Int.gcd r f : Int) == 1)
            · rw [decide_eq_false (by simp at hg; omega)]; rfl
            · rw [decide_eq_true (by simp at hg; omega)]; rfl)
          clear hf
          go_wp2_with (first | (go_at_call 128; refine (gdW_any _ _ _ (by omega) (by omega) (by omega) (by omega)).mono ?_; rintro e w' ⟨rfl, nd, rfl⟩; replace K : K1 w (P2 0 0) _ := ⟨below_drewN K.1 nd, lies_drewN K.2 nd⟩) | (go_at_call 132; refine (lowest_any _ _ _ H0.out (by omega) (by omega) (by omega) (by omega)).mono ?_; rintro e wn ⟨rfl, hb⟩; replace K := k1_next K hb; obtain ⟨c0, c1⟩ := lies_pair K.2; have cf0 := lies_frozen K.2 0; have cf1 := lies_frozen K.2 1))
          refine bodyPost_ret (v := .tuple #[.agg (P2 (rlN r f) (rlD r f)), .bool (((Int.gcd r f : Int) == 1))]) (by simp [results, Try.results131, go_sem, c0, c1]) rfl ?_
          exact ⟨_, _, _, rfl, by rw [HO.out], below_set2 K.1 (by omega), HF.out⟩
        · have HO := Lib.hid (show false = fitO m u by rw [← hf, decide_eq_true g0, decide_eq_false g1]; rfl)
          clear hf
          go_wp2_with (first | (go_at_call 132; refine (lowest_any _ _ _ H0.out (by omega) (by omega) (by omega) (by omega)).mono ?_; rintro e wn ⟨rfl, hb⟩; replace K := k1_next K hb; obtain ⟨c0, c1⟩ := lies_pair K.2; have cf0 := lies_frozen K.2 0; have cf1 := lies_frozen K.2 1))
          refine bodyPost_ret (v := .tuple #[.agg (P2 (rlN r f) (rlD r f)), .bool false]) (by simp [results, Try.results131, go_sem, c0, c1]) rfl ?_
          exact ⟨_, _, _, rfl, by rw [HO.out], below_set2 K.1 (by omega), HF.out⟩
      · have HO := Lib.hid (show false = fitO m u by rw [← hf, decide_eq_false g0]; rfl)
        clear hf
        go_wp2_with (first | (go_at_call 132; refine (lowest_any _ _ _ H0.out (by omega) (by omega) (by omega) (by omega)).mono ?_; rintro e wn ⟨rfl, hb⟩; replace K := k1_next K hb; obtain ⟨c0, c1⟩ := lies_pair K.2; have cf0 := lies_frozen K.2 0; have cf1 := lies_frozen K.2 1))
        refine bodyPost_ret (v := .tuple #[.agg (P2 (rlN r f) (rlD r f)), .bool false]) (by simp [results, Try.results131, go_sem, c0, c1]) rfl ?_
        exact ⟨_, _, _, rfl, by rw [HO.out], below_set2 K.1 (by omega), HF.out⟩
theorem fractionSearch_any (m : Int) (w : World) (h1 : 1 ≤ m) (h2 : m ≤ 1000000000) :
    Calls Try.prog 98 #[.int .i64 m] w fun e w' => e = .returned (.func (.func 131) #[] #[.pointer (some ⟨w.heap.size, 0, none⟩), .pointer (some ⟨w.heap.size + 1, 0, none⟩)]) ∧ w' = (w.alloc (.cells #[.int .i64 m] 2)).alloc (.cells #[.int .i64 (bndB m)] 2) := by
  have hmf : ∀ (fn : Fn) (first cap : Array Value) (w : World), (Instr.makeFunc fn first cap).run Try.prog w = .ok (.func fn first cap) w := fun _ _ _ _ => rfl
  go_enter Try.func98, Try.ntmps98
  go_wp2_with (go_at_call 130; refine (implBound_any _ _ h1 h2).mono ?_; rintro e w' ⟨rfl, rfl⟩)
  go_ret
  exact ⟨rfl, rfl⟩
theorem timesPower_any (n d p v : Int) (w : World) (hp : 2 ≤ p) (hq : p ≤ 97) (hn : valueB n = true) (hd : valueB d = true) (v0 : -60 ≤ v) (v1 : v ≤ 60) :
    Calls Try.prog 99 #[.agg (P2 n d), .int .i64 p, .int .i64 v] w fun e w' => e = .returned (.agg (P2 (mF v.toNat n p) (mF (-v).toNat d p))) ∧ Below w.heap.size w w' := by
  have HA := Lib.hid fun w => multiplied_any n p v w hp hq hn (by omega) (by omega)
  have HB := Lib.hid fun w => multiplied_any d p (-v) w hp hq hd (by omega) (by omega)
  have hw : IntKind.i64.wrap (-v) = -v := IntWalk.i64_in _ (by omega)
  clear hn hd
  go_enter Try.func99, Try.ntmps99
  go_wp2
  have K := k2_new w (P2 n d) (P2 0 0) 49 49
  generalize (w.alloc (.cells (P2 n d) 49)).alloc (.cells (P2 0 0) 49) = W1 at K ⊢
  obtain ⟨c0, c1⟩ := lies_pair K.2.1
  refine wp_region_still_tail 12 (by kernel_rfl) (by kernel_rfl) ?_
  simp only [List.take_succ_cons, List.take_zero, List.drop_succ_cons, List.drop_zero]
  repeat still_step
  still_call ((HA.out _).mono fun e w' h => ⟨h.1, h.2.symm⟩)
  repeat still_step
  still_call ((HB.out _).mono fun e w' h => ⟨h.1, h.2.symm⟩)
  repeat still_step
  refine wpStill_nil ?_
  have KW := k2_drew K
  change wpList _ _ _ _ _ W1.drew
  clear c0 c1 K hw
  generalize W1.drew = W2 at KW ⊢
  obtain ⟨d0, d1⟩ := lies_pair KW.2.2
  have df0 := lies_frozen KW.2.2 0
  have df1 := lies_frozen KW.2.2 1
  go_wp2
  refine bodyPost_ret (v := .agg (P2 (mF v.toNat n p) (mF (-v).toNat d p))) (by simp [results, Try.results99, go_sem, d0, d1]) rfl ?_
  exact ⟨rfl, below_set2 KW.1 (by omega)⟩
/-- what the tail of FindRational does -/
theorem findTail {p v u k : Int} (hb : padB p v u k = true) (hk : k ≠ 0) (ho : fitO (ringM p k) u = true) :
    findQ p v u k = rresQ (mF v.toNat (fitN (ringM p k) u) p) (mF (-v).toNat (fitD (ringM p k) u) p) ∧ findC p v u k = rlimC (mF v.toNat (fitN (ringM p k) u) p) (mF (-v).toNat (fitD (ringM p k) u) p) := by
  simp [findQ, findC, hb, hk, ho]
set_option maxHeartbeats 1000000 in
theorem implFind_any (p v u k : Int) (w : World) :
    Calls Try.prog 44 #[.agg (P4 p v u k)] w fun e w' => e = .returned (.tuple #[.agg (A2 (findQ p v u k)), .int .i64 (findC p v u k)]) ∧ Below w.heap.size w w' := by
  cases hx : padB p v u k
  · rw [show findQ p v u k = (0, 0) by simp [findQ, hx], show findC p v u k = 1 by simp [findC, hx]]
    go_enter Try.func44, Try.ntmps44
    go_wp2_with (first | (go_at_call 80; refine (isValid_any _ _ _ _ _).mono ?_; rintro e wn ⟨rfl, hb⟩; (first | have K := k2_first hb | have K := k2_next K hb); obtain ⟨c0, c1, c2, c3⟩ := lies_four K.2.1; obtain ⟨d0, d1⟩ := lies_pair K.2.2; have df0 := lies_frozen K.2.2 0; have df1 := lies_frozen K.2.2 1))
    refine bodyPost_ret (v := .tuple #[.agg (P2 0 0), .int .i64 1]) (by simp [results, Try.results44, go_sem, d0, d1]) rfl ?_
    exact ⟨rfl, below_set2 K.1 (by omega)⟩
  · have ok := padB_ok hx
    by_cases hk : k = 0
    · have HZ := Lib.hid (show (u == 0 && k == 0) = true by simp [hk, pok_zero ok hk])
      rw [show findQ p v u k = (0, 0) by simp [findQ, hk], show findC p v u k = 4 by unfold findC; rw [if_pos hx, if_pos hk]]
      clear hk ok
      go_enter Try.func44, Try.ntmps44
      go_wp2_with (first | (go_at_call 80; refine (isValid_any _ _ _ _ _).mono ?_; rintro e wn ⟨rfl, hb⟩; (first | have K := k2_first hb | have K := k2_next K hb); obtain ⟨c0, c1, c2, c3⟩ := lies_four K.2.1; obtain ⟨d0, d1⟩ := lies_pair K.2.2; have df0 := lies_frozen K.2.2 0; have df1 := lies_frozen K.2.2 1) | (go_at_call 81; refine (isZero_any _ _ _ _ _).mono ?_; rw [HZ.out]; rintro e wn ⟨rfl, hb⟩; (first | have K := k2_first hb | have K := k2_next K hb); obtain ⟨c0, c1, c2, c3⟩ := lies_four K.2.1; obtain ⟨d0, d1⟩ := lies_pair K.2.2; have df0 := lies_frozen K.2.2 0; have df1 := lies_frozen K.2.2 1))
      refine bodyPost_ret (v := .tuple #[.agg (P2 0 0), .int .i64 4]) (by simp [results, Try.results44, go_sem, d0, d1]) rfl ?_
      exact ⟨rfl, below_set2 K.1 (by omega)⟩
    · have HZ := Lib.hid (show (u == 0 && k == 0) = false by simp [hk])
      obtain ⟨_, hm, _, u1, u2, hu⟩ := pok_ring ok hk
      obtain ⟨hp2, hp97, _, _, m1, m2, _⟩ := ringM_bd hm
      have hv0 := ok.2.1
      have hv1 := ok.2.2.1
      have hs := ok.1
      have hdv := dvd_ringM hm
      obtain ⟨M, hM⟩ : ∃ M, ringM p k = M := ⟨_, rfl⟩
      have HM := Lib.hid hM
      rw [hM] at m1 m2 u2
      have hfo := fitO_iff (m := M) (u := u) (by omega)
      cases ho : fitO M u
      · have hq : findQ p v u k = (0, 0) := by simp [findQ, hx, hk, hM, ho]
        have hc : findC p v u k = 4 := by simp [findC, hx, hk, hM, ho]
        rw [hq, hc]
        have HO := Lib.hid ho
        clear hq hc hm hM hk hu hfo ok ho hdv hs
        go_enter Try.func44, Try.ntmps44
        go_upto_region 6 with (first | (go_at_call 80; refine (isValid_any _ _ _ _ _).mono ?_; rintro e wn ⟨rfl, hb⟩; (first | have K := k2_first hb | have K := k2_next K hb); obtain ⟨c0, c1, c2, c3⟩ := lies_four K.2.1; obtain ⟨d0, d1⟩ := lies_pair K.2.2; have df0 := lies_frozen K.2.2 0; have df1 := lies_frozen K.2.2 1) | (go_at_call 81; refine (isZero_any _ _ _ _ _).mono ?_; rw [HZ.out]; rintro e wn ⟨rfl, hb⟩; (first | have K := k2_first hb | have K := k2_next K hb); obtain ⟨c0, c1, c2, c3⟩ := lies_four K.2.1; obtain ⟨d0, d1⟩ := lies_pair K.2.2; have df0 := lies_frozen K.2.2 0; have df1 := lies_frozen K.2.2 1) | (go_at_call 82; refine (pring_any _ _ _ _ _).mono ?_; rintro e wn ⟨rfl, hb⟩; (first | have K := k2_first hb | have K := k2_next K hb); obtain ⟨c0, c1, c2, c3⟩ := lies_four K.2.1; obtain ⟨d0, d1⟩ := lies_pair K.2.2; have df0 := lies_frozen K.2.2 0; have df1 := lies_frozen K.2.2 1) | (go_at_call 61; refine (implModulus_any _ _ _).mono ?_; rw [HM.out]; rintro e wn ⟨rfl, hb⟩; (first | have K := k2_first hb | have K := k2_next K hb); obtain ⟨c0, c1, c2, c3⟩ := lies_four K.2.1; obtain ⟨d0, d1⟩ := lies_pair K.2.2; have df0 := lies_frozen K.2.2 0; have df1 := lies_frozen K.2.2 1) | (go_at_call 98; refine (fractionSearch_any _ _ (by omega) m2).mono ?_; rintro e wS ⟨rfl, hS⟩))
        have KS := k2_next K (below_a2 wn (.cells #[.int .i64 M] 2) (.cells #[.int .i64 (bndB M)] 2))
        have La := lies_alloc (lies_new wn #[.int .i64 M] 2) (.cells #[.int .i64 (bndB M)] 2)
        have Lb := lies_two (w := wn) (o := .cells #[.int .i64 M] 2) (vs := #[.int .i64 (bndB M)]) (T := 2)
        subst hS
        generalize (wn.alloc (.cells #[.int .i64 M] 2)).alloc (.cells #[.int .i64 (bndB M)] 2) = wS at KS La Lb ⊢
        clear c0 c1 c2 c3 d0 d1 df0 df1 K hb
        obtain ⟨q, hq⟩ : ∃ q, wn.heap.size = q := ⟨_, rfl⟩
        rw [hq] at La Lb ⊢
        clear hq
        obtain ⟨c0, c1, c2, c3⟩ := lies_four KS.2.1
        go_upto_region 7 with (go_at_call 131; refine (search_any u M q (q + 1) _ m1 m2 (by omega) u2 (lies_cell La 0) (lies_cell Lb 0) (lies_lt La) (lies_lt Lb)).mono ?_; rintro e wF ⟨a, b, x, rfl, hx, hb, hF⟩; rw [HO.out] at hx hF; subst hx)
        have K := k2_next (k2_next KS hb) (below_a1 wF (.cells (P2 a b) 49))
        clear c0 c1 c2 c3 KS La Lb hb
        clear hF
        generalize wF.alloc (.cells (P2 a b) 49) = V at K ⊢
        obtain ⟨d0, d1⟩ := lies_pair K.2.2
        have df0 := lies_frozen K.2.2 0
        have df1 := lies_frozen K.2.2 1
        go_wp2_with fail
        refine bodyPost_ret (v := .tuple #[.agg (P2 0 0), .int .i64 4]) (by simp [results, Try.results44, go_sem, d0, d1]) rfl ?_
        exact ⟨rfl, below_set2 K.1 (by omega)⟩
      · obtain ⟨hq, hc⟩ := findTail hx hk (hM ▸ ho)
        rw [hM] at hq hc
        rw [hq, hc]
        have hf := hfo.1 ho
        obtain ⟨fu1, fu2, fu3⟩ := fit_unit hs (hM ▸ hdv) hu hf
        have hbd := bnd_le (bnd_is (m := M) (by omega)) (by omega)
        have vn : valueB (fitN M u) = true := valueB_t (by have := hf.1; omega) (by have := hf.2.1; omega)
        have vd : valueB (fitD M u) = true := valueB_t (by have := hf.2.2.1; omega) (by have := hf.2.2.2.1; omega)
        have HO := Lib.hid ho
        have HVN := Lib.hid vn
        have HVD := Lib.hid vd
        clear hq hc hm hM hk hu hfo ok ho hdv hs hf fu1 fu2 fu3 hbd vn vd
        go_enter Try.func44, Try.ntmps44
        go_upto_region 6 with (first | (go_at_call 80; refine (isValid_any _ _ _ _ _).mono ?_; rintro e wn ⟨rfl, hb⟩; (first | have K := k2_first hb | have K := k2_next K hb); obtain ⟨c0, c1, c2, c3⟩ := lies_four K.2.1; obtain ⟨d0, d1⟩ := lies_pair K.2.2; have df0 := lies_frozen K.2.2 0; have df1 := lies_frozen K.2.2 1) | (go_at_call 81; refine (isZero_any _ _ _ _ _).mono ?_; rw [HZ.out]; rintro e wn ⟨rfl, hb⟩; (first | have K := k2_first hb | have K := k2_next K hb); obtain ⟨c0, c1, c2, c3⟩ := lies_four K.2.1; obtain ⟨d0, d1⟩ := lies_pair K.2.2; have df0 := lies_frozen K.2.2 0; have df1 := lies_frozen K.2.2 1) | (go_at_call 82; refine (pring_any _ _ _ _ _).mono ?_; rintro e wn ⟨rfl, hb⟩; (first | have K := k2_first hb | have K := k2_next K hb); obtain ⟨c0, c1, c2, c3⟩ := lies_four K.2.1; obtain ⟨d0, d1⟩ := lies_pair K.2.2; have df0 := lies_frozen K.2.2 0; have df1 := lies_frozen K.2.2 1) | (go_at_call 61; refine (implModulus_any _ _ _).mono ?_; rw [HM.out]; rintro e wn ⟨rfl, hb⟩; (first | have K := k2_first hb | have K := k2_next K hb); obtain ⟨c0, c1, c2, c3⟩ := lies_four K.2.1; obtain ⟨d0, d1⟩ := lies_pair K.2.2; have df0 := lies_frozen K.2.2 0; have df1 := lies_frozen K.2.2 1) | (go_at_call 98; refine (fractionSearch_any _ _ (by omega) m2).mono ?_; rintro e wS ⟨rfl, hS⟩))
        have KS := k2_next K (below_a2 wn (.cells #[.int .i64 M] 2) (.cells #[.int .i64 (bndB M)] 2))
        have La := lies_alloc (lies_new wn #[.int .i64 M] 2) (.cells #[.int .i64 (bndB M)] 2)
        have Lb := lies_two (w := wn) (o := .cells #[.int .i64 M] 2) (vs := #[.int .i64 (bndB M)]) (T := 2)
        subst hS
        generalize (wn.alloc (.cells #[.int .i64 M] 2)).alloc (.cells #[.int .i64 (bndB M)] 2) = wS at KS La Lb ⊢
        clear c0 c1 c2 c3 d0 d1 df0 df1 K hb
        obtain ⟨q, hq⟩ : ∃ q, wn.heap.size = q := ⟨_, rfl⟩
        rw [hq] at La Lb ⊢
        clear hq
        obtain ⟨c0, c1, c2, c3⟩ := lies_four KS.2.1
        go_upto_region 7 with (go_at_call 131; refine (search_any u M q (q + 1) _ m1 m2 (by omega) u2 (lies_cell La 0) (lies_cell Lb 0) (lies_lt La) (lies_lt Lb)).mono ?_; rintro e wF ⟨a, b, x, rfl, hx, hb, hF⟩; rw [HO.out] at hx hF; subst hx)
        have K := k2_next (k2_next KS hb) (below_a1 wF (.cells (P2 a b) 49))
        clear c0 c1 c2 c3 KS La Lb hb
        obtain ⟨rfl, rfl⟩ := hF (by simp)
        have L := lies_new wF (P2 (fitN M u) (fitD M u)) 49
        generalize wF.alloc (.cells (P2 (fitN M u) (fitD M u)) 49) = V at K L ⊢
        obtain ⟨q5, hq⟩ : ∃ q, wF.heap.size = q := ⟨_, rfl⟩
        rw [hq] at L ⊢
        clear hq
        obtain ⟨c0, c1, c2, c3⟩ := lies_four K.2.1
        obtain ⟨g0, g1⟩ := lies_pair L
        go_wp2_with (first | (go_at_call 99; refine (timesPower_any _ _ _ _ _ hp2 hp97 HVN.out HVD.out hv0 hv1).mono ?_; rintro e wn ⟨rfl, hb⟩; (first | have K := k2_first hb | have K := k2_next K hb); obtain ⟨d0, d1⟩ := lies_pair K.2.2; have df0 := lies_frozen K.2.2 0; have df1 := lies_frozen K.2.2 1) | (go_at_call 100; refine (ratResult_any _ _ _).mono ?_; rintro e wn ⟨rfl, hb⟩; (first | have K := k2_first hb | have K := k2_next K hb); obtain ⟨d0, d1⟩ := lies_pair K.2.2; have df0 := lies_frozen K.2.2 0; have df1 := lies_frozen K.2.2 1))
        refine bodyPost_ret (v := .tuple #[.agg (A2 (rresQ (mF v.toNat (fitN M u) p) (mF (-v).toNat (fitD M u) p))), .int .i64 (rlimC (mF v.toNat (fitN M u) p) (mF (-v).toNat (fitD M u) p))]) (by simp [results, Try.results44, go_sem, d0, d1]) rfl ?_
        exact ⟨rfl, below_set2 K.1 (by omega)⟩
end Go.Proofs.Ytgckamlibbjgcaa
