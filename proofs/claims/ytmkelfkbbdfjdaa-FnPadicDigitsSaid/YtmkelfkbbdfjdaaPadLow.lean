/- Contracts of the walk: the small functions of chapter 3 (powers of the prime, zeros, rings, ends, and whether a number is valid) in impl and in spec. -/
import Derived.Test.YtmkelfkbbdfjdaaPadMath
import Derived.Test.YtmkelfkbbdfjdaaResid
import Derived.Deep.RegionHeld3
import Derived.BigQuiet
namespace Go.Proofs.Ytmkelfkbbdfjdaa
open Go.RowKit
set_option linter.unusedVariables false
set_option linter.unusedSimpArgs false
/-- a number laid in a block -/
abbrev At4 (w : World) (b : Nat) (p v u n : Int) : Prop :=
  w.cell? ⟨b, 0, none⟩ = some (.int .i64 p) ∧ w.cell? ⟨b, 1, none⟩ = some (.int .i64 v) ∧ w.cell? ⟨b, 2, none⟩ = some (.int .i64 u) ∧ w.cell? ⟨b, 3, none⟩ = some (.int .i64 n)
theorem at4_new (w : World) (p v u n : Int) (T : TypeId) : At4 (w.alloc (.cells #[.int .i64 p, .int .i64 v, .int .i64 u, .int .i64 n] T)) w.heap.size p v u n :=
  ⟨World.cell?_alloc_new _ _ _ _ ▸ rfl, World.cell?_alloc_new _ _ _ _ ▸ rfl, World.cell?_alloc_new _ _ _ _ ▸ rfl, World.cell?_alloc_new _ _ _ _ ▸ rfl⟩
theorem at4_below {w1 w2 : World} {b B : Nat} {p v u n : Int} (h : At4 w1 b p v u n) (hb : Below B w1 w2) (hB : b < B) : At4 w2 b p v u n := by
  obtain ⟨h0, h1, h2, h3⟩ := h
  exact ⟨by rw [hb.cell (p := ⟨b, 0, none⟩) hB]; exact h0, by rw [hb.cell (p := ⟨b, 1, none⟩) hB]; exact h1, by rw [hb.cell (p := ⟨b, 2, none⟩) hB]; exact h2, by rw [hb.cell (p := ⟨b, 3, none⟩) hB]; exact h3⟩
theorem at4_lt {w : World} {b : Nat} {p v u n : Int} (h : At4 w b p v u n) : b < w.heap.size := World.block_lt_of_cell? _ _ h.1
/-- what is old, and one number laid in a block -/
abbrev H4 (w : World) (b : Nat) (p v u n : Int) (w1 : World) : Prop := Below w.heap.size w w1 ∧ At4 w1 b p v u n
theorem h4_next {w w1 w2 : World} {b : Nat} {p v u n : Int} (h : H4 w b p v u n w1) (hb : Below w1.heap.size w1 w2) : H4 w b p v u n w2 :=
  ⟨h.1.trans (hb.mono h.1.size), at4_below h.2 hb (at4_lt h.2)⟩
theorem h4_alloc {w w1 : World} {b : Nat} {p v u n : Int} (h : H4 w b p v u n w1) (ob : Obj) : H4 w b p v u n (w1.alloc ob) :=
  h4_next h ((Below.refl _ _).alloc (Nat.le_refl _) _)
theorem h4_drewN {w w1 : World} {b : Nat} {p v u n : Int} (h : H4 w b p v u n w1) (k : Nat) : H4 w b p v u n (w1.drewN k) := ⟨below_drewN h.1 k, h.2⟩
theorem h4_new (w : World) (p v u n : Int) (T : TypeId) : H4 w w.heap.size p v u n (w.alloc (.cells #[.int .i64 p, .int .i64 v, .int .i64 u, .int .i64 n] T)) :=
  ⟨(Below.refl _ _).alloc (Nat.le_refl _) _, at4_new w p v u n T⟩
set_option maxHeartbeats 400000 in
theorem l02Pow_any (p n : Int) (w : World) (hp2 : 2 ≤ p) (hp97 : p ≤ 97) (he : 0 ≤ n) (hle : pw p n ≤ 1000000000) :
    Calls Try.prog 40 #[.int .i64 p, .int .i64 n] w fun e w' => e = .returned (.int .i64 (pw p n)) ∧ w = w' := by
  have HL := Lib.hid (And.intro he hle)
  have he29 := pw_29 hp2 hle
  clear he hle
  go_enter Try.func40, Try.ntmps40
  go_wp2
  go_loop [1, 5] (fun i m => ∃ I : Int, m = .int .i64 (pw p I) ∧ i = .int .i64 (n - I) ∧ 0 ≤ I ∧ I ≤ n) (fun i _ => (intOf i).toNat)
  case atStart => exact ⟨0, by rw [pw_zero], by simp, by omega, HL.out.1⟩
  case round =>
    obtain ⟨I, rfl, rfl, h2, h3⟩ := hrel
    have hpart := pw_part (p := p) hp2 HL.out.2 h3
    by_cases hlt : I < n
    · have hn := pw_part (p := p) (e := I + 1) hp2 HL.out.2 (by omega)
      have hs := pw_add (p := p) (a := I) (b := 1) h2 (by omega)
      rw [pw_one] at hs
      obtain ⟨x, hx⟩ : ∃ x, pw p I = x := ⟨_, rfl⟩
      obtain ⟨y, hy⟩ : ∃ y, pw p (I + 1) = y := ⟨_, rfl⟩
      have HY := Lib.hid hy
      rw [hx, hy] at hs
      rw [hx] at hpart
      rw [hy] at hn
      rw [hx]
      have hb1 : 0 ≤ x * p := by omega
      have hb2 : x * p ≤ 1000000000 := by omega
      have HS := Lib.hid hs
      clear hx hy hs hn
      go_wp2
      exact ⟨⟨I + 1, by rw [HY.out, HS.out], by congr 1; omega, by omega, by omega⟩, by simp only [intOf]; omega⟩
    · obtain rfl : I = n := by omega
      obtain ⟨x, hx⟩ : ∃ x, pw p I = x := ⟨_, rfl⟩
      rw [hx]
      have HX := Lib.hid hx
      clear hx
      go_wp2
      go_ret
      exact ⟨ret_int HX.out.symm, rfl⟩
theorem zeroAt_any (p v : Int) (w : World) :
    Calls Try.prog 58 #[.int .i64 p, .int .i64 v] w fun e w' => e = .returned (.agg #[.int .i64 p, .int .i64 v, .int .i64 0, .int .i64 0]) ∧ Below w.heap.size w w' := by
  go_enter Try.func58, Try.ntmps58
  go_wp2
  refine bodyPost_ret (v := .agg #[.int .i64 p, .int .i64 v, .int .i64 0, .int .i64 0]) (by simp [results, Try.results58, go_sem]) rfl ?_
  exact ⟨rfl, (Below.refl _ _).alloc (Nat.le_refl _) _⟩
theorem pring_any (p v u n : Int) (w : World) :
    Calls Try.prog 51 #[.agg #[.int .i64 p, .int .i64 v, .int .i64 u, .int .i64 n]] w fun e w' => e = .returned (.agg #[.int .i64 p, .int .i64 n]) ∧ Below w.heap.size w w' := by
  go_enter Try.func51, Try.ntmps51
  go_wp2
  refine bodyPost_ret (v := .agg #[.int .i64 p, .int .i64 n]) (by simp [results, Try.results51, go_sem]) rfl ?_
  exact ⟨rfl, ((Below.refl _ _).alloc (Nat.le_refl _) _).alloc (by simp) _⟩
theorem isZero_any (p v u n : Int) (w : World) :
    Calls Try.prog 50 #[.agg #[.int .i64 p, .int .i64 v, .int .i64 u, .int .i64 n]] w fun e w' => e = .returned (.bool (u == 0 && n == 0)) ∧ Below w.heap.size w w' := by
  by_cases hu : u = 0
  · subst hu
    by_cases hn : n = 0
    · subst hn
      go_enter Try.func50, Try.ntmps50
      go_wp2_with fail
      go_region_held3 (fun w' => Below w.heap.size w w' ∧ w'.cell? ⟨w.heap.size, 0, none⟩ = some (.int .i64 p) ∧ w'.cell? ⟨w.heap.size, 1, none⟩ = some (.int .i64 v) ∧ w'.cell? ⟨w.heap.size, 2, none⟩ = some (.int .i64 0) ∧ w'.cell? ⟨w.heap.size, 3, none⟩ = some (.int .i64 0))
        (first | with_reducible assumption | exact h4_drewN (h4_new w p v 0 0 _) 1 | exact h4_next ‹_› hb)
        (first | (go_at_call 58; refine (zeroAt_any _ _ _).mono ?_; rintro e w1 ⟨rfl, hb⟩))
      all_goals go_wp2_with fail
      all_goals go_ret
      all_goals exact ⟨rfl, (‹Below w.heap.size w _ ∧ _›).1⟩
    · have hn' : (n == 0) = false := by simpa using hn
      clear hn
      go_enter Try.func50, Try.ntmps50
      go_wp2_with fail
      go_region_held3 (fun w' => Below w.heap.size w w' ∧ w'.cell? ⟨w.heap.size, 0, none⟩ = some (.int .i64 p) ∧ w'.cell? ⟨w.heap.size, 1, none⟩ = some (.int .i64 v) ∧ w'.cell? ⟨w.heap.size, 2, none⟩ = some (.int .i64 0) ∧ w'.cell? ⟨w.heap.size, 3, none⟩ = some (.int .i64 n))
        (first | with_reducible assumption | exact h4_drewN (h4_new w p v 0 n _) 1 | exact h4_next ‹_› hb)
        (first | (go_at_call 58; refine (zeroAt_any _ _ _).mono ?_; rintro e w1 ⟨rfl, hb⟩))
      all_goals go_wp2_with fail
      all_goals go_ret
      all_goals exact ⟨ret_bool (by simp [hn']), (‹Below w.heap.size w _ ∧ _›).1⟩
  · have hu' : (u == 0) = false := by simpa using hu
    clear hu
    go_enter Try.func50, Try.ntmps50
    go_wp2_with fail
    go_region_held3 (fun w' => Below w.heap.size w w' ∧ w'.cell? ⟨w.heap.size, 0, none⟩ = some (.int .i64 p) ∧ w'.cell? ⟨w.heap.size, 1, none⟩ = some (.int .i64 v) ∧ w'.cell? ⟨w.heap.size, 2, none⟩ = some (.int .i64 u) ∧ w'.cell? ⟨w.heap.size, 3, none⟩ = some (.int .i64 n))
      (first | with_reducible assumption | exact h4_drewN (h4_new w p v u n _) 1 | exact h4_next ‹_› hb)
      (first | (go_at_call 58; refine (zeroAt_any _ _ _).mono ?_; rintro e w1 ⟨rfl, hb⟩))
    all_goals go_wp2_with fail
    all_goals go_ret
    all_goals exact ⟨ret_bool (by simp [hu']), (‹Below w.heap.size w _ ∧ _›).1⟩
theorem padB_rest {p v u n : Int} (hs : smallB p = true) (hv : inB v (-60) 60 = true) (hz : ¬ (u = 0 ∧ n = 0)) : padB p v u n = ((resC p n u == 0) && !(u % p == 0)) := by
  unfold padB
  rw [hs, hv, Bool.true_and, Bool.true_and]
  by_cases hn : n = 0
  · have hu : u ≠ 0 := fun h => hz ⟨h, hn⟩
    rw [if_pos hn, show resC p n u = 1 by simp [resC, ringM_low (p := p) (n := n) (by omega)]]
    simp [hu]
  · rw [if_neg hn]
    unfold unitB resC
    by_cases h0 : ringM p n = 0
    · simp [h0]
    · have hm := ringM_bd h0
      rw [if_neg h0, decide_eq_true h0, Bool.true_and]
      by_cases hu : 0 ≤ u ∧ u < ringM p n
      · rw [if_pos hu]
        by_cases hu0 : u = 0
        · subst hu0; simp
        · rw [inB_t (by omega) (by omega)]; rfl
      · rw [if_neg hu, inB_f (by omega)]; rfl
theorem cell_last (w : World) (v : Value) (T : TypeId) : (w.alloc (.cells #[v] T)).cell? ⟨w.heap.size, 0, none⟩ = some v := by rw [World.cell?_alloc_new]; rfl
theorem size_last (w : World) (o : Obj) : w.heap.size < (w.alloc o).heap.size := by simp
/-- a guarded operation that is not wanted -/
theorem skip_arm {c : Bool} {A B : Prop} (h : c = false) (hB : B) : if c = true then A else B := by rw [h, if_neg (by decide)]; exact hB
theorem isPlace_any (n : Int) (w : World) :
    Calls Try.prog 34 #[.int .i64 n] w fun e w' => e = .returned (.bool (inB n (-60) 60)) ∧ w = w' := by
  by_cases hlo : n < -60
  · have HE := Lib.hid (inB_f (n := n) (lo := -60) (hi := 60) (Or.inl hlo))
    go_enter Try.func34, Try.ntmps34
    go_wp2
    go_ret
    exact ⟨ret_bool HE.out.symm, rfl⟩
  · have HE := Lib.hid (show decide (n ≤ 60) = inB n (-60) 60 by unfold inB; rw [decide_eq_true (show -60 ≤ n by omega)]; rfl)
    go_enter Try.func34, Try.ntmps34
    go_wp2
    go_ret
    exact ⟨ret_bool HE.out, rfl⟩
theorem cell_after {w w2 : World} {v : Value} {T : TypeId} (hb : Below (w.alloc (.cells #[v] T)).heap.size (w.alloc (.cells #[v] T)) w2) : w2.cell? ⟨w.heap.size, 0, none⟩ = some v := by
  rw [hb.cell (by simp)]; exact cell_last w v T
theorem size_after {w w2 : World} {o : Obj} (hb : Below (w.alloc o).heap.size (w.alloc o) w2) : w.heap.size < w2.heap.size := Nat.lt_of_lt_of_le (size_last w o) hb.size
section
variable {P : Program} {ops : Array Oper} {Q : Exit → Act → World → Prop} {md : Region.Mode} {S : World → Prop}
theorem take_at {i d : Nat} {oi : Oper} {v : Value} {fuel : Nat} {listed : Array Bool} {a : Act} {w : World} (hi : ops[i]? = some oi) (hd : oi.dst = some d)
    (hs : Region.noSelect ops = true) (hf : Region.free md ops listed i = true) (hr : (Region.ready md ops listed).contains i = true)
    (hQ : ∀ c a w, Q (.panic c) (a.put oi.dst v) w → Q (.panic c) a w) (hy : YieldsIf P ops S oi v a) (hS : S w)
    (h : wpAnyH P md ops Q S fuel (listed.setIfInBounds i true) (a.put (some d) v) w) : wpAnyH P md ops Q S (fuel + 1) listed a w :=
  wpAnyH_take hi hs hf hr hQ hy hS (by rw [hd]; exact h)
end
set_option maxHeartbeats 1000000 in
theorem isValid_zero (p v u n : Int) (w : World) (hs : smallB p = true) (hv : inB v (-60) 60 = true) (HE : Hid (padB p v u n = true)) (HZ : Hid ((u == 0 && n == 0) = true)) :
    Calls Try.prog 26 #[.agg #[.int .i64 p, .int .i64 v, .int .i64 u, .int .i64 n]] w fun e w' => e = .returned (.bool (padB p v u n)) ∧ Below w.heap.size w w' := by
  go_enter Try.func26, Try.ntmps26
  go_wp2_with (first | (go_at_call 33; refine (basePrime_any _ _).mono ?_; rintro e w' ⟨rfl, rfl⟩) | (go_at_call 34; refine (isPlace_any _ _).mono ?_; rw [hv]; rintro e w' ⟨rfl, rfl⟩))
  refine wp_region_held_drew (S := H4 w w.heap.size p v u n) (by kernel_rfl) (h4_drewN (h4_new w p v u n _) 1) (fun hHeld => ?_)
  refine take_at (i := 0) (d := 13) (v := .agg #[.int .i64 p, .int .i64 v, .int .i64 u, .int .i64 n]) rfl rfl (by kernel_rfl) (by kernel_rfl) (by kernel_rfl) (fun _ _ _ h => h) (Or.inl ⟨by rfl, ?_⟩) hHeld ?_
  · intro w' hS
    obtain ⟨_, k0, k1, k2, k3⟩ := hS
    go_simp
  try simp only [Act.put, List.setIfInBounds_toArray, List.set_cons_zero, List.set_cons_succ]
  refine wpAnyH_ready (rs := [1]) (by kernel_rfl) (by simp) ?_
  refine AllReadyH.cons rfl (fun K hK => ?_) AllReadyH.nil
  go_simp
  go_at_call 50; refine (isZero_any _ _ _ _ _).mono ?_; rw [HZ.out]; rintro e w1 ⟨rfl, hb⟩
  go_simp
  refine hK.out _ _ (h4_next hHeld hb) (fun hHeld => ?_)
  clear hK K
  try simp only [Act.put, List.setIfInBounds_toArray, List.set_cons_zero, List.set_cons_succ]
  refine take_at (i := 2) (d := 15) (v := .bool true) rfl rfl (by kernel_rfl) (by kernel_rfl) (by kernel_rfl) (fun _ _ _ h => h) (Or.inl ⟨by rfl, ?_⟩) hHeld ?_
  · intro w' hS; go_simp
  try simp only [Act.put, List.setIfInBounds_toArray, List.set_cons_zero, List.set_cons_succ]
  refine take_at (i := 3) (d := 16) (v := undef) rfl rfl (by kernel_rfl) (by kernel_rfl) (by kernel_rfl) (fun _ _ _ h => h) (Or.inr ⟨by kernel_rfl, rfl⟩) hHeld ?_
  try simp only [Act.put, List.setIfInBounds_toArray, List.set_cons_zero, List.set_cons_succ]
  refine take_at (i := 4) (d := 17) (v := undef) rfl rfl (by kernel_rfl) (by kernel_rfl) (by kernel_rfl) (fun _ _ _ h => h) (Or.inr ⟨by kernel_rfl, rfl⟩) hHeld ?_
  try simp only [Act.put, List.setIfInBounds_toArray, List.set_cons_zero, List.set_cons_succ]
  refine take_at (i := 5) (d := 18) (v := undef) rfl rfl (by kernel_rfl) (by kernel_rfl) (by kernel_rfl) (fun _ _ _ h => h) (Or.inr ⟨by kernel_rfl, rfl⟩) hHeld ?_
  try simp only [Act.put, List.setIfInBounds_toArray, List.set_cons_zero, List.set_cons_succ]
  refine take_at (i := 6) (d := 19) (v := undef) rfl rfl (by kernel_rfl) (by kernel_rfl) (by kernel_rfl) (fun _ _ _ h => h) (Or.inr ⟨by kernel_rfl, rfl⟩) hHeld ?_
  try simp only [Act.put, List.setIfInBounds_toArray, List.set_cons_zero, List.set_cons_succ]
  refine take_at (i := 7) (d := 20) (v := undef) rfl rfl (by kernel_rfl) (by kernel_rfl) (by kernel_rfl) (fun _ _ _ h => h) (Or.inr ⟨by kernel_rfl, rfl⟩) hHeld ?_
  try simp only [Act.put, List.setIfInBounds_toArray, List.set_cons_zero, List.set_cons_succ]
  refine take_at (i := 8) (d := 21) (v := undef) rfl rfl (by kernel_rfl) (by kernel_rfl) (by kernel_rfl) (fun _ _ _ h => h) (Or.inr ⟨by kernel_rfl, rfl⟩) hHeld ?_
  try simp only [Act.put, List.setIfInBounds_toArray, List.set_cons_zero, List.set_cons_succ]
  refine take_at (i := 9) (d := 22) (v := undef) rfl rfl (by kernel_rfl) (by kernel_rfl) (by kernel_rfl) (fun _ _ _ h => h) (Or.inr ⟨by kernel_rfl, rfl⟩) hHeld ?_
  try simp only [Act.put, List.setIfInBounds_toArray, List.set_cons_zero, List.set_cons_succ]
  refine take_at (i := 10) (d := 23) (v := undef) rfl rfl (by kernel_rfl) (by kernel_rfl) (by kernel_rfl) (fun _ _ _ h => h) (Or.inr ⟨by kernel_rfl, rfl⟩) hHeld ?_
  try simp only [Act.put, List.setIfInBounds_toArray, List.set_cons_zero, List.set_cons_succ]
  refine take_at (i := 11) (d := 24) (v := undef) rfl rfl (by kernel_rfl) (by kernel_rfl) (by kernel_rfl) (fun _ _ _ h => h) (Or.inr ⟨by kernel_rfl, rfl⟩) hHeld ?_
  try simp only [Act.put, List.setIfInBounds_toArray, List.set_cons_zero, List.set_cons_succ]
  refine take_at (i := 12) (d := 25) (v := undef) rfl rfl (by kernel_rfl) (by kernel_rfl) (by kernel_rfl) (fun _ _ _ h => h) (Or.inr ⟨by kernel_rfl, rfl⟩) hHeld ?_
  try simp only [Act.put, List.setIfInBounds_toArray, List.set_cons_zero, List.set_cons_succ]
  refine take_at (i := 13) (d := 26) (v := undef) rfl rfl (by kernel_rfl) (by kernel_rfl) (by kernel_rfl) (fun _ _ _ h => h) (Or.inr ⟨by kernel_rfl, rfl⟩) hHeld ?_
  try simp only [Act.put, List.setIfInBounds_toArray, List.set_cons_zero, List.set_cons_succ]
  refine take_at (i := 14) (d := 27) (v := undef) rfl rfl (by kernel_rfl) (by kernel_rfl) (by kernel_rfl) (fun _ _ _ h => h) (Or.inr ⟨by kernel_rfl, rfl⟩) hHeld ?_
  try simp only [Act.put, List.setIfInBounds_toArray, List.set_cons_zero, List.set_cons_succ]
  refine take_at (i := 15) (d := 28) (v := undef) rfl rfl (by kernel_rfl) (by kernel_rfl) (by kernel_rfl) (fun _ _ _ h => h) (Or.inr ⟨by kernel_rfl, rfl⟩) hHeld ?_
  try simp only [Act.put, List.setIfInBounds_toArray, List.set_cons_zero, List.set_cons_succ]
  refine take_at (i := 16) (d := 29) (v := undef) rfl rfl (by kernel_rfl) (by kernel_rfl) (by kernel_rfl) (fun _ _ _ h => h) (Or.inr ⟨by kernel_rfl, rfl⟩) hHeld ?_
  try simp only [Act.put, List.setIfInBounds_toArray, List.set_cons_zero, List.set_cons_succ]
  refine take_at (i := 17) (d := 30) (v := .bool true) rfl rfl (by kernel_rfl) (by kernel_rfl) (by kernel_rfl) (fun _ _ _ h => h) (Or.inl ⟨by rfl, ?_⟩) hHeld ?_
  · intro w' hS; go_simp
  try simp only [Act.put, List.setIfInBounds_toArray, List.set_cons_zero, List.set_cons_succ]
  refine take_at (i := 18) (d := 2) (v := .bool true) rfl rfl (by kernel_rfl) (by kernel_rfl) (by kernel_rfl) (fun _ _ _ h => h) (Or.inl ⟨by rfl, ?_⟩) hHeld ?_
  · intro w' hS; go_simp
  try simp only [Act.put, List.setIfInBounds_toArray, List.set_cons_zero, List.set_cons_succ]
  refine wpAnyH_done (by kernel_rfl) ?_ _
  go_wp2
  go_ret
  exact ⟨ret_bool HE.out.symm, hHeld.1⟩
set_option maxHeartbeats 1000000 in
theorem isValid_non (p v u n : Int) (w : World) (hs : smallB p = true) (hv : inB v (-60) 60 = true) (HZ : Hid ((u == 0 && n == 0) = false)) (hr : (resC p n u == 0) = false) (HE : Hid (padB p v u n = false)) :
    Calls Try.prog 26 #[.agg #[.int .i64 p, .int .i64 v, .int .i64 u, .int .i64 n]] w fun e w' => e = .returned (.bool (padB p v u n)) ∧ Below w.heap.size w w' := by
  go_enter Try.func26, Try.ntmps26
  go_wp2_with (first | (go_at_call 33; refine (basePrime_any _ _).mono ?_; rintro e w' ⟨rfl, rfl⟩) | (go_at_call 34; refine (isPlace_any _ _).mono ?_; rw [hv]; rintro e w' ⟨rfl, rfl⟩))
  refine wp_region_held_drew (S := H4 w w.heap.size p v u n) (by kernel_rfl) (h4_drewN (h4_new w p v u n _) 1) (fun hHeld => ?_)
  refine take_at (i := 0) (d := 13) (v := .agg #[.int .i64 p, .int .i64 v, .int .i64 u, .int .i64 n]) rfl rfl (by kernel_rfl) (by kernel_rfl) (by kernel_rfl) (fun _ _ _ h => h) (Or.inl ⟨by rfl, ?_⟩) hHeld ?_
  · intro w' hS
    obtain ⟨_, k0, k1, k2, k3⟩ := hS
    go_simp
  try simp only [Act.put, List.setIfInBounds_toArray, List.set_cons_zero, List.set_cons_succ]
  refine wpAnyH_ready (rs := [1]) (by kernel_rfl) (by simp) ?_
  refine AllReadyH.cons rfl (fun K hK => ?_) AllReadyH.nil
  go_simp
  go_at_call 50; refine (isZero_any _ _ _ _ _).mono ?_; rw [HZ.out]; rintro e w1 ⟨rfl, hb⟩
  go_simp
  refine hK.out _ _ (h4_next hHeld hb) (fun hHeld => ?_)
  clear hK K
  try simp only [Act.put, List.setIfInBounds_toArray, List.set_cons_zero, List.set_cons_succ]
  refine take_at (i := 2) (d := 15) (v := .bool false) rfl rfl (by kernel_rfl) (by kernel_rfl) (by kernel_rfl) (fun _ _ _ h => h) (Or.inl ⟨by rfl, ?_⟩) hHeld ?_
  · intro w' hS; go_simp
  try simp only [Act.put, List.setIfInBounds_toArray, List.set_cons_zero, List.set_cons_succ]
  refine take_at (i := 3) (d := 16) (v := .agg #[.int .i64 p, .int .i64 v, .int .i64 u, .int .i64 n]) rfl rfl (by kernel_rfl) (by kernel_rfl) (by kernel_rfl) (fun _ _ _ h => h) (Or.inl ⟨by rfl, ?_⟩) hHeld ?_
  · intro w' hS
    obtain ⟨_, k0, k1, k2, k3⟩ := hS
    go_simp
  try simp only [Act.put, List.setIfInBounds_toArray, List.set_cons_zero, List.set_cons_succ]
  refine take_at (i := 5) (d := 18) (v := .pointer (some ⟨w.heap.size, 2, none⟩)) rfl rfl (by kernel_rfl) (by kernel_rfl) (by kernel_rfl) (fun _ _ _ h => h) (Or.inl ⟨by rfl, ?_⟩) hHeld ?_
  · intro w' hS; go_simp
  try simp only [Act.put, List.setIfInBounds_toArray, List.set_cons_zero, List.set_cons_succ]
  refine take_at (i := 6) (d := 19) (v := .int .i64 u) rfl rfl (by kernel_rfl) (by kernel_rfl) (by kernel_rfl) (fun _ _ _ h => h) (Or.inl ⟨by rfl, ?_⟩) hHeld ?_
  · intro w' hS
    obtain ⟨_, k0, k1, k2, k3⟩ := hS
    go_simp
  try simp only [Act.put, List.setIfInBounds_toArray, List.set_cons_zero, List.set_cons_succ]
  refine wpAnyH_ready (rs := [4, 7]) (by kernel_rfl) (by simp) ?_
  refine AllReadyH.cons rfl (fun K hK => ?_) (AllReadyH.cons rfl (fun K hK => ?_) AllReadyH.nil)
  · skip
    go_simp
    go_at_call 51; refine (pring_any _ _ _ _ _).mono ?_; rintro e w2 ⟨rfl, hb⟩
    go_simp
    refine hK.out _ _ (h4_next hHeld hb) (fun hHeld => ?_)
    clear hK K
    try simp only [Act.put, List.setIfInBounds_toArray, List.set_cons_zero, List.set_cons_succ]
    refine wpAnyH_ready (rs := [7]) (by kernel_rfl) (by simp) ?_
    refine AllReadyH.cons rfl (fun K hK => ?_) AllReadyH.nil
    go_simp
    refine hK.out _ _ (h4_alloc hHeld _) (fun hHeld => ?_)
    clear hK K
    try simp only [Act.put, List.setIfInBounds_toArray, List.set_cons_zero, List.set_cons_succ]
    refine wpAnyH_ready (rs := [8]) (by kernel_rfl) (by simp) ?_
    refine AllReadyH.cons rfl (fun K hK => ?_) AllReadyH.nil
    go_simp
    go_at_call 52; refine (checkOne_any _ _ u _ _ (cell_last _ _ _) (size_last _ _)).mono ?_; rintro e' w3 ⟨rfl, hb⟩
    go_simp
    refine hK.out _ _ (h4_next hHeld hb) (fun hHeld => ?_)
    clear hK K
    try simp only [Act.put, List.setIfInBounds_toArray, List.set_cons_zero, List.set_cons_succ]
    refine take_at (i := 9) (d := 22) (v := .bool false) rfl rfl (by kernel_rfl) (by kernel_rfl) (by kernel_rfl) (fun _ _ _ h => h) (Or.inl ⟨by rfl, ?_⟩) hHeld ?_
    · intro w' hS; go_simp
    try simp only [Act.put, List.setIfInBounds_toArray, List.set_cons_zero, List.set_cons_succ]
    refine take_at (i := 10) (d := 23) (v := .bool false) rfl rfl (by kernel_rfl) (by kernel_rfl) (by kernel_rfl) (fun _ _ _ h => h) (Or.inl ⟨by rfl, ?_⟩) hHeld ?_
    · intro w' hS; go_simp
    try simp only [Act.put, List.setIfInBounds_toArray, List.set_cons_zero, List.set_cons_succ]
    refine take_at (i := 11) (d := 24) (v := undef) rfl rfl (by kernel_rfl) (by kernel_rfl) (by kernel_rfl) (fun _ _ _ h => h) (Or.inr ⟨by kernel_rfl, rfl⟩) hHeld ?_
    try simp only [Act.put, List.setIfInBounds_toArray, List.set_cons_zero, List.set_cons_succ]
    refine take_at (i := 12) (d := 25) (v := undef) rfl rfl (by kernel_rfl) (by kernel_rfl) (by kernel_rfl) (fun _ _ _ h => h) (Or.inr ⟨by kernel_rfl, rfl⟩) hHeld ?_
    try simp only [Act.put, List.setIfInBounds_toArray, List.set_cons_zero, List.set_cons_succ]
    refine take_at (i := 13) (d := 26) (v := undef) rfl rfl (by kernel_rfl) (by kernel_rfl) (by kernel_rfl) (fun _ _ _ h => h) (Or.inr ⟨by kernel_rfl, rfl⟩) hHeld ?_
    try simp only [Act.put, List.setIfInBounds_toArray, List.set_cons_zero, List.set_cons_succ]
    refine take_at (i := 14) (d := 27) (v := undef) rfl rfl (by kernel_rfl) (by kernel_rfl) (by kernel_rfl) (fun _ _ _ h => h) (Or.inr ⟨by kernel_rfl, rfl⟩) hHeld ?_
    try simp only [Act.put, List.setIfInBounds_toArray, List.set_cons_zero, List.set_cons_succ]
    refine take_at (i := 15) (d := 28) (v := undef) rfl rfl (by kernel_rfl) (by kernel_rfl) (by kernel_rfl) (fun _ _ _ h => h) (Or.inr ⟨by kernel_rfl, rfl⟩) hHeld ?_
    try simp only [Act.put, List.setIfInBounds_toArray, List.set_cons_zero, List.set_cons_succ]
    refine take_at (i := 16) (d := 29) (v := .bool false) rfl rfl (by kernel_rfl) (by kernel_rfl) (by kernel_rfl) (fun _ _ _ h => h) (Or.inl ⟨by rfl, ?_⟩) hHeld ?_
    · intro w' hS; go_simp
    try simp only [Act.put, List.setIfInBounds_toArray, List.set_cons_zero, List.set_cons_succ]
    refine take_at (i := 17) (d := 30) (v := .bool false) rfl rfl (by kernel_rfl) (by kernel_rfl) (by kernel_rfl) (fun _ _ _ h => h) (Or.inl ⟨by rfl, ?_⟩) hHeld ?_
    · intro w' hS; go_simp
    try simp only [Act.put, List.setIfInBounds_toArray, List.set_cons_zero, List.set_cons_succ]
    refine take_at (i := 18) (d := 2) (v := .bool false) rfl rfl (by kernel_rfl) (by kernel_rfl) (by kernel_rfl) (fun _ _ _ h => h) (Or.inl ⟨by rfl, ?_⟩) hHeld ?_
    · intro w' hS; go_simp
    try simp only [Act.put, List.setIfInBounds_toArray, List.set_cons_zero, List.set_cons_succ]
    refine wpAnyH_done (by kernel_rfl) ?_ _
    go_wp2
    go_ret
    exact ⟨ret_bool HE.out.symm, hHeld.1⟩
  · skip
    go_simp
    refine hK.out _ _ (h4_alloc hHeld _) (fun hHeld => ?_)
    clear hK K
    try simp only [Act.put, List.setIfInBounds_toArray, List.set_cons_zero, List.set_cons_succ]
    refine wpAnyH_ready (rs := [4]) (by kernel_rfl) (by simp) ?_
    refine AllReadyH.cons rfl (fun K hK => ?_) AllReadyH.nil
    go_simp
    go_at_call 51; refine (pring_any _ _ _ _ _).mono ?_; rintro e w2 ⟨rfl, hb⟩
    go_simp
    refine hK.out _ _ (h4_next hHeld hb) (fun hHeld => ?_)
    clear hK K
    try simp only [Act.put, List.setIfInBounds_toArray, List.set_cons_zero, List.set_cons_succ]
    refine wpAnyH_ready (rs := [8]) (by kernel_rfl) (by simp) ?_
    refine AllReadyH.cons rfl (fun K hK => ?_) AllReadyH.nil
    go_simp
    go_at_call 52; refine (checkOne_any _ _ u _ _ (cell_after hb) (size_after hb)).mono ?_; rintro e' w3 ⟨rfl, hb⟩
    go_simp
    refine hK.out _ _ (h4_next hHeld hb) (fun hHeld => ?_)
    clear hK K
    try simp only [Act.put, List.setIfInBounds_toArray, List.set_cons_zero, List.set_cons_succ]
    refine take_at (i := 9) (d := 22) (v := .bool false) rfl rfl (by kernel_rfl) (by kernel_rfl) (by kernel_rfl) (fun _ _ _ h => h) (Or.inl ⟨by rfl, ?_⟩) hHeld ?_
    · intro w' hS; go_simp
    try simp only [Act.put, List.setIfInBounds_toArray, List.set_cons_zero, List.set_cons_succ]
    refine take_at (i := 10) (d := 23) (v := .bool false) rfl rfl (by kernel_rfl) (by kernel_rfl) (by kernel_rfl) (fun _ _ _ h => h) (Or.inl ⟨by rfl, ?_⟩) hHeld ?_
    · intro w' hS; go_simp
    try simp only [Act.put, List.setIfInBounds_toArray, List.set_cons_zero, List.set_cons_succ]
    refine take_at (i := 11) (d := 24) (v := undef) rfl rfl (by kernel_rfl) (by kernel_rfl) (by kernel_rfl) (fun _ _ _ h => h) (Or.inr ⟨by kernel_rfl, rfl⟩) hHeld ?_
    try simp only [Act.put, List.setIfInBounds_toArray, List.set_cons_zero, List.set_cons_succ]
    refine take_at (i := 12) (d := 25) (v := undef) rfl rfl (by kernel_rfl) (by kernel_rfl) (by kernel_rfl) (fun _ _ _ h => h) (Or.inr ⟨by kernel_rfl, rfl⟩) hHeld ?_
    try simp only [Act.put, List.setIfInBounds_toArray, List.set_cons_zero, List.set_cons_succ]
    refine take_at (i := 13) (d := 26) (v := undef) rfl rfl (by kernel_rfl) (by kernel_rfl) (by kernel_rfl) (fun _ _ _ h => h) (Or.inr ⟨by kernel_rfl, rfl⟩) hHeld ?_
    try simp only [Act.put, List.setIfInBounds_toArray, List.set_cons_zero, List.set_cons_succ]
    refine take_at (i := 14) (d := 27) (v := undef) rfl rfl (by kernel_rfl) (by kernel_rfl) (by kernel_rfl) (fun _ _ _ h => h) (Or.inr ⟨by kernel_rfl, rfl⟩) hHeld ?_
    try simp only [Act.put, List.setIfInBounds_toArray, List.set_cons_zero, List.set_cons_succ]
    refine take_at (i := 15) (d := 28) (v := undef) rfl rfl (by kernel_rfl) (by kernel_rfl) (by kernel_rfl) (fun _ _ _ h => h) (Or.inr ⟨by kernel_rfl, rfl⟩) hHeld ?_
    try simp only [Act.put, List.setIfInBounds_toArray, List.set_cons_zero, List.set_cons_succ]
    refine take_at (i := 16) (d := 29) (v := .bool false) rfl rfl (by kernel_rfl) (by kernel_rfl) (by kernel_rfl) (fun _ _ _ h => h) (Or.inl ⟨by rfl, ?_⟩) hHeld ?_
    · intro w' hS; go_simp
    try simp only [Act.put, List.setIfInBounds_toArray, List.set_cons_zero, List.set_cons_succ]
    refine take_at (i := 17) (d := 30) (v := .bool false) rfl rfl (by kernel_rfl) (by kernel_rfl) (by kernel_rfl) (fun _ _ _ h => h) (Or.inl ⟨by rfl, ?_⟩) hHeld ?_
    · intro w' hS; go_simp
    try simp only [Act.put, List.setIfInBounds_toArray, List.set_cons_zero, List.set_cons_succ]
    refine take_at (i := 18) (d := 2) (v := .bool false) rfl rfl (by kernel_rfl) (by kernel_rfl) (by kernel_rfl) (fun _ _ _ h => h) (Or.inl ⟨by rfl, ?_⟩) hHeld ?_
    · intro w' hS; go_simp
    try simp only [Act.put, List.setIfInBounds_toArray, List.set_cons_zero, List.set_cons_succ]
    refine wpAnyH_done (by kernel_rfl) ?_ _
    go_wp2
    go_ret
    exact ⟨ret_bool HE.out.symm, hHeld.1⟩
set_option maxHeartbeats 2000000 in
theorem isValid_unit (p v u n : Int) (w : World) (hs : smallB p = true) (hv : inB v (-60) 60 = true) (HZ : Hid ((u == 0 && n == 0) = false)) (hp2 : 2 ≤ p) (hu0 : 0 ≤ u) (hr : (resC p n u == 0) = true) (HE : Hid (padB p v u n = !(u % p == 0))) :
    Calls Try.prog 26 #[.agg #[.int .i64 p, .int .i64 v, .int .i64 u, .int .i64 n]] w fun e w' => e = .returned (.bool (padB p v u n)) ∧ Below w.heap.size w w' := by
  go_enter Try.func26, Try.ntmps26
  go_wp2_with (first | (go_at_call 33; refine (basePrime_any _ _).mono ?_; rintro e w' ⟨rfl, rfl⟩) | (go_at_call 34; refine (isPlace_any _ _).mono ?_; rw [hv]; rintro e w' ⟨rfl, rfl⟩))
  go_region_held3 (fun w' => Below w.heap.size w w' ∧ w'.cell? ⟨w.heap.size, 0, none⟩ = some (.int .i64 p) ∧ w'.cell? ⟨w.heap.size, 1, none⟩ = some (.int .i64 v) ∧ w'.cell? ⟨w.heap.size, 2, none⟩ = some (.int .i64 u) ∧ w'.cell? ⟨w.heap.size, 3, none⟩ = some (.int .i64 n))
    (first | with_reducible assumption | exact h4_drewN (h4_new w p v u n _) 1 | exact h4_next ‹_› hb | exact h4_alloc ‹_› _)
    (first | (go_at_call 50; refine (isZero_any _ _ _ _ _).mono ?_; rw [HZ.out]; rintro e w1 ⟨rfl, hb⟩) | (go_at_call 51; refine (pring_any _ _ _ _ _).mono ?_; rintro e w2 ⟨rfl, hb⟩) | (go_at_call 52; refine (checkOne_any _ _ u _ _ (cell_last _ _ _) (size_last _ _)).mono ?_; rintro e' w3 ⟨rfl, hb⟩) | (go_at_call 52; refine (checkOne_any _ _ u _ _ (cell_after hb) (size_after hb)).mono ?_; rintro e' w3 ⟨rfl, hb⟩) | (go_at_call 53; refine (isUnit_any _ _ _ _ hp2 hu0).mono ?_; rintro e w5 ⟨rfl, hb⟩))
  all_goals go_wp2_with fail
  all_goals go_ret
  all_goals exact ⟨ret_bool HE.out.symm, (‹Below w.heap.size w _ ∧ _›).1⟩
theorem isValid_any (p v u n : Int) (w : World) :
    Calls Try.prog 26 #[.agg #[.int .i64 p, .int .i64 v, .int .i64 u, .int .i64 n]] w fun e w' => e = .returned (.bool (padB p v u n)) ∧ Below w.heap.size w w' := by
  cases hs : smallB p
  · have HE := Lib.hid (show padB p v u n = false by simp [padB, hs])
    go_enter Try.func26, Try.ntmps26
    go_wp2_with (go_at_call 33; refine (basePrime_any _ _).mono ?_; rintro e w' ⟨rfl, rfl⟩)
    go_ret
    exact ⟨ret_bool HE.out.symm, (Below.refl _ _).alloc (Nat.le_refl _) _⟩
  · cases hv : inB v (-60) 60
    · have HE := Lib.hid (show padB p v u n = false by simp [padB, hv])
      go_enter Try.func26, Try.ntmps26
      go_wp2_with (first | (go_at_call 33; refine (basePrime_any _ _).mono ?_; rintro e w' ⟨rfl, rfl⟩) | (go_at_call 34; refine (isPlace_any _ _).mono ?_; rw [hv]; rintro e w' ⟨rfl, rfl⟩))
      go_ret
      exact ⟨ret_bool HE.out.symm, (Below.refl _ _).alloc (Nat.le_refl _) _⟩
    · obtain ⟨hp2, hp97⟩ := smallB_bd hs
      by_cases hz : u = 0 ∧ n = 0
      · exact isValid_zero p v u n w hs hv (Lib.hid (by simp [padB, hs, hv, hz])) (Lib.hid (by simp [hz]))
      · have HZ := Lib.hid (show (u == 0 && n == 0) = false by
          cases hb : (u == 0 && n == 0)
          · rfl
          · simp at hb; exact absurd hb hz)
        have HE := padB_rest hs hv hz
        by_cases hr : resC p n u = 0
        · exact isValid_unit p v u n w hs hv HZ hp2 (resC_zero hr).2.1 (by simp [hr]) (Lib.hid (by rw [HE, hr]; rfl))
        · exact isValid_non p v u n w hs hv HZ (by simp [hr]) (Lib.hid (by rw [HE]; simp [hr]))
end Go.Proofs.Ytmkelfkbbdfjdaa
