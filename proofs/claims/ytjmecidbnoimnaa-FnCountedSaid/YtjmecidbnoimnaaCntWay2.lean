/- Contracts of the walk: chapter 10: choices in spec, CountWithDegrees of both sides. -/
import Derived.Test.YtjmecidbnoimnaaCntWay
namespace Go.Proofs.Ytjmecidbnoimnaa
open Go.RowKit Go.Maps
set_option linter.unusedVariables false
set_option linter.unusedSimpArgs false
set_option maxRecDepth 20000
theorem bin_ge1 {n : Nat} : ∀ {i : Nat}, i ≤ n → 1 ≤ binZ n i
  | 0, _ => by rw [bin_zero]; omega
  | i + 1, h => by
    have ih := bin_ge1 (n := n) (i := i) (by omega)
    have e := bin_next n i
    have h0 := bin_pos n (i + 1)
    rcases Int.lt_or_le 0 (binZ n (i + 1)) with h1 | h1
    · omega
    · have h2 : binZ n (i + 1) = 0 := by omega
      rw [h2, Int.mul_zero] at e
      have h3 : 0 < ((n : Int) - i) * binZ n i := Int.mul_pos (by omega) (by omega)
      omega
/-- what a round of spec's choice does -/
theorem cho_round {n i k : Nat} {o : Int} (ho : binZ n i = o) (hi : i < k) (hk : k ≤ 8) (hn : i < n) (h1 : o ≤ 1000000000) (h2 : ¬ (1000000000000000 : Int) / o < (n : Int) - i) :
    1 ≤ o ∧ 0 ≤ o * ((n : Int) - i) ∧ o * ((n : Int) - i) ≤ 1000000000000000 ∧ o * ((n : Int) - i) / ((i : Int) + 1) = binZ n (i + 1) ∧ 0 ≤ binZ n (i + 1) ∧ binZ n (i + 1) ≤ 1000000000000000 := by
  have g1 : 1 ≤ o := by rw [← ho]; exact bin_ge1 (by omega)
  have h0 : 0 ≤ o * ((n : Int) - i) := Int.mul_nonneg (by omega) (by omega)
  have h3 : ((n : Int) - i) * o ≤ 1000000000000000 := Int.mul_le_of_le_ediv (by omega) (by omega)
  rw [Int.mul_comm] at h3
  have e := bin_next' n i
  rw [ho] at e
  have p1 := bin_pos n (i + 1)
  have h4 : 1 * binZ n (i + 1) ≤ ((i : Int) + 1) * binZ n (i + 1) := Int.mul_le_mul_of_nonneg_right (by omega) p1
  refine ⟨g1, h0, h3, ?_, p1, by omega⟩
  rw [e]
  exact Int.mul_ediv_cancel_left _ (by omega)
set_option maxHeartbeats 2000000 in
theorem l10Choose_any (n k : Nat) (w : World) (hn : (n : Int) ≤ 7837433594376961) (hk : k ≤ 8) :
    Calls Try.prog 65 #[.int .i64 n, .int .i64 k] w fun e w' => (∃ r, e = .returned (.int .i64 r) ∧ 0 ≤ r ∧ r ≤ 1000000000000000 ∧ capI r = capI (binZ n k)) ∧ w = w' := by
  go_enter Try.func65, Try.ntmps65
  go_wp2
  go_loop [5, 6] (fun v i => ∃ j : Nat, j ≤ k ∧ i = .int .i64 j ∧ v = .int .i64 (binZ n j) ∧ 0 ≤ binZ n j ∧ binZ n j ≤ 1000000000000000) (fun _ i => k - (intOf i).toNat)
  case atStart => exact ⟨0, Nat.zero_le _, rfl, by rw [bin_zero], by rw [bin_zero]; omega, by rw [bin_zero]; omega⟩
  case round =>
    obtain ⟨j, hj, rfl, rfl, hb0, hb1⟩ := hrel
    by_cases hlt : j < k
    · have hjk : (j : Int) < (k : Int) := by omega
      by_cases hnj : n ≤ j
      · have HZ := Lib.hid (show capI 0 = capI (binZ n k) by rw [bin_out (by omega)])
        generalize binZ n j = o at *
        have hle : (n : Int) - (j : Int) ≤ 0 := by omega
        go_wp2
        go_ret
        exact ⟨⟨0, rfl, by omega, by omega, HZ.out⟩, rfl⟩
      · have hgt : ¬ (n : Int) - (j : Int) ≤ 0 := by omega
        have hnj' : (j : Int) < (n : Int) := by omega
        have hj8 : (j : Int) ≤ 8 := by omega
        obtain ⟨o, ho⟩ : ∃ o, binZ n j = o := ⟨_, rfl⟩
        rw [ho] at hb0 hb1 ⊢
        have ho1 : 1 ≤ o := by rw [← ho]; exact bin_ge1 (by omega)
        by_cases hg : 1000000000 < o
        · have HZ := Lib.hid (show capI 1000000001 = capI (binZ n k) by
            have := bin_great (n := n) (i := j) (k := k) (by omega) (by omega) hk (by omega)
            rw [capI_great (n := binZ n k) (by omega)]; rfl)
          clear ho
          go_wp2
          go_ret
          exact ⟨⟨1000000001, rfl, by omega, by omega, HZ.out⟩, rfl⟩
        · have HG2 := Lib.hid fun h => bin_great2 (n := n) (i := j) (k := k) ho ho1 (by omega) h hlt hk
          have HRD := Lib.hid fun h => cho_round (n := n) (i := j) (k := k) ho hlt hk (by omega) (by omega) h
          have hdv : (1000000000000000 : Int).tdiv o = 1000000000000000 / o := Int.tdiv_eq_ediv_of_nonneg (by omega)
          have hoz : ¬ o = 0 := by omega
          have hmx : (if 1 < o then o else 1) = o := by split <;> omega
          have hd0 : 0 ≤ (1000000000000000 : Int) / o := Int.ediv_nonneg (by omega) (by omega)
          have hd1 : (1000000000000000 : Int) / o ≤ 1000000000000000 := Int.ediv_le_self _ (by omega)
          clear ho
          by_cases hq : (1000000000000000 : Int) / o < (n : Int) - (j : Int)
          · have HZ := Lib.hid (show capI 1000000001 = capI (binZ n k) by
              have := HG2.out hq
              rw [capI_great (n := binZ n k) (by omega)]; rfl)
            go_wp2
            go_ret
            exact ⟨⟨1000000001, rfl, by omega, by omega, HZ.out⟩, rfl⟩
          · obtain ⟨_, e0, e1, e2, e3, e4⟩ := HRD.out hq
            have HE := Lib.hid (And.intro e2 (And.intro e3 e4))
            have hjz : ¬ (j : Int) + 1 = 0 := by omega
            have hdv2 : (o * ((n : Int) - (j : Int))).tdiv ((j : Int) + 1) = binZ n (j + 1) := by rw [Int.tdiv_eq_ediv_of_nonneg e0]; exact e2
            clear e2 HRD HG2
            obtain ⟨V, hV⟩ : ∃ V, binZ n (j + 1) = V := ⟨_, rfl⟩
            rw [hV] at hdv2 e3 e4
            have HV := Lib.hid hV
            clear hV
            go_wp2
            exact ⟨⟨j + 1, by omega, rfl, by rw [HV.out], by rw [HV.out]; exact e3, by rw [HV.out]; exact e4⟩, by simp only [intOf]; omega⟩
    · obtain rfl : j = k := by omega
      obtain ⟨o, ho⟩ : ∃ o, binZ n j = o := ⟨_, rfl⟩
      rw [ho] at hb0 hb1 ⊢
      have HE := Lib.hid ho
      clear ho
      go_wp2
      go_ret
      exact ⟨⟨o, rfl, hb0, hb1, by rw [HE.out]⟩, rfl⟩
def cwC (p : Int) (l : List Int) : Int := if smallB p then (if DegOk l then limC (wayL p l l.length) else 2) else 1
def cwQ (p : Int) (l : List Int) : Int := if smallB p then (if DegOk l then limQ (wayL p l l.length) else 0) else 0
theorem seen_alloc {w : World} {o : Option Addr} {n c : Nat} {l : List Int} (h : Seen w o n c l) (ob : Obj) : Seen (w.alloc ob) o n c l := seen_below h ((Below.refl _ _).alloc (Nat.le_refl _) _)
set_option maxHeartbeats 1000000 in
theorem implCw_any (p : Int) {o : Option Addr} {n c : Nat} {l : List Int} {w : World} (h : Seen w o n c l) :
    Calls Try.prog 22 #[.int .i64 p, .slice o n c] w fun e w' => e = .returned (.tuple #[.int .i64 (cwQ p l), .int .i64 (cwC p l)]) ∧ Below w.heap.size w w' := by
  have HS := Lib.hid h
  cases hs : smallB p
  · rw [show cwQ p l = 0 by simp [cwQ, hs], show cwC p l = 1 by simp [cwC, hs]]
    clear h
    go_enter Try.func22, Try.ntmps22
    go_wp2_with fail
    refine (basePrime_any p w).mono ?_
    rw [hs]
    rintro e w2 ⟨rfl, rfl⟩
    go_wp2_with fail
    go_ret2
    exact ⟨rfl, Below.refl _ _⟩
  · obtain ⟨p2, p97⟩ := smallB_bd hs
    have HA := Lib.hid (areDeg_any h)
    by_cases hd : DegOk l
    · rw [show cwQ p l = limQ (wayL p l l.length) by simp [cwQ, hs, hd], show cwC p l = limC (wayL p l l.length) by simp [cwC, hs, hd]]
      rw [show decide (DegOk l) = true by simpa using hd] at HA
      have HCH := Lib.hid (choices_any p p2 p97 (seen_alloc h (.map #[] 0)) hd (b := w.heap.size) (k0 := 0) (World.ownsMap_made (H := Unit) w Try.prog 98 (plainElem Try.prog 2)) (cntD_empty p) (by omega) (fun h0 g hg e => by
        obtain ⟨hl, hn, hno, hnc, g', h1, h2⟩ := h
        obtain ⟨a, b⟩ := h1 h0
        rw [a] at hg
        injection hg with hg
        injection hg with hg
        omega))
      have HRS := Lib.hid fun w => countOrLimit_any (wayL p l l.length) w
      generalize wayL p l l.length = q at *
      have hmm := @run_makeMap Try.prog
      clear h hd
      go_enter Try.func22, Try.ntmps22
      go_wp2_with fail
      refine (basePrime_any p w).mono ?_
      rw [hs]
      rintro e w2 ⟨rfl, rfl⟩
      go_wp2_with fail
      refine HA.out.mono ?_
      rintro e w3 ⟨rfl, rfl⟩
      go_wp2_with fail
      refine HCH.out.mono ?_
      rintro e w4 ⟨rfl, hg⟩
      have HB := Lib.hid (cnt_below ((Below.refl _ _).alloc (Nat.le_refl _) _) hg (Nat.le_refl _))
      clear hg
      go_wp2_with fail
      refine (HRS.out _).mono ?_
      rintro e w5 ⟨rfl, rfl⟩
      go_wp2_with fail
      go_ret2
      exact ⟨rfl, HB.out⟩
    · rw [show cwQ p l = 0 by simp [cwQ, hs, hd], show cwC p l = 2 by simp [cwC, hs, hd]]
      rw [show decide (DegOk l) = false by simpa using hd] at HA
      clear h hd
      go_enter Try.func22, Try.ntmps22
      go_wp2_with fail
      refine (basePrime_any p w).mono ?_
      rw [hs]
      rintro e w2 ⟨rfl, rfl⟩
      go_wp2_with fail
      refine HA.out.mono ?_
      rintro e w3 ⟨rfl, rfl⟩
      go_wp2_with fail
      go_ret2
      exact ⟨rfl, Below.refl _ _⟩
end Go.Proofs.Ytjmecidbnoimnaa
