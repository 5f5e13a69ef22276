/- Contracts of the walk: chapter 4 in impl: the code of a number that is to be divided, shifts, whole parts and fractions. -/
import Derived.Test.YtmkelfkbbdfjdaaDigMath
import Derived.StillTailTactics
namespace Go.Proofs.Ytmkelfkbbdfjdaa
open Go.RowKit
set_option linter.unusedVariables false
set_option maxRecDepth 20000
set_option linter.unusedSimpArgs false
def splitC (p v u n : Int) : Int := if padB p v u n then (if v + n < 0 then 4 else 0) else 1
theorem split_zero {p v u n : Int} (h : splitC p v u n = 0) : POk p v u n ∧ 0 ≤ v + n := by
  unfold splitC at h
  split at h
  · rename_i hb
    split at h
    · omega
    · exact ⟨padB_ok hb, by omega⟩
  · omega
def wholeQ (p v u n : Int) : Q4 := if splitC p v u n = 0 then (if 0 ≤ v then (p, v, u, n) else (p, numT p 0 (u / pw p (-v)) (v + n))) else (0, 0, 0, 0)
def fracN (p v u n : Int) : Int := if splitC p v u n = 0 then (if 0 ≤ v then 0 else u % pw p (-v)) else 0
def fracD (p v u n : Int) : Int := if splitC p v u n = 0 then (if 0 ≤ v then 1 else pw p (-v)) else 0
/-- the power that divides a number into its parts -/
theorem part_facts {p v u n : Int} (h : POk p v u n) (he : 0 ≤ v + n) (hv : ¬ 0 ≤ v) :
    1 ≤ pw p (-v) ∧ pw p (-v) ≤ 1000000000 ∧ 0 ≤ u / pw p (-v) ∧ u / pw p (-v) ≤ 1000000000 ∧ u.tdiv (pw p (-v)) = u / pw p (-v) ∧ u.tmod (pw p (-v)) = u % pw p (-v) ∧ 0 ≤ u % pw p (-v) ∧ u % pw p (-v) ≤ 1000000000 ∧ 1 ≤ n := by
  obtain ⟨hp2, hp97, hn0, hn1, hm0, hm1, hu0, hu1, hu2⟩ := pok_bd h
  have hpart := pw_part (p := p) (n := n) (e := -v) hp2 hm1 (by omega)
  have a0 := Int.ediv_nonneg hu0 (show 0 ≤ pw p (-v) by omega)
  have a1 := Int.ediv_le_self (pw p (-v)) hu0
  have r0 := Int.emod_nonneg u (show pw p (-v) ≠ 0 by omega)
  have r1 := Int.emod_lt_of_pos u (show 0 < pw p (-v) by omega)
  exact ⟨hpart.1, hpart.2, a0, by omega, Int.tdiv_eq_ediv_of_nonneg hu0, tmod_nonneg hu0, r0, by omega, by omega⟩
theorem k2_drewN {w w1 : World} {a b : Array Value} (h : K2 w a b w1) (k : Nat) : K2 w a b (w1.drewN k) := ⟨below_drewN h.1 k, h.2⟩
/-- block 0 holds a number that is read -/
abbrev SZ (w : World) (p v u n : Int) (w1 : World) : Prop :=
  K1 w (P4 p v u n) w1 ∧ w1.cell? ⟨w.heap.size, 0, none⟩ = some (.int .i64 p) ∧ w1.cell? ⟨w.heap.size, 1, none⟩ = some (.int .i64 v) ∧ w1.cell? ⟨w.heap.size, 2, none⟩ = some (.int .i64 u) ∧ w1.cell? ⟨w.heap.size, 3, none⟩ = some (.int .i64 n)
theorem sz_of {w : World} {p v u n : Int} {w1 : World} (K : K1 w (P4 p v u n) w1) : SZ w p v u n w1 := by
  obtain ⟨c0, c1, c2, c3⟩ := lies_four K.2
  exact ⟨K, c0, c1, c2, c3⟩
theorem sz_next {w : World} {p v u n : Int} {w1 w2 : World} (h : SZ w p v u n w1) (hb : Below w1.heap.size w1 w2) : SZ w p v u n w2 := sz_of (k1_next h.1 hb)
theorem sz_set {w : World} {p v u n : Int} {w1 : World} (h : SZ w p v u n w1) (x0 x1 x2 x3 : Value) :
    SZ w p v u n ((((w1.setCell ⟨w.heap.size + 1, 0, none⟩ x0).setCell ⟨w.heap.size + 1, 1, none⟩ x1).setCell ⟨w.heap.size + 1, 2, none⟩ x2).setCell ⟨w.heap.size + 1, 3, none⟩ x3) :=
  sz_of ⟨below_set4 h.1.1 (by omega), lies_other4 h.1.2 (by omega)⟩
theorem k2_set1 {w w1 : World} {a b : Array Value} {i : Nat} {x : Value} (K : K2 w a b w1) (hi : i < a.size) : K2 w (a.setIfInBounds i x) b (w1.setCell ⟨w.heap.size, i, none⟩ x) :=
  ⟨K.1.setCell (Nat.le_refl _) _, lies_set K.2.1 hi, lies_other K.2.2 (by omega)⟩
theorem implShift_any (p v u n k : Int) (w : World) :
    Calls Try.prog 13 #[.agg (P4 p v u n), .int .i64 k] w fun e w' => e = .returned (.tuple #[.agg (A4 (shiftQ p v u n k)), .int .i64 (shiftC p v u n k)]) ∧ Below w.heap.size w w' := by
  cases hx : padB p v u n
  · rw [show shiftQ p v u n k = (0, 0, 0, 0) by simp [shiftQ, hx], show shiftC p v u n k = 1 by simp [shiftC, hx]]
    go_enter Try.func13, Try.ntmps13
    go_wp2_with (first | (go_at_call 26; refine (isValid_any _ _ _ _ _).mono ?_; rintro e wn ⟨rfl, hb⟩; (first | have K := k2_first hb | have K := k2_next K hb); obtain ⟨c0, c1, c2, c3⟩ := lies_four K.2.1; obtain ⟨cf0, cf1, cf2, cf3⟩ := lies_ice K.2.1; obtain ⟨d0, d1, d2, d3⟩ := lies_four K.2.2; obtain ⟨df0, df1, df2, df3⟩ := lies_ice K.2.2))
    refine bodyPost_ret (v := .tuple #[.agg (P4 0 0 0 0), .int .i64 1]) (by simp [results, Try.results13, go_sem, d0, d1, d2, d3]) rfl ?_
    exact ⟨rfl, below_set4 K.1 (by omega)⟩
  · cases hk : inB k (-60) 60
    · rw [show shiftQ p v u n k = (0, 0, 0, 0) by simp [shiftQ, hk], show shiftC p v u n k = 2 by simp [shiftC, hx, hk]]
      go_enter Try.func13, Try.ntmps13
      go_wp2_with (first | (go_at_call 26; refine (isValid_any _ _ _ _ _).mono ?_; rintro e wn ⟨rfl, hb⟩; (first | have K := k2_first hb | have K := k2_next K hb); obtain ⟨c0, c1, c2, c3⟩ := lies_four K.2.1; obtain ⟨cf0, cf1, cf2, cf3⟩ := lies_ice K.2.1; obtain ⟨d0, d1, d2, d3⟩ := lies_four K.2.2; obtain ⟨df0, df1, df2, df3⟩ := lies_ice K.2.2) | (go_at_call 34; refine (isPlace_any _ _).mono ?_; rw [hk]; rintro e wn ⟨rfl, rfl⟩))
      refine bodyPost_ret (v := .tuple #[.agg (P4 0 0 0 0), .int .i64 2]) (by simp [results, Try.results13, go_sem, d0, d1, d2, d3]) rfl ?_
      exact ⟨rfl, below_set4 K.1 (by omega)⟩
    · rw [show shiftQ p v u n k = resQ p (v + k) u n by simp [shiftQ, hx, hk], show shiftC p v u n k = limC p (v + k) u n by simp [shiftC, hx, hk]]
      have hk2 : -60 ≤ k ∧ k ≤ 60 := by simpa [inB] using hk
      obtain ⟨hk0, hk1⟩ := hk2
      have hh := padB_ok hx
      have hv0 := hh.2.1
      have hv1 := hh.2.2.1
      have hw : IntKind.i64.wrap (v + k) = v + k := IntWalk.i64_in _ (by omega)
      clear hh
      go_enter Try.func13, Try.ntmps13
      go_wp2_with (first | (go_at_call 26; refine (isValid_any _ _ _ _ _).mono ?_; rintro e wn ⟨rfl, hb⟩; (first | have K := k2_first hb | have K := k2_next K hb); obtain ⟨c0, c1, c2, c3⟩ := lies_four K.2.1; obtain ⟨cf0, cf1, cf2, cf3⟩ := lies_ice K.2.1; obtain ⟨d0, d1, d2, d3⟩ := lies_four K.2.2; obtain ⟨df0, df1, df2, df3⟩ := lies_ice K.2.2) | (go_at_call 34; refine (isPlace_any _ _).mono ?_; rw [hk]; rintro e wn ⟨rfl, rfl⟩) | (go_at_call 37; refine (asResultQ_any _ _ _ _ _).mono ?_; rintro e wn ⟨rfl, hb⟩; have K := k2_next (k2_set1 K (by simp)) hb; obtain ⟨d0, d1, d2, d3⟩ := lies_four K.2.2; obtain ⟨df0, df1, df2, df3⟩ := lies_ice K.2.2))
      refine bodyPost_ret (v := .tuple #[.agg (A4 (resQ p (v + k) u n)), .int .i64 (limC p (v + k) u n)]) (by simp [results, Try.results13, go_sem, d0, d1, d2, d3]) rfl ?_
      exact ⟨rfl, below_set4 K.1 (by omega)⟩
end Go.Proofs.Ytmkelfkbbdfjdaa
