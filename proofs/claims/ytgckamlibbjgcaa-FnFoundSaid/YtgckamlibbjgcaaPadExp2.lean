/- Contracts of the walk: chapter 3's exported functions in impl: inverses, cuts, places of equality, digits, and numbers made of integers. -/
import Derived.Test.YtgckamlibbjgcaaPadExp
namespace Go.Proofs.Ytgckamlibbjgcaa
open Go.RowKit
set_option linter.unusedVariables false
set_option maxRecDepth 20000
set_option linter.unusedSimpArgs false
def invQ (p v u n : Int) : Q4 := if padB p v u n then (if n = 0 then (0, 0, 0, 0) else (p, -v, invV p n u, n)) else (0, 0, 0, 0)
def invC (p v u n : Int) : Int := if padB p v u n then (if n = 0 then 4 else 0) else 1
def cutQ (p v u n k : Int) : Q4 := if padB p v u n then (if 1 ≤ k ∧ k ≤ n then (p, v, u % pw p k, k) else (0, 0, 0, 0)) else (0, 0, 0, 0)
def cutC (p v u n k : Int) : Int := if padB p v u n then (if 1 ≤ k ∧ k ≤ n then 0 else 2) else 1
def difT (p v u n v' u' n' : Int) : Int × Int × Int := addT p v u n v' (negU p u' n') n'
def eqV (p v u n q v' u' n' : Int) : Int := if twoC p v u n q v' u' n' = 0 then (resQ p (difT p v u n v' u' n').1 (difT p v u n v' u' n').2.1 (difT p v u n v' u' n').2.2).2.1 else 0
def eqC (p v u n q v' u' n' : Int) : Int := if twoC p v u n q v' u' n' = 0 then limC p (difT p v u n v' u' n').1 (difT p v u n v' u' n').2.1 (difT p v u n v' u' n').2.2 else twoC p v u n q v' u' n'
def digV (p v u n k : Int) : Int := if padB p v u n then (if v + n ≤ k then 0 else if k < v then 0 else u / pw p (k - v) % p) else 0
def digC (p v u n k : Int) : Int := if padB p v u n then (if v + n ≤ k then 4 else 0) else 1
def madeQ (p m k : Int) : Q4 := if ringM p k = 0 then (0, 0, 0, 0) else if valueB m && !(m == 0) then (p, valCount m p, valRest m p % ringM p k, k) else (0, 0, 0, 0)
def madeC (p m k : Int) : Int := if ringM p k = 0 then 1 else if valueB m && !(m == 0) then 0 else 2
theorem lies_pair {w1 : World} {b : Nat} {x y : Value} (h : Lies w1 b #[x, y]) : w1.cell? ⟨b, 0, none⟩ = some x ∧ w1.cell? ⟨b, 1, none⟩ = some y := ⟨lies_cell h 0, lies_cell h 1⟩
theorem rem_facts {a m : Int} (ha : 0 ≤ a) (hm : 1 ≤ m) (hm2 : m ≤ 1000000000) : a.tmod m = a % m ∧ ¬ m = 0 ∧ IntKind.i64.wrap (a % m) = a % m ∧ (m == 0) = false := by
  have r0 := Int.emod_nonneg a (show m ≠ 0 by omega)
  have r1 := Int.emod_lt_of_pos a (show 0 < m by omega)
  exact ⟨tmod_nonneg ha, by omega, IntWalk.i64_in _ (by omega), by simp; omega⟩
/-- two blocks, one of which holds a number that is read -/
abbrev SQ (w : World) (p v u n : Int) (b : Array Value) (w1 : World) : Prop :=
  K2 w (P4 p v u n) b w1 ∧ w1.cell? ⟨w.heap.size, 0, none⟩ = some (.int .i64 p) ∧ w1.cell? ⟨w.heap.size, 1, none⟩ = some (.int .i64 v) ∧ w1.cell? ⟨w.heap.size, 2, none⟩ = some (.int .i64 u) ∧ w1.cell? ⟨w.heap.size, 3, none⟩ = some (.int .i64 n)
theorem sq_of {w : World} {p v u n : Int} {b : Array Value} {w1 : World} (K : K2 w (P4 p v u n) b w1) : SQ w p v u n b w1 := by
  obtain ⟨c0, c1, c2, c3⟩ := lies_four K.2.1
  exact ⟨K, c0, c1, c2, c3⟩
theorem sq_next {w : World} {p v u n : Int} {b : Array Value} {w1 w2 : World} (h : SQ w p v u n b w1) (hb : Below w1.heap.size w1 w2) : SQ w p v u n b w2 := sq_of (k2_next h.1 hb)
set_option maxRecDepth 20000 in
theorem implInvert_any (p v u n : Int) (w : World) :
    Calls Try.prog 28 #[.agg (P4 p v u n)] w fun e w' => e = .returned (.tuple #[.agg (A4 (invQ p v u n)), .int .i64 (invC p v u n)]) ∧ Below w.heap.size w w' := by
  cases hx : padB p v u n
  · rw [show invQ p v u n = (0, 0, 0, 0) by simp [invQ, hx], show invC p v u n = 1 by simp [invC, hx]]
    go_enter Try.func28, Try.ntmps28
    go_wp2_with (first | (go_at_call 80; refine (isValid_any _ _ _ _ _).mono ?_; rintro e wn ⟨rfl, hb⟩; (first | have K := k2_first hb | have K := k2_next K hb); obtain ⟨c0, c1, c2, c3⟩ := lies_four K.2.1; obtain ⟨cf0, cf1, cf2, cf3⟩ := lies_ice K.2.1; obtain ⟨d0, d1, d2, d3⟩ := lies_four K.2.2; obtain ⟨df0, df1, df2, df3⟩ := lies_ice K.2.2))
    refine bodyPost_ret (v := .tuple #[.agg (P4 0 0 0 0), .int .i64 1]) (by simp [results, Try.results28, go_sem, d0, d1, d2, d3]) rfl ?_
    exact ⟨rfl, below_set4 K.1 (by omega)⟩
  · have hk := padB_ok hx
    by_cases hn : n = 0
    · have HZ := Lib.hid (show (u == 0 && n == 0) = true by simp [hn, pok_zero hk hn])
      rw [show invQ p v u n = (0, 0, 0, 0) by simp [invQ, hn], show invC p v u n = 4 by rw [invC, hx]; simp [hn]]
      clear hn hk
      go_enter Try.func28, Try.ntmps28
      go_wp2_with (first | (go_at_call 80; refine (isValid_any _ _ _ _ _).mono ?_; rintro e wn ⟨rfl, hb⟩; (first | have K := k2_first hb | have K := k2_next K hb); obtain ⟨c0, c1, c2, c3⟩ := lies_four K.2.1; obtain ⟨cf0, cf1, cf2, cf3⟩ := lies_ice K.2.1; obtain ⟨d0, d1, d2, d3⟩ := lies_four K.2.2; obtain ⟨df0, df1, df2, df3⟩ := lies_ice K.2.2) | (go_at_call 81; refine (isZero_any _ _ _ _ _).mono ?_; rw [HZ.out]; rintro e wn ⟨rfl, hb⟩; (first | have K := k2_first hb | have K := k2_next K hb); obtain ⟨c0, c1, c2, c3⟩ := lies_four K.2.1; obtain ⟨cf0, cf1, cf2, cf3⟩ := lies_ice K.2.1; obtain ⟨d0, d1, d2, d3⟩ := lies_four K.2.2; obtain ⟨df0, df1, df2, df3⟩ := lies_ice K.2.2))
      refine bodyPost_ret (v := .tuple #[.agg (P4 0 0 0 0), .int .i64 4]) (by simp [results, Try.results28, go_sem, d0, d1, d2, d3]) rfl ?_
      exact ⟨rfl, below_set4 K.1 (by omega)⟩
    · have HZ := Lib.hid (show (u == 0 && n == 0) = false by simp [hn])
      have hv0 := hk.2.1
      have hv1 := hk.2.2.1
      rw [show invQ p v u n = (p, -v, invV p n u, n) by simp [invQ, hx, hn], show invC p v u n = 0 by simp [invC, hx, hn]]
      have hw : IntKind.i64.wrap (-v) = -v := IntWalk.i64_in _ (by omega)
      clear hn hk
      go_enter Try.func28, Try.ntmps28
      go_wp2_with (first | (go_at_call 80; refine (isValid_any _ _ _ _ _).mono ?_; rintro e wn ⟨rfl, hb⟩; (first | have K := k2_first hb | have K := k2_next K hb); obtain ⟨c0, c1, c2, c3⟩ := lies_four K.2.1; obtain ⟨cf0, cf1, cf2, cf3⟩ := lies_ice K.2.1; obtain ⟨d0, d1, d2, d3⟩ := lies_four K.2.2; obtain ⟨df0, df1, df2, df3⟩ := lies_ice K.2.2) | (go_at_call 81; refine (isZero_any _ _ _ _ _).mono ?_; rw [HZ.out]; rintro e wn ⟨rfl, hb⟩; (first | have K := k2_first hb | have K := k2_next K hb); obtain ⟨c0, c1, c2, c3⟩ := lies_four K.2.1; obtain ⟨cf0, cf1, cf2, cf3⟩ := lies_ice K.2.1; obtain ⟨d0, d1, d2, d3⟩ := lies_four K.2.2; obtain ⟨df0, df1, df2, df3⟩ := lies_ice K.2.2))
      go_region_held3 (fun w' => K2 w (P4 p v u n) (P4 0 0 0 0) w' ∧ w'.cell? ⟨w.heap.size, 0, none⟩ = some (.int .i64 p) ∧ w'.cell? ⟨w.heap.size, 1, none⟩ = some (.int .i64 v) ∧ w'.cell? ⟨w.heap.size, 2, none⟩ = some (.int .i64 u) ∧ w'.cell? ⟨w.heap.size, 3, none⟩ = some (.int .i64 n))
        (first | with_reducible assumption | exact sq_of (k2_drew K) | exact sq_next ‹_› hb)
        (first | (go_at_call 82; refine (pring_any _ _ _ _ _).mono ?_; rintro e1 wn ⟨rfl, hb⟩) | (go_at_call 13; refine (implInverse_any _ _ _ _).mono ?_; rintro e1 wn ⟨rfl, hb⟩))
      rename_i hHeld
      obtain ⟨K', c0, c1, c2, c3⟩ := hHeld
      obtain ⟨d0, d1, d2, d3⟩ := lies_four K'.2.2
      obtain ⟨df0, df1, df2, df3⟩ := lies_ice K'.2.2
      clear hb K
      go_wp2
      refine bodyPost_ret (v := .tuple #[.agg (P4 p (-v) (invV p n u) n), .int .i64 0]) (by simp [results, Try.results28, go_sem, d0, d1, d2, d3]) rfl ?_
      exact ⟨rfl, below_set4 K'.1 (by omega)⟩
set_option maxRecDepth 20000 in
theorem implCut_any (p v u n k : Int) (w : World) :
    Calls Try.prog 31 #[.agg (P4 p v u n), .int .i64 k] w fun e w' => e = .returned (.tuple #[.agg (A4 (cutQ p v u n k)), .int .i64 (cutC p v u n k)]) ∧ Below w.heap.size w w' := by
  cases hx : padB p v u n
  · rw [show cutQ p v u n k = (0, 0, 0, 0) by simp [cutQ, hx], show cutC p v u n k = 1 by simp [cutC, hx]]
    go_enter Try.func31, Try.ntmps31
    go_wp2_with (first | (go_at_call 80; refine (isValid_any _ _ _ _ _).mono ?_; rintro e wn ⟨rfl, hb⟩; (first | have K := k2_first hb | have K := k2_next K hb); obtain ⟨c0, c1, c2, c3⟩ := lies_four K.2.1; obtain ⟨cf0, cf1, cf2, cf3⟩ := lies_ice K.2.1; obtain ⟨d0, d1, d2, d3⟩ := lies_four K.2.2; obtain ⟨df0, df1, df2, df3⟩ := lies_ice K.2.2))
    refine bodyPost_ret (v := .tuple #[.agg (P4 0 0 0 0), .int .i64 1]) (by simp [results, Try.results31, go_sem, d0, d1, d2, d3]) rfl ?_
    exact ⟨rfl, below_set4 K.1 (by omega)⟩
  · by_cases hk1 : k < 1
    · rw [show cutQ p v u n k = (0, 0, 0, 0) by simp [cutQ, show ¬ 1 ≤ k by omega], show cutC p v u n k = 2 by simp [cutC, hx, show ¬ 1 ≤ k by omega]]
      go_enter Try.func31, Try.ntmps31
      go_wp2_with (first | (go_at_call 80; refine (isValid_any _ _ _ _ _).mono ?_; rintro e wn ⟨rfl, hb⟩; (first | have K := k2_first hb | have K := k2_next K hb); obtain ⟨c0, c1, c2, c3⟩ := lies_four K.2.1; obtain ⟨cf0, cf1, cf2, cf3⟩ := lies_ice K.2.1; obtain ⟨d0, d1, d2, d3⟩ := lies_four K.2.2; obtain ⟨df0, df1, df2, df3⟩ := lies_ice K.2.2))
      refine bodyPost_ret (v := .tuple #[.agg (P4 0 0 0 0), .int .i64 2]) (by simp [results, Try.results31, go_sem, d0, d1, d2, d3]) rfl ?_
      exact ⟨rfl, below_set4 K.1 (by omega)⟩
    · by_cases hkn : n < k
      · rw [show cutQ p v u n k = (0, 0, 0, 0) by simp [cutQ, show ¬ k ≤ n by omega], show cutC p v u n k = 2 by simp [cutC, hx, show ¬ k ≤ n by omega]]
        go_enter Try.func31, Try.ntmps31
        go_wp2_with (first | (go_at_call 80; refine (isValid_any _ _ _ _ _).mono ?_; rintro e wn ⟨rfl, hb⟩; (first | have K := k2_first hb | have K := k2_next K hb); obtain ⟨c0, c1, c2, c3⟩ := lies_four K.2.1; obtain ⟨cf0, cf1, cf2, cf3⟩ := lies_ice K.2.1; obtain ⟨d0, d1, d2, d3⟩ := lies_four K.2.2; obtain ⟨df0, df1, df2, df3⟩ := lies_ice K.2.2))
        refine bodyPost_ret (v := .tuple #[.agg (P4 0 0 0 0), .int .i64 2]) (by simp [results, Try.results31, go_sem, d0, d1, d2, d3]) rfl ?_
        exact ⟨rfl, below_set4 K.1 (by omega)⟩
      · rw [show cutQ p v u n k = (p, v, u % pw p k, k) by simp [cutQ, hx, show 1 ≤ k by omega, show k ≤ n by omega], show cutC p v u n k = 0 by simp [cutC, hx, show 1 ≤ k by omega, show k ≤ n by omega]]
        obtain ⟨hp2, hp97, hn0, hn1, hm0, hm1, hu0, hu1, hu2⟩ := pok_bd (padB_ok hx)
        have hpart := pw_part (p := p) (n := n) (e := k) hp2 hm1 (by omega)
        have HP := primePower_any p k
        generalize pw p k = m at *
        replace HP := Lib.hid fun w => HP w hp2 hp97 (by omega) hpart.2
        obtain ⟨ht, hz2, hw3, hz⟩ := rem_facts hu0 hpart.1 hpart.2
        generalize u % m = r at *
        clear hm0 hm1 hu1 hpart
        go_enter Try.func31, Try.ntmps31
        go_wp2_with (first | (go_at_call 80; refine (isValid_any _ _ _ _ _).mono ?_; rintro e wn ⟨rfl, hb⟩; (first | have K := k2_first hb | have K := k2_next K hb); obtain ⟨c0, c1, c2, c3⟩ := lies_four K.2.1; obtain ⟨cf0, cf1, cf2, cf3⟩ := lies_ice K.2.1; obtain ⟨d0, d1, d2, d3⟩ := lies_four K.2.2; obtain ⟨df0, df1, df2, df3⟩ := lies_ice K.2.2))
        refine wp_region_still_tail 8 (by kernel_rfl) (by kernel_rfl) ?_
        simp only [List.take_succ_cons, List.take_zero, List.drop_succ_cons, List.drop_zero]
        repeat still_step
        still_call ((HP.out _).mono fun e w' h => ⟨h.1, h.2.symm⟩)
        repeat still_step
        refine wpStill_nil ?_
        have KW := k2_drew K
        change wpList _ _ _ _ _ (World.drew _)
        clear c0 c1 c2 c3 d0 d1 d2 d3 cf0 cf1 cf2 cf3 df0 df1 df2 df3 K hb
        generalize World.drew _ = W2 at KW ⊢
        obtain ⟨c0, c1, c2, c3⟩ := lies_four KW.2.1
        obtain ⟨d0, d1, d2, d3⟩ := lies_four KW.2.2
        obtain ⟨cf0, cf1, cf2, cf3⟩ := lies_ice KW.2.1
        obtain ⟨df0, df1, df2, df3⟩ := lies_ice KW.2.2
        go_wp2
        refine bodyPost_ret (v := .tuple #[.agg (P4 p v r k), .int .i64 0]) (by simp [results, Try.results31, go_sem, d0, d1, d2, d3]) rfl ?_
        exact ⟨rfl, below_set4 ((KW.1.setCell (Nat.le_refl _) _).setCell (Nat.le_refl _) _) (by omega)⟩
end Go.Proofs.Ytgckamlibbjgcaa
