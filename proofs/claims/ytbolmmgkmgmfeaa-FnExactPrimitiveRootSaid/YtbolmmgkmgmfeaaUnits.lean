/- Contracts of the walk: both CountUnits and the law FnExactCountUnits. -/
import Derived.Test.YtbolmmgkmgmfeaaRingLaw
import Derived.Deep.RegionHeld3
namespace Go.Proofs.Ytbolmmgkmgmfeaa
open Go.RowKit
set_option linter.unusedVariables false
theorem unit_bd {p n : Int} (h : ringM p n ≠ 0) : (p == 0) = false ∧ 0 ≤ ringM p n / p ∧ ringM p n / p ≤ 1000000000 ∧ 1 ≤ ringM p n / p * (p - 1) ∧ ringM p n / p * (p - 1) ≤ 1000000000 := by
  obtain ⟨j, h1, h2, h3, h4, h5⟩ := unitN_eq h
  obtain ⟨hp, _, _, _, hm, hM, _⟩ := ringM_bd h
  refine ⟨by simp; omega, Int.ediv_nonneg (by omega) (by omega), ?_, h4, h5⟩
  exact Int.le_trans (Int.ediv_le_self _ (by omega)) hM
theorem countUnits_any (p n : Int) (w : World) (h0 : ringM p n ≠ 0) :
    Calls Try.prog 74 #[.agg #[.int .i64 p, .int .i64 n]] w fun e w' => e = .returned (.int .i64 (unitN p n)) ∧ Below w.heap.size w w' := by
  obtain ⟨hp0, q0, q1, u0, u1⟩ := unit_bd h0
  obtain ⟨hp2, hp97, _, _, hm1, hm2, _⟩ := ringM_bd h0
  have wq : IntKind.i64.wrap (ringM p n / p) = ringM p n / p := IntWalk.i64_in _ ⟨by omega, by omega⟩
  have wt : (ringM p n).tdiv p = ringM p n / p := Int.tdiv_eq_ediv_of_nonneg (by omega)
  have hz : ¬ p = 0 := by omega
  have wu : IntKind.i64.wrap (ringM p n / p * (p - 1)) = ringM p n / p * (p - 1) := IntWalk.i64_in _ ⟨by omega, by omega⟩
  have wp : IntKind.i64.wrap (p - 1) = p - 1 := IntWalk.i64_in _ ⟨by omega, by omega⟩
  clear h0
  go_enter Try.func74, Try.ntmps74
  go_wp2_with fail
  go_region_held3 (fun w' => Below w.heap.size w w' ∧ w'.cell? ⟨w.heap.size, 0, none⟩ = some (.int .i64 p) ∧ w'.cell? ⟨w.heap.size, 1, none⟩ = some (.int .i64 n)) (first | exact keep_start 1 | exact ⟨below_drewN hB 1, c0, c1⟩ | exact keep_next ‹_› hb | assumption) (first | (go_at_call 73; refine (implModulus_any _ _ _).mono ?_; rintro e wn ⟨rfl, hb⟩))
  all_goals (obtain ⟨hB, c0, c1⟩ := ‹Below w.heap.size w _ ∧ _›)
  all_goals go_wp2_with fail
  all_goals go_ret
  all_goals exact ⟨rfl, hB⟩
theorem l02Units_any (p n : Int) (w : World) (h0 : ringM p n ≠ 0) :
    Calls Try.prog 79 #[.agg #[.int .i64 p, .int .i64 n]] w fun e w' => e = .returned (.int .i64 (unitN p n)) ∧ Below w.heap.size w w' := by
  obtain ⟨hp0, q0, q1, u0, u1⟩ := unit_bd h0
  obtain ⟨hp2, hp97, hn1, hn2, hm1, hm2, _⟩ := ringM_bd h0
  have H := Lib.hid (And.intro (ringM_in h0).1 (And.intro hn1 (show n ≤ 1000 by omega)))
  have wq : IntKind.i64.wrap (ringM p n / p) = ringM p n / p := IntWalk.i64_in _ ⟨by omega, by omega⟩
  have wt : (ringM p n).tdiv p = ringM p n / p := Int.tdiv_eq_ediv_of_nonneg (by omega)
  have hz : ¬ p = 0 := by omega
  have wu : IntKind.i64.wrap (ringM p n / p * (p - 1)) = ringM p n / p * (p - 1) := IntWalk.i64_in _ ⟨by omega, by omega⟩
  have wp : IntKind.i64.wrap (p - 1) = p - 1 := IntWalk.i64_in _ ⟨by omega, by omega⟩
  clear h0
  go_enter Try.func79, Try.ntmps79
  go_wp2_with fail
  go_region_held3 (fun w' => Below w.heap.size w w' ∧ w'.cell? ⟨w.heap.size, 0, none⟩ = some (.int .i64 p) ∧ w'.cell? ⟨w.heap.size, 1, none⟩ = some (.int .i64 n)) (first | exact keep_start 1 | exact ⟨below_drewN hB 1, c0, c1⟩ | exact keep_next ‹_› hb | assumption) (first | (go_at_call 78; refine (l02Modulus_any _ _ _ H.out.1 H.out.2.1 H.out.2.2).mono ?_; rintro e wn ⟨rfl, rfl⟩))
  all_goals (obtain ⟨hB, c0, c1⟩ := ‹Below w.heap.size w _ ∧ _›)
  all_goals go_wp2_with fail
  all_goals go_ret
  all_goals exact ⟨rfl, hB⟩
def cntV (p n : Int) : Int := if ringM p n = 0 then 0 else unitN p n
end Go.Proofs.Ytbolmmgkmgmfeaa
