/- Contracts of the walk: chapter 3's functions in spec: opposites, products, digits. -/
import Derived.Test.YtmkelfkbbdfjdaaPadSpec2
namespace Go.Proofs.Ytmkelfkbbdfjdaa
open Go.RowKit
set_option linter.unusedVariables false
set_option maxRecDepth 20000
set_option linter.unusedSimpArgs false
theorem l03Digit_any (p v u n k : Int) (w : World) (h : POk p v u n) (hk : k < v + n) :
    Calls Try.prog 56 #[.agg (P4 p v u n), .int .i64 k] w fun e w' => e = .returned (.int .i64 (if k < v then 0 else u / pw p (k - v) % p)) ∧ Below w.heap.size w w' := by
  by_cases hl : k < v
  · rw [if_pos hl]
    go_enter Try.func56, Try.ntmps56
    go_wp2_with fail
    go_ret
    exact ⟨rfl, below_a1 w _⟩
  · rw [if_neg hl]
    obtain ⟨hp2, hp97, hn0, hn1, hm0, hm1, hu0, hu1, hu2⟩ := pok_bd h
    have hv0 := h.2.1
    have hv1 := h.2.2.1
    have hpart := pw_part (p := p) (n := n) (e := k - v) hp2 hm1 (by omega)
    have HP := l02Pow_any p (k - v)
    generalize pw p (k - v) = m at *
    replace HP := Lib.hid fun w => HP w hp2 hp97 (by omega) hpart.2
    obtain ⟨hm2, hm3⟩ := hpart
    have hw := IntWalk.i64_in (k - v) (by omega)
    have hm4 : ¬ m = 0 := by omega
    have hp4 : ¬ p = 0 := by omega
    have hz : (m == 0) = false := by simp; omega
    have hz2 : (p == 0) = false := by simp; omega
    have q0 : 0 ≤ u / m := Int.ediv_nonneg hu0 (by omega)
    have q1 : u / m ≤ u := Int.ediv_le_self _ hu0
    have ht1 : u.tdiv m = u / m := Int.tdiv_eq_ediv_of_nonneg hu0
    generalize u / m = d at *
    have ht2 : d.tmod p = d % p := tmod_nonneg q0
    have r0 := Int.emod_nonneg d hp4
    have r1 := Int.emod_lt_of_pos d (show 0 < p by omega)
    have hw2 := IntWalk.i64_in d (by omega)
    have hw3 := IntWalk.i64_in (d % p) (by omega)
    generalize d % p = r at *
    clear hm0 hm1 hu1 h
    go_enter Try.func56, Try.ntmps56
    go_wp2_with fail
    have K := k1_new w (P4 p v u n) 25
    generalize (w.alloc (.cells (P4 p v u n) 25)) = W at K ⊢
    obtain ⟨c0, c1, c2, c3⟩ := lies_four K.2
    go_quiet ((go_at_call 40; exact (HP.out _).mono fun e w' h => ⟨h.1, _, h.2.symm⟩))
    go_wp2
    go_ret
    exact ⟨rfl, below_drewN K.1 _⟩
end Go.Proofs.Ytmkelfkbbdfjdaa
