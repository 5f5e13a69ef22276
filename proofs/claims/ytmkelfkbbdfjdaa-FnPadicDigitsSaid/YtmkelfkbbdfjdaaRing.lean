/- Contracts of the walk: the modulus of a ring in impl and in spec, for every prime and precision (spec's: for primes and a precision of at least 1). -/
import Derived.Test.YtmkelfkbbdfjdaaVal
import Derived.Test.YtmkelfkbbdfjdaaRingMath
namespace Go.Proofs.Ytmkelfkbbdfjdaa
open Go.RowKit
set_option linter.unusedVariables false
set_option maxHeartbeats 400000 in
theorem implModulus_any (p n : Int) (w : World) :
    Calls Try.prog 68 #[.agg #[.int .i64 p, .int .i64 n]] w fun e w' => e = .returned (.int .i64 (ringM p n)) ∧ Below w.heap.size w w' := by
  cases hs : smallB p
  · rw [ringM_small hs]
    go_enter Try.func68, Try.ntmps68
    go_wp2_with (go_at_call 33; refine (basePrime_any _ _).mono ?_; rintro e w' ⟨rfl, rfl⟩)
    go_ret
    exact ⟨rfl, (Below.refl _ _).alloc (Nat.le_refl _) _⟩
  · by_cases hn : n < 1
    · rw [ringM_low hn]
      go_enter Try.func68, Try.ntmps68
      go_wp2_with (go_at_call 33; refine (basePrime_any _ _).mono ?_; rintro e w' ⟨rfl, rfl⟩)
      go_ret
      exact ⟨rfl, (Below.refl _ _).alloc (Nat.le_refl _) _⟩
    · obtain ⟨hp2, hp97⟩ := smallB_bd hs
      have HS := Lib.hid hs
      go_enter Try.func68, Try.ntmps68
      go_wp2_with (go_at_call 33; refine (basePrime_any _ _).mono ?_; rintro e w' ⟨rfl, rfl⟩)
      clear hs
      have hp0 : (p == 0) = false := by simp; omega
      go_loop [3, 15] (fun m i => ∃ M I : Int, m = .int .i64 M ∧ i = .int .i64 I ∧ MRel p I M ∧ I ≤ n) (fun _ i => 40 - (intOf i).toNat)
      case atStart => exact ⟨1, 0, rfl, rfl, mRel_start p, by omega⟩
      case round =>
        obtain ⟨M, I, rfl, rfl, hr, hin⟩ := hrel
        have h1 := mRel_prod hp2 hp97 hr
        have h2 := hr.1
        have h3 := hr.2.1
        have HR := Lib.hid hr
        clear hr
        by_cases hlt : I < n
        · by_cases ho : 1000000000 < M * p
          · have HE := Lib.hid (mRel_over hp2 HR.out ho hlt)
            have hov := (over_iff (m := M) hp2).2 ho
            go_wp2
            go_ret
            exact ⟨ret_int HE.out.symm, (Below.refl _ _).alloc (Nat.le_refl _) _⟩
          · have HE := Lib.hid (mRel_step hp2 hp97 HR.out (by omega))
            have hov : ¬ (1000000000 : Int) / p < M := fun h => ho ((over_iff (m := M) hp2).1 h)
            go_wp2
            exact ⟨⟨_, _, rfl, rfl, HE.out, by omega⟩, by simp only [intOf]; omega⟩
        · have HE := Lib.hid (mRel_end HS.out HR.out (show I = n by omega) (by omega))
          go_wp2
          go_ret
          exact ⟨ret_int HE.out.symm, (Below.refl _ _).alloc (Nat.le_refl _) _⟩
set_option maxHeartbeats 400000 in
theorem l02Modulus_any (p n : Int) (w : World) (hs : smallB p = true) (hn : 1 ≤ n) (hn2 : n ≤ 1000) :
    Calls Try.prog 40 #[.int .i64 p, .int .i64 n] w fun e w' => e = .returned (.int .i64 (ringM p n)) ∧ w = w' := by
  obtain ⟨hp2, hp97⟩ := smallB_bd hs
  have HS := Lib.hid hs
  clear hs
  go_enter Try.func40, Try.ntmps40
  go_wp2
  go_loop [1, 5] (fun i m => ∃ M I : Int, m = .int .i64 M ∧ i = .int .i64 (n - I) ∧ MRel p I M ∧ I ≤ n) (fun i _ => (intOf i).toNat)
  case atStart => exact ⟨1, 0, rfl, by simp, mRel_start p, by omega⟩
  case round =>
    obtain ⟨M, I, rfl, rfl, hr, hin⟩ := hrel
    have h1 := mRel_prod hp2 hp97 hr
    have h2 := hr.1
    have h3 := hr.2.1
    have HR := Lib.hid hr
    clear hr
    by_cases hlt : I < n
    · by_cases ho : 1000000000 < M * p
      · have HE := Lib.hid (mRel_over hp2 HR.out ho hlt)
        go_wp2
        go_ret
        exact ⟨ret_int HE.out.symm, rfl⟩
      · have HE := Lib.hid (mRel_step hp2 hp97 HR.out (by omega))
        go_wp2
        exact ⟨⟨_, _, rfl, by congr 1; omega, HE.out, by omega⟩, by simp only [intOf]; omega⟩
    · have HE := Lib.hid (mRel_end HS.out HR.out (show I = n by omega) (by omega))
      go_wp2
      go_ret
      exact ⟨ret_int HE.out.symm, rfl⟩
end Go.Proofs.Ytmkelfkbbdfjdaa
