/- Contracts of the walk: both IsSquareResidue and the law FnExactIsSquareResidue. -/
import Derived.Test.YtbolmmgkmgmfeaaReduce
namespace Go.Proofs.Ytbolmmgkmgmfeaa
open Go.RowKit
set_option linter.unusedVariables false
def sqB (p r : Int) : Bool := (List.range p.toNat).any fun x => (x : Int) * x % p == r
def sqV (p r : Int) : Int := if sqB p r then 1 else -1
theorem sqV_t {p r : Int} (h : sqB p r = true) : sqV p r = 1 := by simp [sqV, h]
theorem sqV_f {p r : Int} (h : sqB p r = false) : sqV p r = -1 := by simp [sqV, h]
def NoSq (p r : Int) (k : Nat) : Prop := ∀ x : Nat, x < k → (x : Int) * x % p ≠ r
def lgV (p a : Int) : Int := if a % p = 0 then 0 else sqV p (a % p)
def legC (p a : Int) : Int := if smallB p then (if valueB a then 0 else 2) else 1
def legV (p a : Int) : Int := if legC p a = 0 then lgV p a else 0
theorem noSq_zero (p r : Int) : NoSq p r 0 := fun x h => by omega
theorem noSq_one {p r : Int} (h : r ≠ 0) : NoSq p r 1 := fun x hx => by
  obtain rfl : x = 0 := by omega
  simp; omega
theorem noSq_step {p r : Int} {k : Nat} (h : NoSq p r k) (hk : ¬ (k : Int) * k % p = r) : NoSq p r (k + 1) := fun x hx => by
  by_cases e : x = k
  · subst e; exact hk
  · exact h x (by omega)
theorem noSq_end {p r : Int} {k : Nat} (h : NoSq p r k) (hk : p ≤ k) : sqB p r = false := by
  unfold sqB; rw [List.any_eq_false]; intro x hx
  rw [List.mem_range] at hx
  have := h x (by omega)
  simpa using this
theorem sq_found {p r : Int} {k : Nat} (hk : (k : Int) < p) (h : (k : Int) * k % p = r) : sqB p r = true := by
  unfold sqB; rw [List.any_eq_true]
  exact ⟨k, by rw [List.mem_range]; omega, by simp [h]⟩
theorem sq_small {k : Nat} {p : Int} (hp : p ≤ 97) (hk : (k : Int) ≤ p) : 0 ≤ (k : Int) * k ∧ (k : Int) * k ≤ 9409 := by
  refine ⟨Int.mul_nonneg (by omega) (by omega), ?_⟩
  have := Int.mul_le_mul (show (k : Int) ≤ 97 by omega) (show (k : Int) ≤ 97 by omega) (by omega) (by omega)
  omega
set_option maxHeartbeats 400000 in
theorem l02Leg_any (a p : Int) (w : World) (hs : smallB p = true) :
    Calls Try.prog 54 #[.int .i64 a, .int .i64 p] w fun e w' => e = .returned (.int .i64 (lgV p a)) ∧ w = w' := by
  obtain ⟨hp2, hp97⟩ := smallB_bd hs
  have hpm : p ≤ 1000000000 := by omega
  by_cases hz : a % p = 0
  · have hz' : (a % p == 0) = true := by simp [hz]
    rw [show lgV p a = 0 by simp [lgV, hz]]
    clear hz
    go_enter Try.func54, Try.ntmps54
    go_wp2_with (first | (go_at_call 82; refine (l01Mod_any _ _ _ hp2 hpm).mono ?_; rintro e wn ⟨rfl, rfl⟩))
    go_ret
    exact ⟨rfl, rfl⟩
  · have hz' : (a % p == 0) = false := by simp [hz]
    rw [show lgV p a = sqV p (a % p) by simp [lgV, hz]]
    have HZ := Lib.hid hz
    have hp0 : (p == 0) = false := by simp; omega
    clear hz
    go_enter Try.func54, Try.ntmps54
    go_wp2_with (first | (go_at_call 82; refine (l01Mod_any _ _ _ hp2 hpm).mono ?_; rintro e wn ⟨rfl, rfl⟩))
    go_loop [5] (fun x => ∃ k : Nat, x = .int .i64 k ∧ 1 ≤ k ∧ (k : Int) ≤ p ∧ NoSq p (a % p) k) (fun x => 100 - (intOf x).toNat)
    case atStart => exact ⟨1, rfl, by omega, by omega, noSq_one HZ.out⟩
    case round =>
      obtain ⟨k, rfl, hk1, hkp, hn⟩ := hrel
      have hb := sq_small hp97 hkp
      have HN := Lib.hid hn
      clear hn
      by_cases hlt : (k : Int) < p
      · by_cases hq : (k : Int) * k % p = a % p
        · have HE := Lib.hid (sqV_t (sq_found hlt hq))
          have hq' : ((k : Int) * k % p == a % p) = true := by simp [hq]
          clear hq
          go_wp2
          go_ret
          exact ⟨ret_int HE.out.symm, rfl⟩
        · have HE := Lib.hid (noSq_step HN.out hq)
          have hq' : ((k : Int) * k % p == a % p) = false := by simp [hq]
          clear hq
          go_wp2
          exact ⟨⟨k + 1, by go_num, by omega, by omega, HE.out⟩, by simp only [intOf]; omega⟩
      · have HE := Lib.hid (sqV_f (noSq_end HN.out (by omega)))
        go_wp2
        go_ret
        exact ⟨ret_int HE.out.symm, rfl⟩
theorem specSquare_any (p a : Int) (w : World) :
    Calls Try.prog 16 #[.int .i64 p, .int .i64 a] w fun e w' => e = .returned (.tuple #[.int .i64 (legV p a), .int .i64 (legC p a)]) ∧ w = w' := by
  cases hs : smallB p
  · rw [show legV p a = 0 by simp [legV, legC, hs], show legC p a = 1 by simp [legC, hs]]
    go_enter Try.func16, Try.ntmps16
    go_wp2_with (first | (go_at_call 45; refine (l01Small_any _ _).mono ?_; rintro e wn ⟨rfl, rfl⟩))
    go_ret2
    exact ⟨rfl, rfl⟩
  · cases hv : valueB a
    · rw [show legV p a = 0 by simp [legV, legC, hs, hv], show legC p a = 2 by simp [legC, hs, hv]]
      go_enter Try.func16, Try.ntmps16
      go_wp2_with (first | (go_at_call 45; refine (l01Small_any _ _).mono ?_; rintro e wn ⟨rfl, rfl⟩) | (go_at_call 53; refine (l01Is_any _ _).mono ?_; rintro e wn ⟨rfl, rfl⟩))
      go_ret2
      exact ⟨rfl, rfl⟩
    · rw [show legV p a = lgV p a by simp [legV, legC, hs, hv], show legC p a = 0 by simp [legC, hs, hv]]
      have HS := Lib.hid hs
      go_enter Try.func16, Try.ntmps16
      go_wp2_with (first | (go_at_call 45; refine (l01Small_any _ _).mono ?_; rintro e wn ⟨rfl, rfl⟩) | (go_at_call 53; refine (l01Is_any _ _).mono ?_; rintro e wn ⟨rfl, rfl⟩) | (go_at_call 54; refine (l02Leg_any _ _ _ HS.out).mono ?_; rintro e wn ⟨rfl, rfl⟩))
      go_ret2
      exact ⟨rfl, rfl⟩
set_option maxHeartbeats 400000 in
theorem implSquare_any (p a : Int) (w : World) :
    Calls Try.prog 15 #[.int .i64 p, .int .i64 a] w fun e w' => e = .returned (.tuple #[.int .i64 (legV p a), .int .i64 (legC p a)]) ∧ w = w' := by
  cases hs : smallB p
  · rw [show legV p a = 0 by simp [legV, legC, hs], show legC p a = 1 by simp [legC, hs]]
    go_enter Try.func15, Try.ntmps15
    go_wp2_with (first | (go_at_call 50; refine (basePrime_any _ _).mono ?_; rintro e wn ⟨rfl, rfl⟩))
    go_ret2
    exact ⟨rfl, rfl⟩
  · cases hv : valueB a
    · rw [show legV p a = 0 by simp [legV, legC, hs, hv], show legC p a = 2 by simp [legC, hs, hv]]
      go_enter Try.func15, Try.ntmps15
      go_wp2_with (first | (go_at_call 50; refine (basePrime_any _ _).mono ?_; rintro e wn ⟨rfl, rfl⟩) | (go_at_call 51; refine (isValue_any _ _).mono ?_; rintro e wn ⟨rfl, rfl⟩))
      go_ret2
      exact ⟨rfl, rfl⟩
    · rw [show legV p a = lgV p a by simp [legV, legC, hs, hv], show legC p a = 0 by simp [legC, hs, hv]]
      obtain ⟨hp2, hp97⟩ := smallB_bd hs
      have hpm : p ≤ 1000000000 := by omega
      have hp0 : (p == 0) = false := by simp; omega
      by_cases hz : a % p = 0
      · have hz' : (a % p == 0) = true := by simp [hz]
        rw [show lgV p a = 0 by simp [lgV, hz]]
        clear hz
        go_enter Try.func15, Try.ntmps15
        go_wp2_with (first | (go_at_call 50; refine (basePrime_any _ _).mono ?_; rintro e wn ⟨rfl, rfl⟩) | (go_at_call 51; refine (isValue_any _ _).mono ?_; rintro e wn ⟨rfl, rfl⟩) | (go_at_call 52; refine (remainder_any _ _ _ hp2 hpm).mono ?_; rintro e wn ⟨rfl, rfl⟩))
        go_ret2
        exact ⟨rfl, rfl⟩
      · have hz' : (a % p == 0) = false := by simp [hz]
        rw [show lgV p a = sqV p (a % p) by simp [lgV, hz]]
        clear hz
        go_enter Try.func15, Try.ntmps15
        go_wp2_with (first | (go_at_call 50; refine (basePrime_any _ _).mono ?_; rintro e wn ⟨rfl, rfl⟩) | (go_at_call 51; refine (isValue_any _ _).mono ?_; rintro e wn ⟨rfl, rfl⟩) | (go_at_call 52; refine (remainder_any _ _ _ hp2 hpm).mono ?_; rintro e wn ⟨rfl, rfl⟩))
        go_loop [19] (fun x => ∃ k : Nat, x = .int .i64 k ∧ (k : Int) ≤ p ∧ NoSq p (a % p) k) (fun x => 100 - (intOf x).toNat)
        case atStart => exact ⟨0, rfl, by omega, noSq_zero _ _⟩
        case round =>
          obtain ⟨k, rfl, hkp, hn⟩ := hrel
          have hb := sq_small hp97 hkp
          have HN := Lib.hid hn
          clear hn
          by_cases hlt : (k : Int) < p
          · by_cases hq : (k : Int) * k % p = a % p
            · have HE := Lib.hid (sqV_t (sq_found hlt hq))
              have hq' : ((k : Int) * k % p == a % p) = true := by simp [hq]
              clear hq
              go_wp2
              go_ret2
              exact ⟨ret_int2 HE.out.symm rfl, rfl⟩
            · have HE := Lib.hid (noSq_step HN.out hq)
              have hq' : ((k : Int) * k % p == a % p) = false := by simp [hq]
              clear hq
              go_wp2
              exact ⟨⟨k + 1, by go_num, by omega, HE.out⟩, by simp only [intOf]; omega⟩
          · have HE := Lib.hid (sqV_f (noSq_end HN.out (by omega)))
            go_wp2
            go_ret2
            exact ⟨ret_int2 HE.out.symm rfl, rfl⟩
end Go.Proofs.Ytbolmmgkmgmfeaa
