/- Contracts of the walk: impl.isBasePrime, spec.l01Small, impl.divideOut, spec.l01Valuation and both ValuationOf; divideOut's and l01Valuation's ask that p is at least 2 and n a value other than 0. -/
import Derived.Test.YtmkelfkbbdfjdaaGcd
import Derived.Test.YtmkelfkbbdfjdaaValMath
import Derived.Test.YtmkelfkbbdfjdaaBez
namespace Go.Proofs.Ytmkelfkbbdfjdaa
open Go.RowKit
set_option linter.unusedVariables false
theorem basePrime_any (p : Int) (w : World) :
    Calls Try.prog 33 #[.int .i64 p] w fun e w' => e = .returned (.bool (smallB p)) ∧ w = w' := by
  by_cases h : p ≤ 97
  · have e : isPrimeB p = smallB p := by
      by_cases h2 : 2 ≤ p
      · rw [isPrimeB_in h2 (by omega), smallB_in h2 h]
      · rw [isPrimeB_out (by omega), smallB_out (by omega)]
    have E := Lib.hid e
    clear e
    go_enter Try.func33, Try.ntmps33
    go_wp2_with (go_at_call 57; refine (implIsPrime_any _ _).mono ?_; rintro e w' ⟨rfl, rfl⟩)
    go_ret
    exact ⟨ret_bool E.out, rfl⟩
  · rw [smallB_out (by omega)]
    go_enter Try.func33, Try.ntmps33
    go_wp2_with fail
    go_ret
    exact ⟨rfl, rfl⟩
theorem l01Small_any (p : Int) (w : World) :
    Calls Try.prog 38 #[.int .i64 p] w fun e w' => e = .returned (.bool (smallB p)) ∧ w = w' := by
  by_cases h : 2 ≤ p ∧ p ≤ 97
  · have e := inB_t h.1 h.2
    rw [smallB_in h.1 h.2]
    obtain ⟨h1, h2⟩ := h
    go_enter Try.func38, Try.ntmps38
    go_wp2_with (first | (go_at_call 39; refine (in_any _ _ _ _).mono ?_; rintro e w' ⟨rfl, rfl⟩) | (go_at_call 61; refine (l01Prime_any _ _ (by omega) (by omega)).mono ?_; rintro e w' ⟨rfl, rfl⟩))
    go_ret
    exact ⟨rfl, rfl⟩
  · have e : inB p 2 97 = false := inB_f (by omega)
    rw [smallB_out (by omega)]
    clear h
    go_enter Try.func38, Try.ntmps38
    go_wp2_with (go_at_call 39; refine (in_any _ _ _ _).mono ?_; rintro e w' ⟨rfl, rfl⟩)
    go_ret
    exact ⟨rfl, rfl⟩
set_option maxHeartbeats 400000 in
theorem divideOut_any (n p : Int) (w : World) (hp : 2 ≤ p) (h0 : n ≠ 0) (h1 : n.natAbs ≤ 1000000000000) :
    Calls Try.prog 69 #[.int .i64 n, .int .i64 p] w fun e w' => e = .returned (.tuple #[.int .i64 (valCount n p), .int .i64 (valRest n p)]) ∧ w = w' := by
  have HS := Lib.hid (vRel_start (p := p) h0 h1)
  clear h0 h1
  go_enter Try.func69, Try.ntmps69
  go_wp2
  go_loop [0, 6] (fun a c => ∃ m k : Int, a = .int .i64 m ∧ c = .int .i64 k ∧ VRel n p m k) (fun a _ => (intOf a).natAbs)
  case atStart => exact ⟨n, 0, rfl, rfl, HS.out⟩
  case round =>
    obtain ⟨m, k, rfl, rfl, hr⟩ := hrel
    have HR := Lib.hid hr
    have b0 := hr.2.1
    have b1 := hr.2.2.1
    have b2 := hr.2.2.2.1
    have b4 : (p == 0) = false := by simp; omega
    have b3 : k ≤ 4000000000000000000 := by
      obtain ⟨_, _, h, _, _, _⟩ := hr
      have : n.natAbs ≤ 1000000000000 := HS.out.2.2.2.1
      omega
    clear hr HS b1
    by_cases hm : m.tmod p = 0
    · have H := Lib.hid (vRel_step hp HR.out hm)
      have hm' : (m.tmod p == 0) = true := by simp [hm]
      clear hm
      go_wp2
      exact ⟨⟨_, _, rfl, rfl, H.out.1⟩, by simpa only [intOf] using H.out.2⟩
    · have H := Lib.hid (vRel_end HR.out hm)
      have hm' : (m.tmod p == 0) = false := by simp [hm]
      clear hm
      go_wp2
      go_ret2
      exact ⟨ret_int2 H.out.1 H.out.2, rfl⟩
set_option maxHeartbeats 400000 in
theorem l01Val_any (n p : Int) (w : World) (hp : 2 ≤ p) (h0 : n ≠ 0) (h1 : n.natAbs ≤ 1000000000000) :
    Calls Try.prog 63 #[.int .i64 n, .int .i64 p] w fun e w' => e = .returned (.int .i64 (valCount n p)) ∧ w = w' := by
  have HS := Lib.hid (vRel_start (p := p) h0 h1)
  clear h0 h1
  go_enter Try.func63, Try.ntmps63
  go_wp2
  go_loop [0, 5] (fun a c => ∃ m k : Int, a = .int .i64 m ∧ c = .int .i64 k ∧ VRel n p m k) (fun a _ => (intOf a).natAbs)
  case atStart => exact ⟨n, 0, rfl, rfl, HS.out⟩
  case round =>
    obtain ⟨m, k, rfl, rfl, hr⟩ := hrel
    have HR := Lib.hid hr
    have b0 := hr.2.1
    have b1 := hr.2.2.1
    have b2 := hr.2.2.2.1
    have b4 : (p == 0) = false := by simp; omega
    have b3 : k ≤ 4000000000000000000 := by
      obtain ⟨_, _, h, _, _, _⟩ := hr
      have : n.natAbs ≤ 1000000000000 := HS.out.2.2.2.1
      omega
    clear hr HS b1
    by_cases hm : m.tmod p = 0
    · have H := Lib.hid (vRel_step hp HR.out hm)
      have hm' : (m.tmod p == 0) = true := by simp [hm]
      clear hm
      go_wp2
      exact ⟨⟨_, _, rfl, rfl, H.out.1⟩, by simpa only [intOf] using H.out.2⟩
    · have H := Lib.hid (vRel_end HR.out hm)
      have hm' : (m.tmod p == 0) = false := by simp [hm]
      clear hm
      go_wp2
      go_ret
      exact ⟨ret_int H.out.1, rfl⟩
end Go.Proofs.Ytmkelfkbbdfjdaa
