/- Contracts of the walk: powers by a modulus in impl and in spec. -/
import Derived.Test.YtbolmmgkmgmfeaaRingLaw
import Derived.Lib.RabinKarpLaws
namespace Go.Proofs.Ytbolmmgkmgmfeaa
open Go.RowKit
set_option linter.unusedVariables false
theorem and1_odd {e : Int} (h0 : 0 ≤ e) (h1 : e ≤ 4000000000000000000) (h : e % 2 = 1) : (bits BinOp.and IntKind.i64 e 1 == 1) = true := by
  have := Go.Proofs.and_one e.toNat (by omega)
  rw [show ((e.toNat : Nat) : Int) = e by omega] at this
  rw [this]; simp; omega
theorem and1_even {e : Int} (h0 : 0 ≤ e) (h1 : e ≤ 4000000000000000000) (h : ¬ e % 2 = 1) : (bits BinOp.and IntKind.i64 e 1 == 1) = false := by
  have := Go.Proofs.and_one e.toNat (by omega)
  rw [show ((e.toNat : Nat) : Int) = e by omega] at this
  rw [this]; simp; omega
set_option maxHeartbeats 400000 in
theorem power_any (p n a e : Int) (w : World) (h0 : ringM p n ≠ 0) (ha : 0 ≤ a ∧ a < ringM p n) (he : 0 ≤ e ∧ e ≤ 4000000000000000000) :
    Calls Try.prog 76 #[.agg #[.int .i64 p, .int .i64 n], .int .i64 a, .int .i64 e] w fun e' w' => e' = .returned (.int .i64 (powM a e.toNat (ringM p n))) ∧ Below w.heap.size w w' := by
  obtain ⟨_, _, _, _, hm1, hm2, _⟩ := ringM_bd h0
  have HS := Lib.hid (pRel_start hm1 ha.1 ha.2 he.1 he.2)
  have hm0 : (ringM p n == 0) = false := by simpa using h0
  clear h0
  go_enter Try.func76, Try.ntmps76
  go_wp2_with (go_at_call 73; refine (implModulus_any _ _ _).mono ?_; rintro e wn ⟨rfl, hb⟩; (first | have hH := keep_first hb | have hH := keep_next ⟨hB, c0, c1⟩ hb); obtain ⟨hB, c0, c1⟩ := hH)
  have HB := Lib.hid hB
  clear hB c0 c1 hb
  go_loop [1, 2, 8] (fun av ev ov => ∃ A E O : Int, av = .int .i64 A ∧ ev = .int .i64 E ∧ ov = .int .i64 O ∧ PRel a e.toNat (ringM p n) O A E) (fun _ ev _ => (intOf ev).toNat)
  case atStart => exact ⟨_, _, _, rfl, rfl, rfl, HS.out⟩
  case round =>
    obtain ⟨A, E, O, rfl, rfl, rfl, hr⟩ := hrel
    have hAA := prod_lt hm2 hr.2.2.1 hr.2.2.2.1 hr.2.2.1 hr.2.2.2.1
    have hOA := prod_lt hm2 hr.1 hr.2.1 hr.2.2.1 hr.2.2.2.1
    have hE0 := hr.2.2.2.2.1
    have hE1 := hr.2.2.2.2.2.1
    have HR := Lib.hid hr
    clear hr HS
    by_cases hz : 0 < E
    · by_cases ho : E % 2 = 1
      · have HE := Lib.hid (pRel_odd hm1 HR.out ho)
        have hbit := and1_odd hE0 hE1 ho
        go_wp2
        exact ⟨⟨_, _, _, rfl, rfl, rfl, HE.out⟩, by simp only [intOf]; omega⟩
      · have HE := Lib.hid (pRel_even hm1 HR.out (by omega))
        have hbit := and1_even hE0 hE1 ho
        go_wp2
        exact ⟨⟨_, _, _, rfl, rfl, rfl, HE.out⟩, by simp only [intOf]; omega⟩
    · have HE := Lib.hid (pRel_end HR.out (by omega))
      go_wp2
      go_ret
      exact ⟨ret_int HE.out, HB.out⟩
set_option maxHeartbeats 400000 in
theorem l02Power_any (a e m : Int) (w : World) (hm1 : 2 ≤ m) (hm2 : m ≤ 1000000000) (ha : 0 ≤ a ∧ a < m) (he : 0 ≤ e ∧ e ≤ 4000000000000000000) :
    Calls Try.prog 81 #[.int .i64 a, .int .i64 e, .int .i64 m] w fun e' w' => e' = .returned (.int .i64 (powM a e.toNat m)) ∧ w = w' := by
  have HS := Lib.hid (pRel_start hm1 ha.1 ha.2 he.1 he.2)
  have hm0 : (m == 0) = false := by simp; omega
  have ea : a % m = a := Int.emod_eq_of_lt ha.1 ha.2
  go_enter Try.func81, Try.ntmps81
  go_wp2_with (go_at_call 82; refine (l01Mod_any _ _ _ hm1 hm2).mono ?_; rintro e wn ⟨rfl, rfl⟩)
  clear he
  clear ea
  go_loop [0, 1, 7] (fun av ev ov => ∃ A E O : Int, av = .int .i64 A ∧ ev = .int .i64 E ∧ ov = .int .i64 O ∧ PRel a e.toNat m O A E) (fun _ ev _ => (intOf ev).toNat)
  case atStart => exact ⟨_, _, _, rfl, rfl, rfl, HS.out⟩
  case round =>
    obtain ⟨A, E, O, rfl, rfl, rfl, hr⟩ := hrel
    have hAA := prod_lt hm2 hr.2.2.1 hr.2.2.2.1 hr.2.2.1 hr.2.2.2.1
    have hOA := prod_lt hm2 hr.1 hr.2.1 hr.2.2.1 hr.2.2.2.1
    have hE0 := hr.2.2.2.2.1
    have hE1 := hr.2.2.2.2.2.1
    have HR := Lib.hid hr
    clear hr HS
    by_cases hz : 0 < E
    · by_cases ho : E % 2 = 1
      · have HE := Lib.hid (pRel_odd hm1 HR.out ho)
        have hbit : (E % 2 == 1) = true := by simp [ho]
        go_wp2
        exact ⟨⟨_, _, _, rfl, rfl, rfl, HE.out⟩, by simp only [intOf]; omega⟩
      · have HE := Lib.hid (pRel_even hm1 HR.out (by omega))
        have hbit : (E % 2 == 1) = false := by simp; omega
        go_wp2
        exact ⟨⟨_, _, _, rfl, rfl, rfl, HE.out⟩, by simp only [intOf]; omega⟩
    · have HE := Lib.hid (pRel_end HR.out (by omega))
      go_wp2
      go_ret
      exact ⟨ret_int HE.out, rfl⟩
end Go.Proofs.Ytbolmmgkmgmfeaa
