/- The drawn arguments of ValuationOf. -/
import Derived.Test.YtdbiaiimdokleaaDrawPrime
namespace Go.Proofs.Ytdbiaiimdokleaa
open Go.RowKit
set_option linter.unusedVariables false
set_option maxHeartbeats 800000 in
theorem drawVal_any (o : Option Addr) (len cap : Nat) (w : World) (hl : len ≤ 4096) (hc : CodeIn w o len) :
    Calls Try.prog 72 #[.slice o len cap] w (TwoPost w) := by
  have HC := Lib.hid hc
  clear hc
  go_enter Try.func72, Try.ntmps72
  go_wp2_with fail
  refine (from_any _ _ _ _ hl HC.out).mono ?_
  rintro e w1 ⟨p, rfl, hp, hs1, hb1⟩
  have H1 := Lib.hid (And.intro hs1 hb1)
  have HP := Lib.hid hp
  clear hs1 hb1 hp
  go_wp2_with fail
  refine (drawPrime_any _ _ _ _ _ H1.out.1).mono ?_
  rintro e w2 ⟨x, rfl, x0, x1, hs2, hg2⟩
  have H2 := Lib.hid (And.intro hs2 (below_draw H1.out.2 hg2 HP.out H1.out.2.size))
  clear hs2 hg2
  go_wp2_with fail
  refine (next_any _ _ _ _ _ _ (by omega) H2.out.1).mono ?_
  rintro e w3 ⟨r3, rfl, r30, r31, hs3, hg3, hz3⟩
  have H3 := Lib.hid (And.intro hs3 (below_draw H2.out.2 hg3 HP.out H2.out.2.size))
  have r32 : r3 < 201 := by omega
  clear hs3 hg3 hz3 r31
  go_wp2_with fail
  refine (next_any _ _ _ _ _ _ (by omega) H3.out.1).mono ?_
  rintro e w4 ⟨r4, rfl, r40, r41, hs4, hg4, hz4⟩
  have H4 := Lib.hid (And.intro hs4 (below_draw H3.out.2 hg4 HP.out H3.out.2.size))
  have r42 : r4 < 5 := by omega
  clear hs4 hg4 hz4 r41
  go_wp2_with fail
  go_loop [6, 7] (fun n k => ∃ y j : Int, n = .int .i64 y ∧ k = .int .i64 j ∧ 0 ≤ j ∧ j < 5) (fun _ k => (intOf k).toNat)
  case atStart => exact ⟨_, _, rfl, rfl, r40, r42⟩
  case round =>
    obtain ⟨y, j, rfl, rfl, j0, j1⟩ := hrel
    by_cases hj : 0 < j
    · go_wp2
      go_round
      case rel => exact ⟨_, _, rfl, rfl, by omega, by omega⟩
      case measure => simp [intOf]; omega
    · go_wp2_with fail
      refine (drawValue_any _ _ _ _ _ H4.out.1).mono ?_
      rintro e w5 ⟨z, rfl, z0, z1, hs5, hg5⟩
      have H5 := Lib.hid (And.intro hs5 (below_draw H4.out.2 hg5 HP.out H4.out.2.size))
      clear hs5 hg5
      go_wp2_with fail
      refine (pick_new [y, y, z] 2 3 _ _ _ _ w5 H5.out.1 (by simp) (by simp)).mono ?_
      rintro e w6 ⟨u, rfl, hu, hs6, hg6⟩
      have H6 := Lib.hid (below_draw H5.out.2 hg6 HP.out H5.out.2.size)
      clear hs6 hg6 hu
      go_wp2
      go_ret2
      exact ⟨_, _, rfl, H6.out⟩
end Go.Proofs.Ytdbiaiimdokleaa
