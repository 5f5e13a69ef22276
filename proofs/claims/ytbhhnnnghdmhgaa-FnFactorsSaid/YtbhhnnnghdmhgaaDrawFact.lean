/- The draws of the law on factors: l01DrawNumber, l01DrawPrime, DrawFactorOf, DrawDivisorsOf, DrawValuationOf. -/
import Derived.Test.YtbhhnnnghdmhgaaLike
namespace Go.Proofs.Ytbhhnnnghdmhgaa
open Go.RowKit
set_option linter.unusedVariables false
set_option maxHeartbeats 400000 in
theorem drawNumber_any (o : Option Addr) (len cap p : Nat) (w : World) (hs : Src w o len cap p) :
    Calls Try.prog 48 #[.pointer (some ⟨p, 0, none⟩)] w (DrawnPost 0 1000001 o len cap p w) := by
  have HS := Lib.hid hs
  clear hs
  go_enter Try.func48, Try.ntmps48
  go_wp2_with fail
  refine (next_any _ _ _ _ _ _ (by omega) HS.out).mono ?_
  rintro e w1 ⟨r1, rfl, r10, r11, hs1, hg1, hz1⟩
  have H1 := Lib.hid (And.intro hs1 hg1)
  have r12 : r1 < 300 := by omega
  clear hs1 hg1 hz1 r11
  go_wp2_with fail
  refine (next_any _ _ _ _ _ _ (by omega) H1.out.1).mono ?_
  rintro e w2 ⟨r2, rfl, r20, r21, hs2, hg2, hz2⟩
  have H2 := Lib.hid (And.intro hs2 (grownBy_tr H1.out.2 hg2))
  have r22 : r2 < 1000000 := by omega
  clear hs2 hg2 hz2 r21
  go_wp2_with fail
  refine (next_any _ _ _ _ _ _ (by omega) H2.out.1).mono ?_
  rintro e w3 ⟨r3, rfl, r30, r31, hs3, hg3, hz3⟩
  have H3 := Lib.hid (And.intro hs3 (grownBy_tr H2.out.2 hg3))
  have r32 : r3 < 900 := by omega
  clear hs3 hg3 hz3 r31
  go_wp2_with fail
  refine (next_any _ _ _ _ _ _ (by omega) H3.out.1).mono ?_
  rintro e w4 ⟨r4, rfl, r40, r41, hs4, hg4, hz4⟩
  have H4 := Lib.hid (And.intro hs4 (grownBy_tr H3.out.2 hg4))
  have r42 : r4 < 5000 := by omega
  clear hs4 hg4 hz4 r41
  go_wp2_with fail
  refine (pick_new [1 + r1, 1 + r2, 720720, 1, 1000000, 1000001, 0, 30 * (1 + r3), 1 + r4] 2 9 o len cap p w4 H4.out.1 (by simp) (by simp)).mono ?_
  rintro e w5 ⟨x, rfl, hx, hs5, hg5⟩
  have hb : 0 ≤ x ∧ x ≤ 1000001 := by simp at hx; omega
  have H5 := Lib.hid (And.intro hb (And.intro hs5 (grownBy_tr H4.out.2 hg5)))
  clear hx hs5 hg5 hb
  go_wp2
  go_ret
  exact ⟨x, rfl, H5.out.1.1, H5.out.1.2, H5.out.2.1, H5.out.2.2⟩
set_option maxHeartbeats 400000 in
theorem drawPrime_any (o : Option Addr) (len cap p : Nat) (w : World) (hs : Src w o len cap p) :
    Calls Try.prog 52 #[.pointer (some ⟨p, 0, none⟩)] w (DrawnPost (-3) 101 o len cap p w) := by
  have HS := Lib.hid hs
  clear hs
  go_enter Try.func52, Try.ntmps52
  go_wp2_with fail
  refine (next_any _ _ _ _ _ _ (by omega) HS.out).mono ?_
  rintro e w1 ⟨r1, rfl, r10, r11, hs1, hg1, hz1⟩
  have H1 := Lib.hid (And.intro hs1 hg1)
  clear hs1 hg1 hz1 r11
  by_cases hr : r1 = 0
  · subst hr
    go_wp2_with fail
    refine (pick_new [1, 4, 0, 97, 101, -3, 9] 2 7 o len cap p w1 H1.out.1 (by simp) (by simp)).mono ?_
    rintro e w2 ⟨x, rfl, hx, hs2, hg2⟩
    have hb : -3 ≤ x ∧ x ≤ 101 := by simp at hx; omega
    have H2 := Lib.hid (And.intro hb (And.intro hs2 (grownBy_tr H1.out.2 hg2)))
    clear hx hs2 hg2 hb
    go_wp2
    go_ret
    exact ⟨x, rfl, H2.out.1.1, H2.out.1.2, H2.out.2.1, H2.out.2.2⟩
  · have hr' : (r1 == 0) = false := by simpa using hr
    clear hr
    go_wp2_with fail
    refine (pick_new [2, 3, 5, 7, 2, 3, 5, 11, 13, 17, 31] 2 11 o len cap p w1 H1.out.1 (by simp) (by simp)).mono ?_
    rintro e w2 ⟨x, rfl, hx, hs2, hg2⟩
    have hb : -3 ≤ x ∧ x ≤ 101 := by simp at hx; omega
    have H2 := Lib.hid (And.intro hb (And.intro hs2 (grownBy_tr H1.out.2 hg2)))
    clear hx hs2 hg2 hb
    go_wp2
    go_ret
    exact ⟨x, rfl, H2.out.1.1, H2.out.1.2, H2.out.2.1, H2.out.2.2⟩
theorem drawFactorOf_any (o : Option Addr) (len cap : Nat) (w : World) (hl : len ≤ 4096) (hc : CodeIn w o len) :
    Calls Try.prog 20 #[.slice o len cap] w (OnePost w) := by
  have HC := Lib.hid hc
  clear hc
  go_enter Try.func20, Try.ntmps20
  go_wp2_with fail
  refine (from_any _ _ _ _ hl HC.out).mono ?_
  rintro e w1 ⟨p, rfl, hp, hs1, hb1⟩
  have H1 := Lib.hid (And.intro hs1 hb1)
  have HP := Lib.hid hp
  clear hs1 hb1 hp
  go_wp2_with fail
  refine (drawNumber_any _ _ _ _ _ H1.out.1).mono ?_
  rintro e w2 ⟨x, rfl, x0, x1, hs2, hg2⟩
  have H2 := Lib.hid (below_draw H1.out.2 hg2 HP.out H1.out.2.size)
  clear hs2 hg2
  go_wp2
  go_ret
  exact ⟨_, rfl, H2.out⟩
theorem drawDivisorsOf_any (o : Option Addr) (len cap : Nat) (w : World) (hl : len ≤ 4096) (hc : CodeIn w o len) :
    Calls Try.prog 23 #[.slice o len cap] w (OnePost w) := by
  have HC := Lib.hid hc
  clear hc
  go_enter Try.func23, Try.ntmps23
  go_wp2_with fail
  refine (from_any _ _ _ _ hl HC.out).mono ?_
  rintro e w1 ⟨p, rfl, hp, hs1, hb1⟩
  have H1 := Lib.hid (And.intro hs1 hb1)
  have HP := Lib.hid hp
  clear hs1 hb1 hp
  go_wp2_with fail
  refine (drawNumber_any _ _ _ _ _ H1.out.1).mono ?_
  rintro e w2 ⟨x, rfl, x0, x1, hs2, hg2⟩
  have H2 := Lib.hid (below_draw H1.out.2 hg2 HP.out H1.out.2.size)
  clear hs2 hg2
  go_wp2
  go_ret
  exact ⟨_, rfl, H2.out⟩
set_option maxHeartbeats 800000 in
theorem drawValuationOf_any (o : Option Addr) (len cap : Nat) (w : World) (hl : len ≤ 4096) (hc : CodeIn w o len) :
    Calls Try.prog 26 #[.slice o len cap] w (TwoPost w) := by
  have HC := Lib.hid hc
  clear hc
  go_enter Try.func26, Try.ntmps26
  go_wp2_with fail
  refine (from_any _ _ _ _ hl HC.out).mono ?_
  rintro e w1 ⟨p, rfl, hp, hs1, hb1⟩
  have H1 := Lib.hid (And.intro hs1 hb1)
  have HP := Lib.hid hp
  clear hs1 hb1 hp
  go_wp2_with fail
  refine (drawPrime_any _ _ _ _ _ H1.out.1).mono ?_
  rintro e w2 ⟨x, rfl, x0, x1, hs2, hg2⟩
  have H2 := Lib.hid (And.intro hs2 (below_draw H1.out.2 hg2 HP.out H1.out.2.size))
  clear hs2 hg2
  go_wp2_with fail
  refine (next_any _ _ _ _ _ _ (by omega) H2.out.1).mono ?_
  rintro e w3 ⟨r3, rfl, r30, r31, hs3, hg3, hz3⟩
  have H3 := Lib.hid (And.intro hs3 (below_draw H2.out.2 hg3 HP.out H2.out.2.size))
  have r32 : r3 < 201 := by omega
  clear hs3 hg3 hz3 r31
  go_wp2_with fail
  refine (next_any _ _ _ _ _ _ (by omega) H3.out.1).mono ?_
  rintro e w4 ⟨r4, rfl, r40, r41, hs4, hg4, hz4⟩
  have H4 := Lib.hid (And.intro hs4 (below_draw H3.out.2 hg4 HP.out H3.out.2.size))
  have r42 : r4 < 5 := by omega
  clear hs4 hg4 hz4 r41
  go_wp2_with fail
  go_loop [6, 7] (fun n k => ∃ y j : Int, n = .int .i64 y ∧ k = .int .i64 j ∧ 0 ≤ j ∧ j < 5) (fun _ k => (intOf k).toNat)
  case atStart => exact ⟨_, _, rfl, rfl, r40, r42⟩
  case round =>
    obtain ⟨y, j, rfl, rfl, j0, j1⟩ := hrel
    by_cases hj : 0 < j
    · go_wp2
      go_round
      case rel => exact ⟨_, _, rfl, rfl, by omega, by omega⟩
      case measure => simp [intOf]; omega
    · go_wp2_with fail
      refine (drawValue_any _ _ _ _ _ H4.out.1).mono ?_
      rintro e w5 ⟨z, rfl, z0, z1, hs5, hg5⟩
      have H5 := Lib.hid (And.intro hs5 (below_draw H4.out.2 hg5 HP.out H4.out.2.size))
      clear hs5 hg5
      go_wp2_with fail
      refine (pick_new [y, y, z] 2 3 _ _ _ _ w5 H5.out.1 (by simp) (by simp)).mono ?_
      rintro e w6 ⟨u, rfl, hu, hs6, hg6⟩
      have H6 := Lib.hid (below_draw H5.out.2 hg6 HP.out H5.out.2.size)
      clear hs6 hg6 hu
      go_wp2
      go_ret2
      exact ⟨_, _, rfl, H6.out⟩
end Go.Proofs.Ytbhhnnnghdmhgaa
