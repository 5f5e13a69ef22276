/- The walk of the law FnRootsOfPrimes: true for every code; below the old memory nothing has turned. -/
import Derived.Test.YtbolmmgkmgmfeaaDrawRes
import Derived.Test.YtbolmmgkmgmfeaaCommonFn
import Derived.Test.YtbolmmgkmgmfeaaRoot
import Derived.Test.YtbolmmgkmgmfeaaSquare
import Derived.Test.YtbolmmgkmgmfeaaDice
namespace Go.Proofs.Ytbolmmgkmgmfeaa
open Go.RowKit
set_option linter.unusedVariables false
theorem drawRoot_any (o : Option Addr) (len cap : Nat) (w : World) (hl : len ≤ 4096) (hc : CodeIn w o len) :
    Calls Try.prog 11 #[.slice o len cap] w fun e w' => ∃ p : Int, e = .returned (.int .i64 p) ∧ -3 ≤ p ∧ p ≤ 101 ∧ Below w.heap.size w w' := by
  have HC := Lib.hid hc
  clear hc
  go_enter Try.func11, Try.ntmps11
  go_wp2_with fail
  refine (from_any _ _ _ _ hl HC.out).mono ?_
  rintro e w1 ⟨p, rfl, hp, hs1, hb1⟩
  have H1 := Lib.hid (And.intro hs1 hb1)
  have HP := Lib.hid hp
  clear hs1 hb1 hp
  go_wp2_with fail
  refine (drawPrime_any _ _ _ _ _ H1.out.1).mono ?_
  rintro e w2 ⟨x, rfl, x0, x1, hs2, hg2⟩
  have H2 := Lib.hid (below_draw H1.out.2 hg2 HP.out H1.out.2.size)
  clear hs2 hg2
  go_wp2
  go_ret
  exact ⟨_, rfl, x0, x1, H2.out⟩
set_option maxHeartbeats 800000 in
theorem drawSquare_any (o : Option Addr) (len cap : Nat) (w : World) (hl : len ≤ 4096) (hc : CodeIn w o len) :
    Calls Try.prog 14 #[.slice o len cap] w (TwoPost w) := by
  have HC := Lib.hid hc
  clear hc
  go_enter Try.func14, Try.ntmps14
  go_wp2_with fail
  refine (from_any _ _ _ _ hl HC.out).mono ?_
  rintro e w1 ⟨p, rfl, hp, hs1, hb1⟩
  have H1 := Lib.hid (And.intro hs1 hb1)
  have HP := Lib.hid hp
  clear hs1 hb1 hp
  go_wp2_with fail
  refine (drawPrime_any _ _ _ _ _ H1.out.1).mono ?_
  rintro e w2 ⟨x, rfl, x0, x1, hs2, hg2⟩
  have H2 := Lib.hid (And.intro hs2 (below_draw H1.out.2 hg2 HP.out H1.out.2.size))
  clear hs2 hg2
  go_wp2_with fail
  refine (next_any _ _ _ _ _ _ (by omega) H2.out.1).mono ?_
  rintro e w3 ⟨r3, rfl, r30, r31, hs3, hg3, hz3⟩
  have H3 := Lib.hid (And.intro hs3 (below_draw H2.out.2 hg3 HP.out H2.out.2.size))
  have r32 : r3 < 401 := by omega
  clear hs3 hg3 hz3 r31
  go_wp2_with fail
  refine (drawValue_any _ _ _ _ _ H3.out.1).mono ?_
  rintro e w4 ⟨y, rfl, y0, y1, hs4, hg4⟩
  have H4 := Lib.hid (And.intro hs4 (below_draw H3.out.2 hg4 HP.out H3.out.2.size))
  clear hs4 hg4
  go_wp2_with fail
  refine (pick_new [r3 - 200, y, x, 0] 2 4 _ _ _ _ w4 H4.out.1 (by simp) (by simp)).mono ?_
  rintro e w5 ⟨z, rfl, hz, hs5, hg5⟩
  have H5 := Lib.hid (below_draw H4.out.2 hg5 HP.out H4.out.2.size)
  clear hs5 hg5 hz
  go_wp2
  go_ret2
  exact ⟨_, _, rfl, H5.out⟩
theorem leg_facts {q a : Int} (h : legC q a = 0) : smallB q = true ∧ valueB a = true ∧ (a.tmod q == 0) = (legV q a == 0) := by
  have hs : smallB q = true := by
    cases hs : smallB q
    · simp [legC, hs] at h
    · rfl
  have hv : valueB a = true := by
    cases hv : valueB a
    · simp [legC, hs, hv] at h
    · rfl
  obtain ⟨h1, h2⟩ := smallB_bd hs
  refine ⟨hs, hv, ?_⟩
  have e : legV q a = lgV q a := by simp [legV, h]
  rw [e]
  have ht : a.tmod q % q = a % q := tmod_self a q
  have hb := tmod_bd (x := a) (show 0 < q by omega)
  by_cases hz : a % q = 0
  · have : a.tmod q = 0 := by
      rw [hz] at ht
      have := Int.dvd_of_emod_eq_zero ht
      obtain ⟨c, hc⟩ := this
      rcases Int.lt_trichotomy c 0 with hc0 | hc0 | hc0
      · have : q * c ≤ q * (-1) := Int.mul_le_mul_of_nonneg_left (by omega) (by omega)
        omega
      · subst hc0; simpa using hc
      · have : q * 1 ≤ q * c := Int.mul_le_mul_of_nonneg_left (by omega) (by omega)
        omega
    rw [this]; simp [lgV, hz]
  · have : a.tmod q ≠ 0 := by intro h0; rw [h0] at ht; simp at ht; omega
    have h3 : lgV q a ≠ 0 := by
      unfold lgV sqV; rw [if_neg hz]; split <;> omega
    rw [beq_eq_false_iff_ne.2 this, beq_eq_false_iff_ne.2 h3]
theorem own_facts {q x : Int} (hs : smallB q = true) (h0 : 0 ≤ x) (h1 : x < q) : 0 ≤ x * x ∧ x * x ≤ 9409 ∧ legC q (x * x) = 0 ∧ 0 ≤ legV q (x * x) := by
  obtain ⟨q2, q97⟩ := smallB_bd hs
  obtain ⟨k, rfl⟩ : ∃ k : Nat, x = k := ⟨x.toNat, by omega⟩
  have hb := sq_small q97 (show (k : Int) ≤ q by omega)
  have hv : valueB ((k : Int) * k) = true := valueB_t (by omega) (by omega)
  have hc : legC q ((k : Int) * k) = 0 := by simp [legC, hs, hv]
  refine ⟨hb.1, hb.2, hc, ?_⟩
  simp only [legV, hc, if_true]
  unfold lgV
  split
  · omega
  · rw [sqV_t (sq_found h1 rfl)]; omega
theorem root_facts {p : Int} (h : prC p = 0) : unitC p 1 (prV p) = 0 ∧ ordR p 1 (prV p) = p - 1 ∧ 2 ≤ p ∧ p ≤ 97 := by
  have hs : smallB p = true := by
    cases hs : smallB p
    · simp [prC, hs] at h
    · rfl
  obtain ⟨p2, p97⟩ := smallB_bd hs
  obtain ⟨g, hg⟩ := root_least hs
  have e : prV p = g := by simp [prV, hs, rootV_eq hg]
  have hm := ringM_one hs
  have hu := unit_small (p := p) hg.1 hg.2.1
  have hr : resC p 1 (g : Int) = 0 := by
    unfold resC; rw [hm, if_neg (by omega), if_pos ⟨by omega, hg.2.1⟩]
  have hc : unitC p 1 (g : Int) = 0 := by unfold unitC; rw [hr, if_pos rfl, if_neg hu]
  rw [e]
  refine ⟨hc, ?_, p2, p97⟩
  unfold ordR; rw [if_pos hc, hm]; exact hg.2.2.1
set_option maxRecDepth 100000 in
set_option maxHeartbeats 1600000 in
theorem roots_core (o : Option Addr) (len cap : Nat) (w : World) (hl : len ≤ 4096) (hc : CodeIn w o len) :
    Calls Try.prog 3 #[.slice o len cap] w fun e w' => e = .returned (.bool true) ∧ Below w.heap.size w w' := by
  have HC := Lib.hid hc
  clear hc
  go_enter Try.func3, Try.ntmps3
  go_wp2_with (go_at_call 10; refine (big_no _ _ _ _ hl).mono ?_; rintro e w' ⟨rfl, rfl⟩)
  refine (drawRoot_any _ _ _ _ hl HC.out).mono ?_
  rintro e w1 ⟨p, rfl, p0, p1, hb1⟩
  have B1 := Lib.hid hb1
  clear hb1
  go_wp2_with (go_at_call 12; refine (implRoot_any _ _).mono ?_; rintro e w2 ⟨rfl, hb2⟩)
  have B2 := Lib.hid (ring_two B1.out hb2)
  clear hb2
  go_wp2_with (go_at_call 13; refine (specRoot_any _ _).mono ?_; rintro e w3 ⟨rfl, hb3⟩)
  have B3 := Lib.hid (ring_two B2.out hb3)
  clear hb3
  refine (drawSquare_any _ _ _ _ hl (codeIn_below (B := w.heap.size) HC.out B3.out)).mono ?_
  rintro e w4 ⟨q, a, rfl, hb4⟩
  have B4 := Lib.hid (ring_two B3.out hb4)
  clear hb4
  by_cases h1 : legC q a = 0
  · obtain ⟨hs, hv, he⟩ := leg_facts h1
    obtain ⟨q2, q97⟩ := smallB_bd hs
    have hab := valueB_bd hv
    have HS := Lib.hid hs
    have hpr : isPrimeB q = true := by rw [isPrimeB_in q2 (by omega), ← smallB_in q2 q97]; exact hs
    have h1' : (legC q a == 0) = true := by simp [h1]
    have hq0 : (q == 0) = false := by simp; omega
    clear h1 hs hv
    cases hz : (a.tmod q == 0)
    · have g1 : (a.tmod q == 0) = false := hz
      have g2 : (legV q a == 0) = false := by rw [← he]; exact hz
      clear hz he
      go_wp2_with (first | (go_at_call 15; refine (implSquare_any _ _ _).mono ?_; rintro e w' ⟨rfl, rfl⟩) | (go_at_call 16; refine (specSquare_any _ _ _).mono ?_; rintro e w' ⟨rfl, rfl⟩) | (go_at_call 17; refine (implIsPrime_any _ _).mono ?_; rintro e w' ⟨rfl, rfl⟩))
      refine (roll_any o len cap _ hl (codeIn_below (B := w.heap.size) HC.out B4.out)).mono ?_
      rintro e w5 ⟨b, z, rfl, hb0, hd, hb5⟩
      have B5 := Lib.hid (ring_two B4.out hb5)
      have HD := Lib.hid hd
      have hwb : w.heap.size ≤ b := Nat.le_trans B4.out.size hb0
      clear hd hb5 hb0
      go_wp2_with fail
      refine (below_any o len cap b 0 z q _ q2 q97 HD.out).mono ?_
      rintro e w6 ⟨x, rfl, x0, x1, hb6⟩
      obtain ⟨f1, f2, f3, f4⟩ := own_facts HS.out x0 x1
      have BX := Lib.hid (B5.out.trans (hb6.mono hwb))
      have f3' : (legC q (x * x) != 0) = false := by simp [f3]
      have f4' : decide (legV q (x * x) < 0) = false := decide_eq_false (by omega)
      clear hb6 f3
      by_cases hp : prC p = 0
      · obtain ⟨u1, u2, u3, u4⟩ := root_facts hp
        have hp' : (prC p != 0) = false := by simp [hp]
        have u1' : (unitC p 1 (prV p) == 0) = true := by simp [u1]
        have u2' : (ordR p 1 (prV p) == p - 1) = true := by simp [u2]
        clear hp u1 u2
        go_wp2_with (first | (go_at_call 15; refine (implSquare_any _ _ _).mono ?_; rintro e w' ⟨rfl, rfl⟩) | (go_at_call 20; refine (implOrder_any _ _ _ _).mono ?_; rintro e w7 ⟨rfl, hb7⟩))
        go_ret
        exact ⟨rfl, ring_two BX.out hb7⟩
      · have hp' : (prC p != 0) = true := by simp [hp]
        clear hp
        go_wp2_with (go_at_call 15; refine (implSquare_any _ _ _).mono ?_; rintro e w' ⟨rfl, rfl⟩)
        go_ret
        exact ⟨rfl, BX.out⟩
    · have g1 : (a.tmod q == 0) = true := hz
      have g2 : (legV q a == 0) = true := by rw [← he]; exact hz
      clear hz he
      go_wp2_with (first | (go_at_call 15; refine (implSquare_any _ _ _).mono ?_; rintro e w' ⟨rfl, rfl⟩) | (go_at_call 16; refine (specSquare_any _ _ _).mono ?_; rintro e w' ⟨rfl, rfl⟩) | (go_at_call 17; refine (implIsPrime_any _ _).mono ?_; rintro e w' ⟨rfl, rfl⟩))
      refine (roll_any o len cap _ hl (codeIn_below (B := w.heap.size) HC.out B4.out)).mono ?_
      rintro e w5 ⟨b, z, rfl, hb0, hd, hb5⟩
      have B5 := Lib.hid (ring_two B4.out hb5)
      have HD := Lib.hid hd
      have hwb : w.heap.size ≤ b := Nat.le_trans B4.out.size hb0
      clear hd hb5 hb0
      go_wp2_with fail
      refine (below_any o len cap b 0 z q _ q2 q97 HD.out).mono ?_
      rintro e w6 ⟨x, rfl, x0, x1, hb6⟩
      obtain ⟨f1, f2, f3, f4⟩ := own_facts HS.out x0 x1
      have BX := Lib.hid (B5.out.trans (hb6.mono hwb))
      have f3' : (legC q (x * x) != 0) = false := by simp [f3]
      have f4' : decide (legV q (x * x) < 0) = false := decide_eq_false (by omega)
      clear hb6 f3
      by_cases hp : prC p = 0
      · obtain ⟨u1, u2, u3, u4⟩ := root_facts hp
        have hp' : (prC p != 0) = false := by simp [hp]
        have u1' : (unitC p 1 (prV p) == 0) = true := by simp [u1]
        have u2' : (ordR p 1 (prV p) == p - 1) = true := by simp [u2]
        clear hp u1 u2
        go_wp2_with (first | (go_at_call 15; refine (implSquare_any _ _ _).mono ?_; rintro e w' ⟨rfl, rfl⟩) | (go_at_call 20; refine (implOrder_any _ _ _ _).mono ?_; rintro e w7 ⟨rfl, hb7⟩))
        go_ret
        exact ⟨rfl, ring_two BX.out hb7⟩
      · have hp' : (prC p != 0) = true := by simp [hp]
        clear hp
        go_wp2_with (go_at_call 15; refine (implSquare_any _ _ _).mono ?_; rintro e w' ⟨rfl, rfl⟩)
        go_ret
        exact ⟨rfl, BX.out⟩
  · have h1' : (legC q a == 0) = false := by simp [h1]
    have BX := B4
    clear h1
    by_cases hp : prC p = 0
    · obtain ⟨u1, u2, u3, u4⟩ := root_facts hp
      have hp' : (prC p != 0) = false := by simp [hp]
      have u1' : (unitC p 1 (prV p) == 0) = true := by simp [u1]
      have u2' : (ordR p 1 (prV p) == p - 1) = true := by simp [u2]
      clear hp u1 u2
      go_wp2_with (first | (go_at_call 15; refine (implSquare_any _ _ _).mono ?_; rintro e w' ⟨rfl, rfl⟩) | (go_at_call 16; refine (specSquare_any _ _ _).mono ?_; rintro e w' ⟨rfl, rfl⟩) | (go_at_call 20; refine (implOrder_any _ _ _ _).mono ?_; rintro e w7 ⟨rfl, hb7⟩))
      go_ret
      exact ⟨rfl, ring_two BX.out hb7⟩
    · have hp' : (prC p != 0) = true := by simp [hp]
      clear hp
      go_wp2_with (first | (go_at_call 15; refine (implSquare_any _ _ _).mono ?_; rintro e w' ⟨rfl, rfl⟩) | (go_at_call 16; refine (specSquare_any _ _ _).mono ?_; rintro e w' ⟨rfl, rfl⟩))
      go_ret
      exact ⟨rfl, BX.out⟩
set_option maxRecDepth 100000 in
theorem roots_walk (a : Option Addr) (len cap : Nat) (zs : List Int) (w : World) (h : IsRowOf .u8 w a len cap zs) :
    Calls Try.prog 3 #[.slice a len cap] w fun e w' => e = .returned (.bool true) ∧ Below w.heap.size w w' := by
  obtain ⟨hc, hm⟩ := codeIn_of h
  by_cases hl : len ≤ 4096
  · exact roots_core a len cap w hl hc
  · clear hc h
    go_enter Try.func3, Try.ntmps3
    go_wp2_with (go_at_call 10; refine (big_yes _ _ _ _ (by omega) (by omega)).mono ?_; rintro e w' ⟨rfl, rfl⟩)
    go_ret
    exact ⟨rfl, Below.refl _ _⟩
end Go.Proofs.Ytbolmmgkmgmfeaa
