/- The draws of chapter 1's laws on common divisors, and the walk of the law FnCommon: true for every code; below the old memory nothing has turned. -/
import Derived.Test.YtbhhnnnghdmhgaaFrom
import Derived.Test.YtbhhnnnghdmhgaaBez
namespace Go.Proofs.Ytbhhnnnghdmhgaa
open Go.RowKit
set_option linter.unusedVariables false
theorem prod_bd {k r : Int} (h1 : 1 ≤ k) (h2 : k ≤ 40) (h3 : 0 ≤ r) (h4 : r ≤ 200) : -4000 ≤ k * (r - 100) ∧ k * (r - 100) ≤ 4000 := by
  have : (k * (r - 100)).natAbs ≤ 40 * 100 := by
    rw [Int.natAbs_mul]; exact Nat.mul_le_mul (by omega) (by omega)
  omega
/-- two numbers, drawn -/
def TwoPost (w : World) (e : Ending) (w' : World) : Prop := ∃ a b : Int, e = .returned (.tuple #[.int .i64 a, .int .i64 b]) ∧ Below w.heap.size w w'
def OnePost (w : World) (e : Ending) (w' : World) : Prop := ∃ a : Int, e = .returned (.int .i64 a) ∧ Below w.heap.size w w'
/-- a step of drawing, below the source's block -/
theorem below_draw {B p : Nat} {a w w' : World} (h : Below B a w) (hg : w.grownBy w' (some p)) (hp : B ≤ p) (hw : B ≤ w.heap.size) : Below B a w' :=
  h.grown hg hw (fun k hk => by cases hk; exact hp)
set_option maxHeartbeats 800000 in
theorem drawCommon_any (o : Option Addr) (len cap : Nat) (w : World) (hl : len ≤ 4096) (hc : CodeIn w o len) :
    Calls Try.prog 37 #[.slice o len cap] w (TwoPost w) := by
  have HC := Lib.hid hc
  clear hc
  go_enter Try.func37, Try.ntmps37
  go_wp2_with fail
  refine (from_any _ _ _ _ hl HC.out).mono ?_
  rintro e w1 ⟨p, rfl, hp, hs1, hb1⟩
  have H1 := Lib.hid (And.intro hs1 hb1)
  have HP := Lib.hid hp
  clear hs1 hb1 hp
  go_wp2_with fail
  refine (next_any _ _ _ _ _ _ (by omega) H1.out.1).mono ?_
  rintro e w2 ⟨r, rfl, r0, r1, hs2, hg2, hz2⟩
  have H2 := Lib.hid (And.intro hs2 (below_draw H1.out.2 hg2 HP.out H1.out.2.size))
  have r2 : r < 40 := by omega
  clear hs2 hg2 hz2 r1
  go_wp2_with fail
  refine (next_any _ _ _ _ _ _ (by omega) H2.out.1).mono ?_
  rintro e w3 ⟨q, rfl, q0, q1, hs3, hg3, hz3⟩
  have H3 := Lib.hid (And.intro hs3 (below_draw H2.out.2 hg3 HP.out H2.out.2.size))
  have q2 : q < 201 := by omega
  have b3 := prod_bd (k := 1 + r) (r := q) (by omega) (by omega) q0 (by omega)
  clear hs3 hg3 hz3 q1
  go_wp2_with fail
  refine (next_any _ _ _ _ _ _ (by omega) H3.out.1).mono ?_
  rintro e w4 ⟨u, rfl, u0, u1, hs4, hg4, hz4⟩
  have H4 := Lib.hid (And.intro hs4 (below_draw H3.out.2 hg4 HP.out H3.out.2.size))
  have u2 : u < 201 := by omega
  have b4 := prod_bd (k := 1 + r) (r := u) (by omega) (by omega) u0 (by omega)
  clear hs4 hg4 hz4 u1
  go_wp2_with fail
  refine (drawValue_any _ _ _ _ _ H4.out.1).mono ?_
  rintro e w5 ⟨x, rfl, x0, x1, hs5, hg5⟩
  have H5 := Lib.hid (And.intro hs5 (below_draw H4.out.2 hg5 HP.out H4.out.2.size))
  clear hs5 hg5
  go_wp2_with fail
  refine (pick_new [(1 + r) * (u - 100), x, 0] 2 3 _ _ _ _ w5 H5.out.1 (by simp) (by simp)).mono ?_
  rintro e w6 ⟨y, rfl, hy, hs6, hg6⟩
  have H6 := Lib.hid (below_draw H5.out.2 hg6 HP.out H5.out.2.size)
  clear hs6 hg6 hy
  go_wp2
  go_ret2
  exact ⟨_, _, rfl, H6.out⟩
theorem drawBezout_any (o : Option Addr) (len cap : Nat) (w : World) (hl : len ≤ 4096) (hc : CodeIn w o len) :
    Calls Try.prog 12 #[.slice o len cap] w (TwoPost w) := by
  have HC := Lib.hid hc
  clear hc
  go_enter Try.func12, Try.ntmps12
  go_wp2_with fail
  refine (drawCommon_any _ _ _ _ hl HC.out).mono ?_
  rintro e w1 ⟨a, b, rfl, hb⟩
  have H1 := Lib.hid hb
  clear hb
  go_wp2
  go_ret2
  exact ⟨_, _, rfl, H1.out⟩
set_option maxHeartbeats 400000 in
theorem drawIsPrime_any (o : Option Addr) (len cap : Nat) (w : World) (hl : len ≤ 4096) (hc : CodeIn w o len) :
    Calls Try.prog 17 #[.slice o len cap] w (OnePost w) := by
  have HC := Lib.hid hc
  clear hc
  go_enter Try.func17, Try.ntmps17
  go_wp2_with fail
  refine (from_any _ _ _ _ hl HC.out).mono ?_
  rintro e w1 ⟨p, rfl, hp, hs1, hb1⟩
  have H1 := Lib.hid (And.intro hs1 hb1)
  have HP := Lib.hid hp
  clear hs1 hb1 hp
  go_wp2_with fail
  refine (next_any _ _ _ _ _ _ (by omega) H1.out.1).mono ?_
  rintro e w2 ⟨r, rfl, r0, r1, hs2, hg2, hz2⟩
  have H2 := Lib.hid (And.intro hs2 (below_draw H1.out.2 hg2 HP.out H1.out.2.size))
  clear hs2 hg2 hz2 r1
  go_wp2_with fail
  refine (next_any _ _ _ _ _ _ (by omega) H2.out.1).mono ?_
  rintro e w3 ⟨q, rfl, q0, q1, hs3, hg3, hz3⟩
  have H3 := Lib.hid (And.intro hs3 (below_draw H2.out.2 hg3 HP.out H2.out.2.size))
  clear hs3 hg3 hz3 q1
  go_wp2_with fail
  refine (pick_new [r, q, 2, 1, 0, 999983, 1000003, -7, 961] 2 9 _ _ _ _ w3 H3.out.1 (by simp) (by simp)).mono ?_
  rintro e w4 ⟨y, rfl, hy, hs4, hg4⟩
  have H4 := Lib.hid (below_draw H3.out.2 hg4 HP.out H3.out.2.size)
  clear hs4 hg4 hy
  go_wp2
  go_ret
  exact ⟨_, rfl, H4.out⟩
theorem big_no (o : Option Addr) (len cap : Nat) (w : World) (hl : len ≤ 4096) :
    Calls Try.prog 11 #[.slice o len cap] w fun e w' => e = .returned (.bool false) ∧ w = w' := by
  go_enter Try.func11, Try.ntmps11
  go_wp2
  go_ret
  exact ⟨ret_bool (decide_eq_false (by omega)), rfl⟩
theorem big_yes (o : Option Addr) (len cap : Nat) (w : World) (hl : 4096 < len) (hm : len ≤ 9223372036854775807) :
    Calls Try.prog 11 #[.slice o len cap] w fun e w' => e = .returned (.bool true) ∧ w = w' := by
  go_enter Try.func11, Try.ntmps11
  go_wp2
  go_ret
  exact ⟨ret_bool (decide_eq_true (by omega)), rfl⟩
theorem codeIn_below {w w' : World} {B : Nat} {o : Option Addr} {len : Nat} (h : CodeIn w o len) (hb : Below w.heap.size w w') : CodeIn w' o len := by
  rcases h with h | ⟨b, off, ho, hlt, hc⟩
  · exact .inl h
  · exact .inr ⟨b, off, ho, Nat.lt_of_lt_of_le hlt hb.size, fun i hi => by rw [hb.cell (by exact hlt)]; exact hc i hi⟩
end Go.Proofs.Ytbhhnnnghdmhgaa
