/- Walk of the law FnExactPolynomialText: true at every input. -/
import Derived.Test.YtcennddgbpkclaaDoorPolyTxt3
import Derived.Test.YtcennddgbpkclaaDoorPolyLaw0
namespace Go.Proofs.YtcennddgbpkclaaDoor
open Go.RowKit
set_option linter.unusedVariables false
set_option linter.unusedSimpArgs false
set_option maxRecDepth 20000 in
set_option maxHeartbeats 1000000 in
theorem exactPText6_core (af : Option Addr) (capf : Nat) (f : List Int) (w : World) (hf : f.length ≤ 1048576) (kf : ArgInt w af f) (ht : Tab w) :
    Calls Tryd.prog 4 #[.slice af f.length capf] w fun e w' => e = .returned (.bool true) ∧ Below w.heap.size w w' := by
  have HA0 := Lib.hid kf
  have HTB := Lib.hid ht
  have HT0 := Lib.hid fun (w : World) (h : ArgInt w af f) => toInt64S_any af capf f w hf h
  have hnf : (0 : Int) ≤ (f.length : Int) := Int.natCast_nonneg _
  have HS := Lib.hid fun (w : World) (b : Nat) (o : Option Addr) (c : Nat) (h : IntRow b w (.slice o f.length c) f) => specPText_any (row_seen h (show f.length ≤ 1100000 by omega))
  have HI := Lib.hid fun (w : World) (b : Nat) (o : Option Addr) (c : Nat) (h : IntRow b w (.slice o f.length c) f) (ht : Tab w) => implPText_any (row_seen h (show f.length ≤ 1100000 by omega)) ht
  generalize bsOf (ptQ f) = q at *
  generalize ptC f = c at *
  have hqq : (q.toList == q.toList) = true := by simp
  have B0 := Lib.hid (Below.refl w.heap.size w)
  clear kf ht
  go_enter Tryd.func4, Tryd.ntmps4
  go_wp2_with fail
  refine (HT0.out _ (argInt_below HA0.out B0.out)).mono ?_
  rintro e W1 ⟨v1, rfl, r1, b1⟩
  obtain ⟨o1, c1, rfl⟩ := row_slice r1
  have B1 := Lib.hid (B0.out.trans (b1.mono B0.out.size))
  have R_s_1 := Lib.hid r1
  clear r1 b1
  go_wp2_with fail
  refine (HS.out _ _ _ _ R_s_1.out).mono ?_
  rintro e W2 ⟨rfl, b2⟩
  have B2 := Lib.hid (B1.out.trans (b2.mono B1.out.size))
  have R_s_2 := Lib.hid (row_below R_s_1.out b2 (Nat.le_refl _))
  clear b2
  go_wp2_with fail
  refine (HT0.out _ (argInt_below HA0.out B2.out)).mono ?_
  rintro e W3 ⟨v3, rfl, r3, b3⟩
  obtain ⟨o3, c3, rfl⟩ := row_slice r3
  have B3 := Lib.hid (B2.out.trans (b3.mono B2.out.size))
  have R_x_3 := Lib.hid r3
  clear r3 b3
  go_wp2_with fail
  refine (HI.out _ _ _ _ R_x_3.out (tab_below HTB.out B3.out (Nat.le_refl _))).mono ?_
  rintro e W4 ⟨rfl, b4⟩
  have B4 := Lib.hid (B3.out.trans (b4.mono B3.out.size))
  have R_x_4 := Lib.hid (row_below R_x_3.out b4 (Nat.le_refl _))
  clear b4
  go_wp2_with fail
  refine (HT0.out _ (argInt_below HA0.out B4.out)).mono ?_
  rintro e W5 ⟨v5, rfl, r5, b5⟩
  obtain ⟨o5, c5, rfl⟩ := row_slice r5
  have B5 := Lib.hid (B4.out.trans (b5.mono B4.out.size))
  have R_x_5 := Lib.hid (row_below R_x_4.out b5 (Nat.le_refl _))
  have R_t_5 := Lib.hid r5
  clear r5 b5
  go_wp2_with fail
  refine (eqInt_same R_x_5.out R_t_5.out (by omega)).mono ?_
  rintro e W6 ⟨rfl, nd, hw⟩
  have b6 : Below W5.heap.size W5 W6 := by rw [hw]; exact below_drewN (Below.refl _ _) nd
  clear hw nd
  have B6 := Lib.hid (B5.out.trans (b6.mono B5.out.size))
  have R_x_6 := Lib.hid (row_below R_x_5.out b6 (Nat.le_refl _))
  have R_t_6 := Lib.hid (row_below R_t_5.out b6 (Nat.le_refl _))
  clear b6
  go_wp2_with fail
  go_ret
  exact ⟨rfl, B6.out⟩
theorem exactPText6_walk (af : Option Addr) (lenf capf : Nat) (zf : List Int) (w : World)
    (hf : (af = none ∧ lenf = 0 ∧ capf = 0 ∧ zf = []) ∨ ∃ x, af = some x ∧ lenf ≤ capf ∧ capf ≤ maxLen ∧ zf.length = capf ∧ (∀ i, i < zf.length → w.cell? (x.add i) = some (.int .i64 (zf.getD i 0))) ∧ ∀ n ∈ zf, (Lit.int .i64 n).wf = true) (ht : Tab w) :
    Calls Tryd.prog 4 #[.slice af lenf capf] w fun e w' => e = .returned (.bool true) ∧ Below w.heap.size w w' := by
  have mf := len_of_row hf
  obtain ⟨lf, ef, kf⟩ := arg_of_row hf
  clear hf
  by_cases qf : lenf ≤ 1048576
  · subst ef
    exact exactPText6_core af capf lf w qf kf ht
  · clear kf ef
    go_enter Tryd.func4, Tryd.ntmps4
    go_wp2
    go_ret
    exact ⟨rfl, Below.refl _ _⟩
end Go.Proofs.YtcennddgbpkclaaDoor
