/- The walk of the law FnExactFactorOf: true for every integer; below the old memory nothing has turned. -/
import Derived.Test.YtbhhnnnghdmhgaaFact
import Derived.Test.YtbhhnnnghdmhgaaRow
namespace Go.Proofs.Ytbhhnnnghdmhgaa
open Go.RowKit
set_option linter.unusedVariables false
theorem pow_cells {base : Nat} {w : World} {g c : Nat} {l : List (Int × Int)} (h : PowRow base w (.slice (some ⟨g, 0, none⟩) l.length c) l) :
    ∀ k, k < l.length → w.cell? ⟨g, k * 2, none⟩ = some (.int .i64 (l.getD k (0, 0)).1) ∧ w.cell? ⟨g, k * 2 + 1, none⟩ = some (.int .i64 (l.getD k (0, 0)).2) := by
  intro k hk
  rw [World.ownsRow.cellAt h (k * 2) (by omega), World.ownsRow.cellAt h (k * 2 + 1) (by omega)]
  exact pc_get l k hk
theorem eqPow_same {b1 b2 : Nat} {w : World} {v1 v2 : Value} {l : List (Int × Int)} (h1 : PowRow b1 w v1 l) (h2 : PowRow b2 w v2 l) (hl : l.length ≤ 1000000) :
    Calls Try.prog 31 #[v1, v2] w fun e w' => e = .returned (.bool true) ∧ Below w.heap.size w w' := by
  rcases row_shape h1 with ⟨h0, o, c, rfl⟩ | ⟨h0, g, c, rfl, hb, hg⟩
  · rcases row_shape h2 with ⟨_, o', c', rfl⟩ | ⟨h0', _⟩
    · exact (eqPowerS_nil o o' c c' w).mono fun e w' ⟨he, hw⟩ => ⟨he, hw ▸ Below.refl _ _⟩
    · omega
  · rcases row_shape h2 with ⟨h0', _⟩ | ⟨_, g', c', rfl, hb', hg'⟩
    · omega
    · refine (eqPowerS_row g g' l.length c c' l l w hl hg hg' (pow_cells h1) (pow_cells h2)).mono fun e w' ⟨he, hw⟩ => ⟨?_, hw⟩
      rw [he]; exact ret_bool (decide_eq_true fun _ _ => rfl)
theorem markPow {b : Nat} {w : World} {v : Value} {l : List (Int × Int)} {q : Int} (h : PowRow b w v l) (hl : l.length ≤ 1000000) (h0 : 0 ≤ q) (h1 : q ≤ 1000000) :
    Calls Try.prog 32 #[v, .int .i64 q] w fun e w' => e = .returned (.int .i64 (q + (l.length : Int) * 2)) ∧ MarkedRow w' v l.length 2 q ∧ w.grownBy w' v.ownBlock := by
  rcases row_shape h with ⟨hz, o, c, rfl⟩ | ⟨hz, g, c, rfl, hb, hg⟩
  · refine (markPowerS_nil o c q w).mono fun e w' ⟨he, hw⟩ => ⟨?_, .inl ⟨hz, o, c, rfl⟩, hw ▸ World.grownBy.refl _ _⟩
    rw [he, hz]; exact ret_int (by simp)
  · refine (markPowerS_row g l.length c q w hl h0 h1 (fun o ho => ?_) (fun o => World.ownsRow.frozenAt h o)).mono fun e w' ⟨he, hm, _⟩ => ⟨he, .inr ⟨g, c, rfl, by have := hm.grown.size; omega, hm.marks⟩, hm.grown⟩
    rw [World.ownsRow.cellAt h o ho]
    have : o < (pc l).length := by rw [pc_length]; exact ho
    exact ⟨_, List.getElem?_eq_getElem this⟩
theorem heldPow {w : World} {v : Value} {n : Nat} {q : Int} (h : MarkedRow w v n 2 q) (hl : n ≤ 1000000) (h0 : 0 ≤ q) (h1 : q ≤ 1000000) :
    Calls Try.prog 33 #[v, .int .i64 q] w fun e w' => e = .returned (.int .i64 (q + (n : Int) * 2)) ∧ ∃ m, w' = w.drewN m := by
  rcases h with ⟨hz, o, c, rfl⟩ | ⟨g, c, rfl, hg, hc⟩
  · refine (heldPowerS_nil o c q w).mono fun e w' ⟨he, hw⟩ => ⟨?_, 0, hw.symm⟩
    rw [he, hz]; exact ret_int (by simp)
  · exact heldPowerS_row g n c q w hl h0 h1 hc
set_option maxHeartbeats 800000 in
theorem exactFact_core (n : Int) (w : World) (l : List (Int × Int)) (c : Int) (hl : l.length ≤ 2000)
    (hS : ∀ w, Calls Try.prog 22 #[.int .i64 n] w (PowPost l c w)) (hI : ∀ w, Calls Try.prog 21 #[.int .i64 n] w (PowPost l c w)) :
    Calls Try.prog 8 #[.int .i64 n] w fun e w' => e = .returned (.bool true) ∧ Below w.heap.size w w' := by
  have HS := Lib.hid hS
  have HI := Lib.hid hI
  clear hS hI
  go_enter Try.func8, Try.ntmps8
  go_wp2_with fail
  refine (HS.out _).mono ?_
  rintro e W1 ⟨v0, rfl, r0, b0⟩
  have R0 := Lib.hid r0; have B0 := Lib.hid b0; clear r0 b0
  go_wp2_with fail
  refine (HI.out _).mono ?_
  rintro e W2 ⟨v1, rfl, r1, b1⟩
  have R02 := Lib.hid (row_below R0.out b1 (Nat.le_refl _))
  have R1 := Lib.hid r1
  have B2 := Lib.hid (B0.out.trans (b1.mono B0.out.size))
  have S2 := b1.size
  clear r1 b1
  go_wp2_with fail
  refine (eqPow_same R1.out R02.out (by omega)).mono ?_
  rintro e W3 ⟨rfl, b3⟩
  have R03 := Lib.hid (row_below R02.out b3 (Nat.le_refl _))
  have R13 := Lib.hid (row_below R1.out b3 (Nat.le_refl _))
  have B3 := Lib.hid (B2.out.trans (b3.mono B2.out.size))
  clear b3 R02 R1
  go_wp2_with fail
  refine (markPow R13.out (by omega) (by omega) (by omega)).mono ?_
  rintro e W4 ⟨rfl, m4, g4⟩
  have R04 := Lib.hid (row_apart R03.out R13.out R0.out (Nat.le_refl _) g4)
  have B4 := Lib.hid (below_grown B3.out R13.out g4 B0.out.size B3.out.size)
  have M4 := Lib.hid m4
  clear m4 g4
  go_wp2_with fail
  refine (heldPow M4.out (by omega) (by omega) (by omega)).mono ?_
  rintro e W5 ⟨rfl, nd, rfl⟩
  have hlen : (0 : Int) ≤ (l.length : Int) := Int.natCast_nonneg _
  go_wp2_with fail
  refine (HI.out _).mono ?_
  rintro e W6 ⟨v6, rfl, r6, b6⟩
  have R06 := Lib.hid (row_below (w := W4.drewN nd) R04.out b6 (Nat.le_refl _))
  have M6 := Lib.hid (marked_below (w := W4.drewN nd) M4.out b6 (Nat.le_refl _))
  have R66 := Lib.hid r6
  have B6 := Lib.hid ((below_drewN B4.out nd).trans (b6.mono B4.out.size))
  clear r6 b6
  go_wp2_with fail
  refine (eqPow_same R66.out R06.out (by omega)).mono ?_
  rintro e W7 ⟨rfl, b7⟩
  have M7 := Lib.hid (marked_below M6.out b7 (Nat.le_refl _))
  have B7 := Lib.hid (B6.out.trans (b7.mono B6.out.size))
  clear b7
  go_wp2_with fail
  refine (heldPow M7.out (by omega) (by omega) (by omega)).mono ?_
  rintro e W8 ⟨rfl, nd8, rfl⟩
  go_wp2
  go_ret
  exact ⟨rfl, below_drewN B7.out _⟩
theorem exactFact_walk (n : Int) (_ : (Lit.int .i64 n).wf = true) (w : World) :
    Calls Try.prog 8 #[.int .i64 n] w fun e w' => e = .returned (.bool true) ∧ Below w.heap.size w w' := by
  by_cases h : 1 ≤ n ∧ n ≤ 1000000
  · exact exactFact_core n w (factT n) 0 (factT_length h.1 h.2) (fun w => specFact_val n w h.1 h.2) (fun w => implFact_val n w h.1 h.2)
  · have h' : n < 1 ∨ 1000000 < n := by omega
    exact exactFact_core n w [] 2 (by simp) (fun w => specFact_no n w h') (fun w => implFact_no n w h')
end Go.Proofs.Ytbhhnnnghdmhgaa
