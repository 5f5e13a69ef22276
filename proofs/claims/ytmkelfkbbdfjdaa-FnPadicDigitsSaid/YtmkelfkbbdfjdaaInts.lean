/- Contracts of the walk over lists of int64 in the call's own memory: eqInt64S, markInt64S, heldInt64S of the laws' package. Rows of at most 1100000 elements. -/
import Derived.Test.YtmkelfkbbdfjdaaRow
import Derived.Test.YtmkelfkbbdfjdaaPow
namespace Go.Proofs.Ytmkelfkbbdfjdaa
open Go.RowKit
set_option linter.unusedVariables false
def IntRow (base : Nat) (w : World) (v : Value) (l : List Int) : Prop := w.ownsRow base 2 1 v l.length (l.map (Value.int .i64))
theorem eqInt64S_nil (o1 o2 : Option Addr) (c1 c2 : Nat) (w : World) :
    Calls Try.prog 23 #[.slice o1 0 c1, .slice o2 0 c2] w fun e w' => e = .returned (.bool true) ∧ w = w' := by
  go_enter Try.func23, Try.ntmps23
  go_wp2
  refine wp_loop_rounds 1 ?_
  rw [rounds_succ]
  go_wp2
  go_ret
  exact ⟨rfl, rfl⟩
theorem eqInt64S_len (o1 o2 : Option Addr) (n m c1 c2 : Nat) (w : World) (h : n ≠ m) :
    Calls Try.prog 23 #[.slice o1 n c1, .slice o2 m c2] w fun e w' => e = .returned (.bool false) ∧ w = w' := by
  have h' : ((n : Int) != m) = true := by simp; omega
  clear h
  go_enter Try.func23, Try.ntmps23
  go_wp2
  go_ret
  exact ⟨rfl, rfl⟩
set_option maxHeartbeats 400000 in
theorem eqInt64S_row (g1 g2 n c1 c2 : Nat) (l1 l2 : List Int) (w : World) (hn : n ≤ 1100000)
    (hc1 : ∀ k, k < n → w.cell? ⟨g1, k, none⟩ = some (.int .i64 (l1.getD k 0)))
    (hc2 : ∀ k, k < n → w.cell? ⟨g2, k, none⟩ = some (.int .i64 (l2.getD k 0))) :
    Calls Try.prog 23 #[.slice (some ⟨g1, 0, none⟩) n c1, .slice (some ⟨g2, 0, none⟩) n c2] w fun e w' => e = .returned (.bool (decide (∀ k, k < n → l1.getD k 0 = l2.getD k 0))) ∧ ∃ m, w' = w.drewN m := by
  have HC1 := Lib.hid hc1
  have HC2 := Lib.hid hc2
  clear hc1 hc2
  go_enter Try.func23, Try.ntmps23
  go_wp2
  go_loopw [5] (fun i wr => ∃ k : Nat, k ≤ n ∧ i = .int .i64 k ∧ (∀ j, j < k → l1.getD j 0 = l2.getD j 0) ∧ ∃ nd, wr = w.drewN nd) (fun i _ => n - (intOf i).toNat)
  case atStart => exact ⟨0, Nat.zero_le _, rfl, fun j h => absurd h (Nat.not_lt_zero _), 0, rfl⟩
  case round =>
    obtain ⟨k, hk, rfl, hall, nd, rfl⟩ := hrel
    have HA := Lib.hid hall
    clear hall
    by_cases hlt : k < n
    · have a1 := HC1.out k hlt
      have b1 := HC2.out k hlt
      obtain ⟨x1, e1⟩ : ∃ x, l1.getD k 0 = x := ⟨_, rfl⟩
      obtain ⟨x2, e2⟩ : ∃ x, l2.getD k 0 = x := ⟨_, rfl⟩
      rw [e1] at a1
      rw [e2] at b1
      have HE1 := Lib.hid e1
      have HE2 := Lib.hid e2
      clear e1 e2
      by_cases hp : x1 = x2
      · subst hp
        go_wp2
        go_quiet (fail)
        go_wp2
        go_roundw
        case rel => exact ⟨k + 1, by omega, by go_num, allEq_succ HA.out (by rw [HE1.out, HE2.out]), nd + nq, by first | rfl | rw [World.drewN_drewN]⟩
        case measure => simp [intOf]; omega
      · have hp' : (x1 != x2) = true := by simpa using hp
        have HP := Lib.hid hp
        clear hp
        go_wp2
        go_quiet (fail)
        go_wp2
        go_ret
        exact ⟨ret_bool (Eq.symm (decide_eq_false (fun h => HP.out (by rw [← HE1.out, ← HE2.out]; exact h k hlt)))), nd + nq, by first | rfl | rw [World.drewN_drewN]⟩
    · have hkn : k = n := by omega
      have HK := Lib.hid hkn
      clear hkn
      go_wp2
      go_ret
      exact ⟨ret_bool (Eq.symm (decide_eq_true (fun j hj => HA.out j (by have := HK.out; omega)))), nd, rfl⟩
theorem int_cells {base : Nat} {w : World} {g c : Nat} {l : List Int} (h : IntRow base w (.slice (some ⟨g, 0, none⟩) l.length c) l) :
    ∀ k, k < l.length → w.cell? ⟨g, k, none⟩ = some (.int .i64 (l.getD k 0)) := by
  intro k hk
  rw [World.ownsRow.cellAt h k (by omega)]
  simp [List.getD, hk]
theorem eqInt_same {b1 b2 : Nat} {w : World} {v1 v2 : Value} {l : List Int} (h1 : IntRow b1 w v1 l) (h2 : IntRow b2 w v2 l) (hl : l.length ≤ 1100000) :
    Calls Try.prog 23 #[v1, v2] w fun e w' => e = .returned (.bool true) ∧ ∃ m, w' = w.drewN m := by
  rcases row_shape h1 with ⟨h0, o, c, rfl⟩ | ⟨h0, g, c, rfl, hb, hg⟩
  · rcases row_shape h2 with ⟨_, o', c', rfl⟩ | ⟨h0', _⟩
    · exact (eqInt64S_nil o o' c c' w).mono fun e w' ⟨he, hw⟩ => ⟨he, 0, hw.symm⟩
    · omega
  · rcases row_shape h2 with ⟨h0', _⟩ | ⟨_, g', c', rfl, hb', hg'⟩
    · omega
    · refine (eqInt64S_row g g' l.length c c' l l w hl (int_cells h1) (int_cells h2)).mono fun e w' ⟨he, hw⟩ => ⟨?_, hw⟩
      rw [he]; exact ret_bool (decide_eq_true fun _ _ => rfl)
end Go.Proofs.Ytmkelfkbbdfjdaa
