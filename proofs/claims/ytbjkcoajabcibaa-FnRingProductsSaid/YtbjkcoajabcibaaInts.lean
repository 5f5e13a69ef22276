/- Contracts of the walk over lists of int64 in the call's own memory: eqInt64S, markInt64S, heldInt64S of the laws' package. Rows of at most 1100000 elements. -/
import Derived.Test.YtbjkcoajabcibaaRow
import Derived.Test.YtbjkcoajabcibaaPow
namespace Go.Proofs.Ytbjkcoajabcibaa
open Go.RowKit
set_option linter.unusedVariables false
def IntRow (base : Nat) (w : World) (v : Value) (l : List Int) : Prop := w.ownsRow base 2 1 v l.length (l.map (Value.int .i64))
theorem eqInt64S_nil (o1 o2 : Option Addr) (c1 c2 : Nat) (w : World) :
    Calls Try.prog 53 #[.slice o1 0 c1, .slice o2 0 c2] w fun e w' => e = .returned (.bool true) ∧ w = w' := by
  go_enter Try.func53, Try.ntmps53
  go_wp2
  refine wp_loop_rounds 1 ?_
  rw [rounds_succ]
  go_wp2
  go_ret
  exact ⟨rfl, rfl⟩
theorem eqInt64S_len (o1 o2 : Option Addr) (n m c1 c2 : Nat) (w : World) (h : n ≠ m) :
    Calls Try.prog 53 #[.slice o1 n c1, .slice o2 m c2] w fun e w' => e = .returned (.bool false) ∧ w = w' := by
  have h' : ((n : Int) != m) = true := by simp; omega
  clear h
  go_enter Try.func53, Try.ntmps53
  go_wp2
  go_ret
  exact ⟨rfl, rfl⟩
set_option maxHeartbeats 400000 in
theorem eqInt64S_row (g1 g2 n c1 c2 : Nat) (l1 l2 : List Int) (w : World) (hn : n ≤ 1100000)
    (hc1 : ∀ k, k < n → w.cell? ⟨g1, k, none⟩ = some (.int .i64 (l1.getD k 0)))
    (hc2 : ∀ k, k < n → w.cell? ⟨g2, k, none⟩ = some (.int .i64 (l2.getD k 0))) :
    Calls Try.prog 53 #[.slice (some ⟨g1, 0, none⟩) n c1, .slice (some ⟨g2, 0, none⟩) n c2] w fun e w' => e = .returned (.bool (decide (∀ k, k < n → l1.getD k 0 = l2.getD k 0))) ∧ ∃ m, w' = w.drewN m := by
  have HC1 := Lib.hid hc1
  have HC2 := Lib.hid hc2
  clear hc1 hc2
  go_enter Try.func53, Try.ntmps53
  go_wp2
  go_loopw [5] (fun i wr => ∃ k : Nat, k ≤ n ∧ i = .int .i64 k ∧ (∀ j, j < k → l1.getD j 0 = l2.getD j 0) ∧ ∃ nd, wr = w.drewN nd) (fun i _ => n - (intOf i).toNat)
  case atStart => exact ⟨0, Nat.zero_le _, rfl, fun j h => absurd h (Nat.not_lt_zero _), 0, rfl⟩
  case round =>
    obtain ⟨k, hk, rfl, hall, nd, rfl⟩ := hrel
    have HA := Lib.hid hall
    clear hall
    by_cases hlt : k < n
    · have a1 := HC1.out k hlt
      have b1 := HC2.out k hlt
      obtain ⟨x1, e1⟩ : ∃ x, l1.getD k 0 = x := ⟨_, rfl⟩
      obtain ⟨x2, e2⟩ : ∃ x, l2.getD k 0 = x := ⟨_, rfl⟩
      rw [e1] at a1
      rw [e2] at b1
      have HE1 := Lib.hid e1
      have HE2 := Lib.hid e2
      clear e1 e2
      by_cases hp : x1 = x2
      · subst hp
        go_wp2
        go_quiet (fail)
        go_wp2
        go_roundw
        case rel => exact ⟨k + 1, by omega, by go_num, allEq_succ HA.out (by rw [HE1.out, HE2.out]), nd + nq, by first | rfl | rw [World.drewN_drewN]⟩
        case measure => simp [intOf]; omega
      · have hp' : (x1 != x2) = true := by simpa using hp
        have HP := Lib.hid hp
        clear hp
        go_wp2
        go_quiet (fail)
        go_wp2
        go_ret
        exact ⟨ret_bool (Eq.symm (decide_eq_false (fun h => HP.out (by rw [← HE1.out, ← HE2.out]; exact h k hlt)))), nd + nq, by first | rfl | rw [World.drewN_drewN]⟩
    · have hkn : k = n := by omega
      have HK := Lib.hid hkn
      clear hkn
      go_wp2
      go_ret
      exact ⟨ret_bool (Eq.symm (decide_eq_true (fun j hj => HA.out j (by have := HK.out; omega)))), nd, rfl⟩
theorem markInt64S_nil (o : Option Addr) (c : Nat) (q : Int) (w : World) :
    Calls Try.prog 54 #[.slice o 0 c, .int .i64 q] w fun e w' => e = .returned (.int .i64 q) ∧ w = w' := by
  go_enter Try.func54, Try.ntmps54
  go_wp2
  refine wp_loop_rounds 1 ?_
  rw [rounds_succ]
  go_wp2
  go_ret
  exact ⟨rfl, rfl⟩
theorem heldInt64S_nil (o : Option Addr) (c : Nat) (q : Int) (w : World) :
    Calls Try.prog 55 #[.slice o 0 c, .int .i64 q] w fun e w' => e = .returned (.int .i64 q) ∧ w = w' := by
  go_enter Try.func55, Try.ntmps55
  go_wp2
  refine wp_loop_rounds 1 ?_
  rw [rounds_succ]
  go_wp2
  go_ret
  exact ⟨rfl, rfl⟩
set_option maxHeartbeats 400000 in
theorem markInt64S_row (g n c : Nat) (q : Int) (w : World) (hn : n ≤ 1100000) (hq0 : 0 ≤ q) (hq1 : q ≤ 2500000)
    (hc : ∀ o, o < n * 1 → ∃ v, w.cell? ⟨g, o, none⟩ = some v) (hf : ∀ o, w.frozen? ⟨g, o, none⟩ = false) :
    Calls Try.prog 54 #[.slice (some ⟨g, 0, none⟩) n c, .int .i64 q] w fun e w' => e = .returned (.int .i64 (q + (n : Int))) ∧ MarkSt w w' g (n * 1) (n * 1) q ∧ ∀ o, w'.frozen? ⟨g, o, none⟩ = false := by
  have HS := Lib.hid (markSt_start (c := q) hc)
  have HF := Lib.hid hf
  clear hc hf
  go_enter Try.func54, Try.ntmps54
  go_wp2
  go_loopw [5, 1] (fun i m wr => ∃ (k : Nat) (x : Int), k ≤ n ∧ i = .int .i64 k ∧ m = .int .i64 x ∧ x = q + (k : Int) ∧ MarkSt w wr g (n * 1) k q ∧ ∀ o, wr.frozen? ⟨g, o, none⟩ = false) (fun i _ _ => n - (intOf i).toNat)
  case atStart => exact ⟨0, q, Nat.zero_le _, rfl, rfl, by omega, HS.out, HF.out⟩
  case round =>
    obtain ⟨k, x, hk, rfl, rfl, hx, hm, hfr⟩ := hrel
    have bx0 : 0 ≤ x := by omega
    have bx1 : x ≤ 4000000 := by omega
    have HX := Lib.hid hx
    have HM := Lib.hid hm
    have HR := Lib.hid hfr
    clear hx hm hfr HS HF
    by_cases hlt : k < n
    · obtain ⟨v0, c0⟩ := HM.out.cells k (by omega)
      have m1 := Lib.hid (markSt_step HM.out (q := x) (by omega : k < n * 1) (by have := HX.out; omega))
      have f0 := HR.out k
      go_wp2
      go_roundw
      case rel => exact ⟨k + 1, x + 1, by omega, by go_num, rfl, by have := HX.out; omega, m1.out, fun o => by rw [World.frozen?_setCell]; exact HR.out o⟩
      case measure => simp [intOf]; omega
    · have hkn : k = n := by omega
      have HK := Lib.hid hkn
      clear hkn
      go_wp2
      go_ret
      exact ⟨ret_int (by have := HX.out; have := HK.out; omega), by have h := HM.out; rw [HK.out] at h; rw [Nat.mul_one] at h ⊢; exact h, HR.out⟩
set_option maxHeartbeats 400000 in
theorem heldInt64S_row (g n c : Nat) (q : Int) (w : World) (hn : n ≤ 1100000) (hq0 : 0 ≤ q) (hq1 : q ≤ 2500000)
    (hc : ∀ o : Nat, o < n * 1 → w.cell? ⟨g, o, none⟩ = some (.int .i64 (q + o))) :
    Calls Try.prog 55 #[.slice (some ⟨g, 0, none⟩) n c, .int .i64 q] w fun e w' => e = .returned (.int .i64 (q + (n : Int))) ∧ ∃ m, w' = w.drewN m := by
  have HC := Lib.hid hc
  clear hc
  go_enter Try.func55, Try.ntmps55
  go_wp2
  go_loopw [5, 1] (fun i m wr => ∃ (k : Nat) (x : Int), k ≤ n ∧ i = .int .i64 k ∧ m = .int .i64 x ∧ x = q + (k : Int) ∧ ∃ nd, wr = w.drewN nd) (fun i _ _ => n - (intOf i).toNat)
  case atStart => exact ⟨0, q, Nat.zero_le _, rfl, rfl, by omega, 0, rfl⟩
  case round =>
    obtain ⟨k, x, hk, rfl, rfl, hx, nd, rfl⟩ := hrel
    have bx0 : 0 ≤ x := by omega
    have bx1 : x ≤ 4000000 := by omega
    have HX := Lib.hid hx
    clear hx
    by_cases hlt : k < n
    · have c0 := HC.out k (by omega)
      rw [show q + (k : Int) = x by have := HX.out; omega] at c0
      go_wp2
      go_roundw
      case rel => exact ⟨k + 1, x + 1, by omega, by go_num, rfl, by have := HX.out; omega, nd, rfl⟩
      case measure => simp [intOf]; omega
    · have hkn : k = n := by omega
      have HK := Lib.hid hkn
      clear hkn
      go_wp2
      go_ret
      exact ⟨ret_int (by have := HX.out; have := HK.out; omega), nd, rfl⟩
theorem int_cells {base : Nat} {w : World} {g c : Nat} {l : List Int} (h : IntRow base w (.slice (some ⟨g, 0, none⟩) l.length c) l) :
    ∀ k, k < l.length → w.cell? ⟨g, k, none⟩ = some (.int .i64 (l.getD k 0)) := by
  intro k hk
  rw [World.ownsRow.cellAt h k (by omega)]
  simp [List.getD, hk]
theorem eqInt_same {b1 b2 : Nat} {w : World} {v1 v2 : Value} {l : List Int} (h1 : IntRow b1 w v1 l) (h2 : IntRow b2 w v2 l) (hl : l.length ≤ 1100000) :
    Calls Try.prog 53 #[v1, v2] w fun e w' => e = .returned (.bool true) ∧ ∃ m, w' = w.drewN m := by
  rcases row_shape h1 with ⟨h0, o, c, rfl⟩ | ⟨h0, g, c, rfl, hb, hg⟩
  · rcases row_shape h2 with ⟨_, o', c', rfl⟩ | ⟨h0', _⟩
    · exact (eqInt64S_nil o o' c c' w).mono fun e w' ⟨he, hw⟩ => ⟨he, 0, hw.symm⟩
    · omega
  · rcases row_shape h2 with ⟨h0', _⟩ | ⟨_, g', c', rfl, hb', hg'⟩
    · omega
    · refine (eqInt64S_row g g' l.length c c' l l w hl (int_cells h1) (int_cells h2)).mono fun e w' ⟨he, hw⟩ => ⟨?_, hw⟩
      rw [he]; exact ret_bool (decide_eq_true fun _ _ => rfl)
theorem markInt {b : Nat} {w : World} {v : Value} {l : List Int} {q : Int} (h : IntRow b w v l) (hl : l.length ≤ 1100000) (h0 : 0 ≤ q) (h1 : q ≤ 2500000) :
    Calls Try.prog 54 #[v, .int .i64 q] w fun e w' => e = .returned (.int .i64 (q + (l.length : Int))) ∧ MarkedRow w' v l.length 1 q ∧ w.grownBy w' v.ownBlock := by
  rcases row_shape h with ⟨hz, o, c, rfl⟩ | ⟨hz, g, c, rfl, hb, hg⟩
  · refine (markInt64S_nil o c q w).mono fun e w' ⟨he, hw⟩ => ⟨?_, .inl ⟨hz, o, c, rfl⟩, hw ▸ World.grownBy.refl _ _⟩
    rw [he, hz]; exact ret_int (by simp)
  · refine (markInt64S_row g l.length c q w hl h0 h1 (fun o ho => ?_) (fun o => World.ownsRow.frozenAt h o)).mono fun e w' ⟨he, hm, _⟩ => ⟨he, .inr ⟨g, c, rfl, by have := hm.grown.size; omega, hm.marks⟩, hm.grown⟩
    rw [World.ownsRow.cellAt h o ho]
    have : o < (l.map (Value.int .i64)).length := by rw [List.length_map]; omega
    exact ⟨_, List.getElem?_eq_getElem this⟩
theorem heldInt {w : World} {v : Value} {n : Nat} {q : Int} (h : MarkedRow w v n 1 q) (hl : n ≤ 1100000) (h0 : 0 ≤ q) (h1 : q ≤ 2500000) :
    Calls Try.prog 55 #[v, .int .i64 q] w fun e w' => e = .returned (.int .i64 (q + (n : Int))) ∧ ∃ m, w' = w.drewN m := by
  rcases h with ⟨hz, o, c, rfl⟩ | ⟨g, c, rfl, hg, hc⟩
  · refine (heldInt64S_nil o c q w).mono fun e w' ⟨he, hw⟩ => ⟨?_, 0, hw.symm⟩
    rw [he, hz]; exact ret_int (by simp)
  · exact heldInt64S_row g n c q w hl h0 h1 hc
end Go.Proofs.Ytbjkcoajabcibaa
