/- Walk of the law FnExactFromDigits: true at every input. -/
import Derived.Test.YtjmecidbnoimnaaDigLaw2
namespace Go.Proofs.Ytjmecidbnoimnaa
open Go.RowKit
set_option linter.unusedVariables false
set_option maxRecDepth 20000
set_option linter.unusedSimpArgs false
set_option maxHeartbeats 400000 in
theorem eqInt64S_rowL (g1 g2 n c1 c2 : Nat) (l1 l2 : List Int) (w : World) (hn : n ≤ 1100000)
    (hc1 : ∀ k, k < n → w.cell? ⟨g1, k, none⟩ = some (.int .i64 (l1.getD k 0)))
    (hc2 : ∀ k, k < n → w.cell? ⟨g2, k, none⟩ = some (.int .i64 (l2.getD k 0))) :
    Calls Try.prog 31 #[.slice (some ⟨g1, 0, none⟩) n c1, .slice (some ⟨g2, 0, none⟩) n c2] w fun e w' => e = .returned (.bool (decide (∀ k, k < n → l1.getD k 0 = l2.getD k 0))) ∧ ∃ m, w' = w.drewN m := by
  have HC1 := Lib.hid hc1
  have HC2 := Lib.hid hc2
  clear hc1 hc2
  go_enter Try.func31, Try.ntmps31
  go_wp2
  go_loopw [5] (fun i wr => ∃ k : Nat, k ≤ n ∧ i = .int .i64 k ∧ (∀ j, j < k → l1.getD j 0 = l2.getD j 0) ∧ ∃ nd, wr = w.drewN nd) (fun i _ => n - (intOf i).toNat)
  case atStart => exact ⟨0, Nat.zero_le _, rfl, fun j h => absurd h (Nat.not_lt_zero _), 0, rfl⟩
  case round =>
    obtain ⟨k, hk, rfl, hall, nd, rfl⟩ := hrel
    have HA := Lib.hid hall
    clear hall
    by_cases hlt : k < n
    · have a1 := HC1.out k hlt
      have b1 := HC2.out k hlt
      obtain ⟨x1, e1⟩ : ∃ x, l1.getD k 0 = x := ⟨_, rfl⟩
      obtain ⟨x2, e2⟩ : ∃ x, l2.getD k 0 = x := ⟨_, rfl⟩
      rw [e1] at a1
      rw [e2] at b1
      have HE1 := Lib.hid e1
      have HE2 := Lib.hid e2
      clear e1 e2
      by_cases hp : x1 = x2
      · subst hp
        go_wp2
        go_quiet (fail)
        go_wp2
        go_roundw
        case rel => exact ⟨k + 1, by omega, by go_num, allEq_succ HA.out (by rw [HE1.out, HE2.out]), nd + nq, by first | rfl | rw [World.drewN_drewN]⟩
        case measure => simp [intOf]; omega
      · have hp' : (x1 != x2) = true := by simpa using hp
        have HP := Lib.hid hp
        clear hp
        go_wp2
        go_quiet (fail)
        go_wp2
        go_ret
        exact ⟨ret_bool (Eq.symm (decide_eq_false (fun h => HP.out (by rw [← HE1.out, ← HE2.out]; exact h k hlt)))), nd + nq, by first | rfl | rw [World.drewN_drewN]⟩
    · have hkn : k = n := by omega
      have HK := Lib.hid hkn
      clear hkn
      go_wp2
      go_ret
      exact ⟨ret_bool (Eq.symm (decide_eq_true (fun j hj => HA.out j (by have := HK.out; omega)))), nd, rfl⟩
theorem eqInt_sameL {b1 b2 : Nat} {w : World} {v1 v2 : Value} {l : List Int} (h1 : IntRow b1 w v1 l) (h2 : IntRow b2 w v2 l) (hl : l.length ≤ 1100000) :
    Calls Try.prog 31 #[v1, v2] w fun e w' => e = .returned (.bool true) ∧ ∃ m, w' = w.drewN m := by
  rcases row_shape h1 with ⟨h0, o, c, rfl⟩ | ⟨h0, g, c, rfl, hb, hg⟩
  · rcases row_shape h2 with ⟨_, o', c', rfl⟩ | ⟨h0', _⟩
    · exact (eqInt64S_nil o o' c c' w).mono fun e w' ⟨he, hw⟩ => ⟨he, 0, hw.symm⟩
    · omega
  · rcases row_shape h2 with ⟨h0', _⟩ | ⟨_, g', c', rfl, hb', hg'⟩
    · omega
    · refine (eqInt64S_rowL g g' l.length c c' l l w hl (int_cells h1) (int_cells h2)).mono fun e w' ⟨he, hw⟩ => ⟨?_, hw⟩
      rw [he]; exact ret_bool (decide_eq_true fun _ _ => rfl)
set_option maxRecDepth 20000 in
theorem exactFrom_core (p place : Int) (a : Option Addr) (cap : Nat) (l : List Int) (w : World) (hl : l.length ≤ 1048576) (ha : ArgInt w a l) :
    Calls Try.prog 4 #[.int .i64 p, .int .i64 place, .slice a l.length cap] w fun e w' => e = .returned (.bool true) ∧ Below w.heap.size w w' := by
  have HA := Lib.hid ha
  have HS := Lib.hid fun (w : World) (v : Value) (b : Nat) (h : IntRow b w v l) => specFrom_any p place h (by omega)
  have HI := Lib.hid fun (w : World) (v : Value) (b : Nat) (h : IntRow b w v l) => implFrom_any p place h (by omega)
  have HT := Lib.hid fun (w : World) (h : ArgInt w a l) => toInt64S_any a cap l w hl h
  generalize fromQ p place l = q at *
  generalize fromC p place l = c at *
  clear ha
  go_enter Try.func4, Try.ntmps4
  go_wp2_with fail
  refine (HT.out _ HA.out).mono ?_
  rintro e W1 ⟨v0, rfl, r0, b0⟩
  go_wp2_with fail
  refine (HS.out _ _ _ r0).mono ?_
  rintro e W2 ⟨rfl, b2⟩
  have B2 := b0.trans (b2.mono b0.size)
  have B3 := B2.trans ((below_a1 W2 (.cells (A4 q) 34)).mono B2.size)
  have L1 := lies_new W2 (A4 q) 34
  have A3 := Lib.hid (argInt_below HA.out B3)
  clear r0 b0 b2
  go_wp2_with fail
  generalize W2.alloc (.cells (A4 q) 34) = V2 at *
  obtain ⟨b1, hb1⟩ : ∃ b, W2.heap.size = b := ⟨_, rfl⟩
  rw [hb1] at L1 ⊢
  clear hb1 B2
  refine (HT.out _ A3.out).mono ?_
  rintro e W3 ⟨v1, rfl, r1, b3⟩
  have R1 := Lib.hid r1
  have B4 := B3.trans (b3.mono B3.size)
  have L2 := lies_next L1 b3
  clear L1 r1 b3
  go_wp2_with fail
  refine (HI.out _ _ _ R1.out).mono ?_
  rintro e W4 ⟨rfl, b4⟩
  have B5 := B4.trans (b4.mono B4.size)
  have L3 := lies_alloc (lies_next L2 b4) (.cells (A4 q) 34)
  have L4 := lies_new W4 (A4 q) 34
  have R2 := Lib.hid (row_below (row_below R1.out b4 (Nat.le_refl _)) (below_a1 W4 (.cells (A4 q) 34)) (Nat.le_refl _))
  have B6 := B5.trans ((below_a1 W4 (.cells (A4 q) 34)).mono B5.size)
  obtain ⟨c0, c1, c2, c3⟩ := lies_four L3
  obtain ⟨d0, d1, d2, d3⟩ := lies_four L4
  clear L2 b4
  go_wp2_with fail
  refine (eqPadic_any _ _ _ _ _).mono ?_
  rintro e W5 ⟨rfl, b5⟩
  have B7 := B6.trans (b5.mono B6.size)
  have R3 := Lib.hid (row_below R2.out b5 (Nat.le_refl _))
  have A7 := Lib.hid (argInt_below HA.out B7)
  clear L3 L4 c0 c1 c2 c3 d0 d1 d2 d3 b5
  go_wp2_with fail
  refine (HT.out _ A7.out).mono ?_
  rintro e W6 ⟨v2, rfl, r2, b6⟩
  have B8 := B7.trans (b6.mono B7.size)
  have R4 := Lib.hid (row_below R3.out b6 (Nat.le_refl _))
  have R5 := Lib.hid r2
  clear r2 b6
  go_wp2_with fail
  refine (eqInt_sameL R4.out R5.out (by omega)).mono ?_
  rintro e W7 ⟨rfl, nd, rfl⟩
  go_wp2
  go_ret
  exact ⟨rfl, below_drewN B8 _⟩
theorem exactFrom_walk (p place : Int) (a : Option Addr) (len cap : Nat) (z : List Int) (w : World) (_ : (Lit.int .i64 p).wf = true) (_ : (Lit.int .i64 place).wf = true)
    (h : (a = none ∧ len = 0 ∧ cap = 0 ∧ z = []) ∨ ∃ x, a = some x ∧ len ≤ cap ∧ cap ≤ maxLen ∧ z.length = cap ∧ (∀ i, i < z.length → w.cell? (x.add i) = some (.int .i64 (z.getD i 0))) ∧ ∀ n ∈ z, (Lit.int .i64 n).wf = true) :
    Calls Try.prog 4 #[.int .i64 p, .int .i64 place, .slice a len cap] w fun e w' => e = .returned (.bool true) ∧ Below w.heap.size w w' := by
  by_cases hlen : len ≤ 1048576
  · have ha : ∃ l : List Int, l.length = len ∧ ArgInt w a l := by
      rcases h with ⟨rfl, rfl, rfl, rfl⟩ | ⟨x, rfl, h1, h2, h3, h4, _⟩
      · exact ⟨[], rfl, .inl rfl⟩
      · refine ⟨z.take len, by rw [List.length_take]; omega, ?_⟩
        by_cases h0 : len = 0
        · exact .inl (by rw [List.length_take]; omega)
        · obtain ⟨b, off, spot⟩ := x
          have c0 := h4 0 (by omega)
          have hs : spot = none := by
            cases spot with
            | none => rfl
            | some s =>
              simp only [World.cell?, Addr.add] at c0
              cases hh : w.heap[b]? with
              | none => simp [hh] at c0
              | some o => cases o <;> simp [hh] at c0
          subst hs
          have hlt := World.block_lt_of_cell? _ _ c0
          refine .inr ⟨b, off, rfl, hlt, fun k hk => ?_⟩
          rw [List.length_take] at hk
          have c := h4 k (by omega)
          have e : (⟨b, off, none⟩ : Addr).add k = ⟨b, off + k, none⟩ := by
            by_cases hk0 : k = 0
            · subst hk0; simp [Addr.add]
            · simp [Addr.add, hk0]
          rw [e] at c
          rw [c]
          congr 2
          simp [List.getD, List.getElem?_take, show k < len by omega]
    obtain ⟨l, rfl, hA⟩ := ha
    exact exactFrom_core p place a cap l w hlen hA
  · have hmax : (len : Int) ≤ 9223372036854775807 := by
      rcases h with ⟨_, rfl, _⟩ | ⟨x, _, h1, h2, _⟩
      · omega
      · unfold maxLen at h2; omega
    clear h
    go_enter Try.func4, Try.ntmps4
    go_wp2
    go_ret
    exact ⟨rfl, Below.refl _ _⟩
end Go.Proofs.Ytjmecidbnoimnaa
